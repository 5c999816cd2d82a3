import Derived.Test.YtjlknnpgngaooaaGreatDoorJd
import Derived.Test.YtjlknnpgngaooaaGreatDoorJb
import Derived.Test.YtjlknnpgngaooaaGreatDoorJl
import Derived.Test.YtjlknnpgngaooaaGreatDoorJi
import Derived.Test.YtjlknnpgngaooaaGreatDoorJe
import Derived.Test.YtjlknnpgngaooaaGreatDoorJa
import Derived.Test.YtjlknnpgngaooaaGreatDoorJj
import Derived.Test.YtjlknnpgngaooaaGreatDoorJg
import Derived.Deep.CutBlock
import Derived.Test.YtjlknnpgngaooaaGreatDoorJh
import Derived.Lib.ValidLaws
namespace Go.Proofs.YtjlknnpgngaooaaGreatDoor
section
open Go.RowKit Go
/-- What the reference's Form gives. -/
def FrmP (w : World) (xs : List Nat) (e : Ending) (w' : World) : Prop := ∃ v, e = .returned v ∧ w'.ownsRow w.heap.size 5 1 v xs.length (bv xs) ∧ Below w.heap.size w w'
theorem own_two7 (w : World) : (w.alloc (.cells #[.int .u8 216, .int .u8 42] 5)).ownsRow w.heap.size 5 1 (.slice (some ⟨w.heap.size, 0, none⟩) 2 2) 2 (bv [216, 42]) :=
  ⟨rfl, .inr ⟨w.heap.size, 2, _, rfl, Nat.le_refl _, heap_alloc_new w _, Nat.le_refl _, by decide, rfl, rfl⟩⟩
theorem refBytes7 (w : World) (l : Lk) (hl : Lkb l) (hk : lok l) : Calls Tryz.prog 98 #[.agg #[.int .i64 l.v, .int .u64 (l.c : Nat), .int .u64 (l.h : Nat), .string (nstr l.d)]] w fun e w' => ∃ v', e = .returned (.tuple #[v', .int .i64 0]) ∧ w'.ownsRow w.heap.size 5 1 v' (lbytes l).length (bv (lbytes l)) ∧ Below w.heap.size w w' ∧ (∀ x ∈ lbytes l, x < 256) ∧ (lbytes l).length ≤ 140737488351000 := by
  have h := refBytes_any w l.v l.c l.h (nstr l.d) hl.h (by rw [hl.size]; exact hl.n)
  have e : sl (nstr l.d) = l.d := sl_nstr hl.d
  rw [e] at h
  have e2 : (⟨l.v, l.c, l.h, l.d⟩ : Lk) = l := rfl
  rw [e2, if_pos hk, if_pos hk] at h
  refine h.mono ?_
  rintro e w' ⟨v', rfl, h1, h2⟩
  exact ⟨v', rfl, h1, h2, lbytes_byte hk hl.d, by have := lbytes_len hk; omega⟩
set_option maxRecDepth 1000000 in
set_option maxHeartbeats 2000000 in
theorem rform_leaf (w : World) (t : Tv) (cs : Array Value) (ht : Tin w t cs) (hpt : Ptr t) (h8 : t.k ≠ 8) (h9 : t.k ≠ 9) (hsz : t.s.size ≤ 140737488351232) : Calls Tryz.prog 57 #[.agg cs] w (FrmP w (tfm t)) := by
  have hb0 := below_alloc4 w (.cells cs 65)
  have HB0 := hide hb0
  have HG0 := hide (heap_alloc_new w (.cells cs 65))
  have ht0 := ht.move (keep_below hb0)
  have HSS := hide hsz
  clear ht hb0 hsz
  generalize hw0 : w.alloc (.cells cs 65) = w0 at *
  have HW0 := hide hw0
  clear hw0
  obtain ⟨vy, vk, vi, rfl, hy, hk, hv, hb⟩ := ht0.parts
  have HBD := hide hb
  have HY := hide hy
  obtain ⟨⟨ay, cy, hvy, _, _⟩, _, _⟩ := hy
  subst hvy
  clear hb hk hv ht0
  have q0 : w0.cell? ⟨w.heap.size, 0, none⟩ = some (.int .i64 t.k) := blk_cell (j := 0) HG0.out rfl
  have HFM := hide (tfm_of7 t)
  have HLC : Hid (∀ j u, (#[.int .i64 t.l.v, .int .u64 (t.l.c : Nat), .int .u64 (t.l.h : Nat), .string (nstr t.l.d)] : Array Value)[j]? = some u → w0.cell? ⟨w.heap.size, 7 + j, none⟩ = some u) := fun j u hu => blk_cell (j := 7 + j) HG0.out (by
    have hj := (Array.getElem?_eq_some_iff.1 hu).1
    have hj2 : j < 4 := hj
    have : j = 0 ∨ j = 1 ∨ j = 2 ∨ j = 3 := by omega
    rcases this with rfl | rfl | rfl | rfl <;> exact hu)
  have hk19 : 1 ≤ t.k ∧ t.k ≤ 9 ∧ (t.k = 7 → lok t.l) := by
    cases hpt with
    | mk _ a b c d => exact ⟨a.1, a.2, b⟩
  clear hpt
  by_cases h1 : t.k = 1
  · as_aux_lemma =>
    have g2 : (t.k == 2) = false := beq_eq_false_iff_ne.2 (by omega)
    have g3 : (t.k == 3) = false := beq_eq_false_iff_ne.2 (by omega)
    have g4 : (t.k == 4) = false := beq_eq_false_iff_ne.2 (by omega)
    have g5 : (t.k == 5) = false := beq_eq_false_iff_ne.2 (by omega)
    have g6 : (t.k == 6) = false := beq_eq_false_iff_ne.2 (by omega)
    have g7 : (t.k == 7) = false := beq_eq_false_iff_ne.2 (by omega)
    have g8 : (t.k == 8) = false := beq_eq_false_iff_ne.2 (by omega)
    have g9 : (t.k == 9) = false := beq_eq_false_iff_ne.2 (by omega)
    have HFE : Hid (tfm t = [246]) := by show _ = _; rw [HFM.out, if_pos h1]
    rw [HFE.out]
    clear HFM HFE h8 h9 hk19 h1
    go_enter Tryz.func57, Tryz.ntmps57
    go_upto_region 1 with fail
    rw [HW0.out]
    go_wp2_with fail
    go_ret
    exact ⟨_, rfl, own_mono (own_one w0 246) HB0.out.size, HB0.out.trans ((below_alloc4 w0 _).mono HB0.out.size)⟩
  by_cases h2 : t.k = 2
  · as_aux_lemma =>
    have g2 : (t.k == 2) = true := beq_iff_eq.2 h2
    have HFE : Hid (tfm t = [if t.f = true then 245 else 244]) := by show _ = _; rw [HFM.out, if_neg (by rw [h2]; decide), if_pos h2]
    have q1 : w0.cell? ⟨w.heap.size, 1, none⟩ = some (.bool t.f) := blk_cell (j := 1) HG0.out rfl
    rw [HFE.out]
    clear HG0 HLC HY HBD
    generalize t.f = fl at *
    clear HFM HFE h8 h9 hk19 h2
    cases fl
    · go_enter Tryz.func57, Tryz.ntmps57
      go_upto_region 1 with fail
      rw [HW0.out]
      go_wp2_with fail
      go_ret
      exact ⟨_, rfl, own_mono (own_one w0 244) HB0.out.size, HB0.out.trans ((below_alloc4 w0 _).mono HB0.out.size)⟩
    · go_enter Tryz.func57, Tryz.ntmps57
      go_upto_region 1 with fail
      rw [HW0.out]
      go_wp2_with fail
      go_ret
      exact ⟨_, rfl, own_mono (own_one w0 245) HB0.out.size, HB0.out.trans ((below_alloc4 w0 _).mono HB0.out.size)⟩
  by_cases h3 : t.k = 3
  · as_aux_lemma =>
    have g2 : (t.k == 2) = false := beq_eq_false_iff_ne.2 (by omega)
    have g3 : (t.k == 3) = true := beq_iff_eq.2 h3
    have HFE : Hid (tfm t = hl (if t.g = true then 1 else 0) t.n) := by show _ = _; rw [HFM.out, if_neg (by rw [h3]; decide), if_neg (by rw [h3]; decide), if_pos h3]
    have q2 : w0.cell? ⟨w.heap.size, 2, none⟩ = some (.bool t.g) := blk_cell (j := 2) HG0.out rfl
    have q3 : w0.cell? ⟨w.heap.size, 3, none⟩ = some (.int .u64 (t.n : Nat)) := blk_cell (j := 3) HG0.out rfl
    rw [HFE.out]
    clear HFM HFE h8 h9 hk19 h3
    have HLN := hide HBD.out.n
    clear HG0 HLC HY HBD
    generalize t.g = fl at *
    generalize t.n = n at *
    cases fl
    · go_enter Tryz.func57, Tryz.ntmps57
      go_upto_region 1 with fail
      rw [HW0.out]
      go_wp2_with fail
      refine (refLay_any 0 n w0 (by omega) HLN.out).mono ?_
      rintro e w1 ⟨v1, rfl, ho1, hb1⟩
      have HO1 := hide ho1
      have HB1 : Hid (Below w.heap.size w w1) := HB0.out.trans (hb1.mono HB0.out.size)
      clear ho1 hb1
      go_wp2_with fail
      go_ret
      refine ⟨_, rfl, own_mono ?_ HB0.out.size, HB1.out⟩
      have h := HO1.out
      unfold hlay at h
      rw [if_pos (by decide)] at h
      exact h
    · go_enter Tryz.func57, Tryz.ntmps57
      go_upto_region 1 with fail
      rw [HW0.out]
      go_wp2_with fail
      refine (refLay_any 1 n w0 (by omega) HLN.out).mono ?_
      rintro e w1 ⟨v1, rfl, ho1, hb1⟩
      have HO1 := hide ho1
      have HB1 : Hid (Below w.heap.size w w1) := HB0.out.trans (hb1.mono HB0.out.size)
      clear ho1 hb1
      go_wp2_with fail
      go_ret
      refine ⟨_, rfl, own_mono ?_ HB0.out.size, HB1.out⟩
      have h := HO1.out
      unfold hlay at h
      rw [if_pos (by decide)] at h
      exact h
  by_cases h4 : t.k = 4
  · as_aux_lemma =>
    have g2 : (t.k == 2) = false := beq_eq_false_iff_ne.2 (by omega)
    have g3 : (t.k == 3) = false := beq_eq_false_iff_ne.2 (by omega)
    have g4 : (t.k == 4) = true := beq_iff_eq.2 h4
    have HFE : Hid (tfm t = 251 :: be 8 t.b) := by show _ = _; rw [HFM.out, if_neg (by rw [h4]; decide), if_neg (by rw [h4]; decide), if_neg (by rw [h4]; decide), if_pos h4]
    have q4 : w0.cell? ⟨w.heap.size, 4, none⟩ = some (.int .u64 (t.b : Nat)) := blk_cell (j := 4) HG0.out rfl
    rw [HFE.out]
    clear HFM HFE h8 h9 hk19 h4
    go_enter Tryz.func57, Tryz.ntmps57
    go_upto_region 1 with fail
    rw [HW0.out]
    have HO1 := hide (own_one w0 251)
    have HB1 := hide (below_alloc4 w0 (.cells #[.int .u8 251] 5))
    have q4 : (w0.alloc (.cells #[.int .u8 251] 5)).cell? ⟨w.heap.size, 4, none⟩ = some (.int .u64 (t.b : Nat)) := keep_below HB1.out _ _ q4
    go_wp2_with fail
    refine (reight_any t.b HBD.out.b _).mono ?_
    rintro e w2 ⟨v2, rfl, ho2, hb2⟩
    have HO2 : Hid (w2.ownsRow w0.heap.size 5 1 (.slice (some ⟨w0.heap.size, 0, none⟩) 1 1) 1 (bv [251])) := (Kp.of_below (S := fun _ => False) hb2).owns HO1.out (fun _ _ e => e)
    have HB2 : Hid (Below w0.heap.size w0 w2) := HB1.out.trans (hb2.mono HB1.out.size)
    have HS2 : Hid (BSl w2 v2 (be 8 t.b)) := BSl.own ho2 (be_byte 8 t.b)
    clear ho2 hb2 q4 HO1 HB1
    go_wp2_with (at_builtin; refine append_bsl_at rfl _ _ rfl w0.heap.size _ 1 [251] rfl HO2.out _ (be 8 t.b) rfl HS2.out ?b1 ?b2 ?_)
    case b1 => rw [be_len]; omega
    case b2 => exact HB2.out.size
    intro v3 w3 ho3 hg3 _
    have HO3 : Hid (w3.ownsRow w0.heap.size 5 1 v3 (251 :: be 8 t.b).length (bv (251 :: be 8 t.b))) := by show World.ownsRow _ _ _ _ _ _ _; rw [List.length_cons, Nat.add_comm]; exact ho3
    have HB3 : Hid (Below w0.heap.size w0 w3) := HB2.out.trans (((Kp.refl (fun q => _ = some q) w2).grown hg3 (fun k _ e => e)).below HB2.out.size (fun q e => (HO2.out.lt q e).1))
    clear ho3 hg3
    go_wp2_with fail
    go_ret
    exact ⟨_, rfl, own_mono HO3.out HB0.out.size, HB0.out.trans (HB3.out.mono HB0.out.size)⟩
  by_cases h5 : t.k = 5
  · as_aux_lemma =>
    have g2 : (t.k == 2) = false := beq_eq_false_iff_ne.2 (by omega)
    have g3 : (t.k == 3) = false := beq_eq_false_iff_ne.2 (by omega)
    have g4 : (t.k == 4) = false := beq_eq_false_iff_ne.2 (by omega)
    have g5 : (t.k == 5) = true := beq_iff_eq.2 h5
    have HFE : Hid (tfm t = kfm t.s) := by show _ = _; rw [HFM.out, if_neg (by rw [h5]; decide), if_neg (by rw [h5]; decide), if_neg (by rw [h5]; decide), if_neg (by rw [h5]; decide), if_pos h5]
    have q5 : w0.cell? ⟨w.heap.size, 5, none⟩ = some (.string t.s) := blk_cell (j := 5) HG0.out rfl
    rw [HFE.out]
    clear HFM HFE h8 h9 hk19 h5
    go_enter Tryz.func57, Tryz.ntmps57
    go_upto_region 1 with fail
    rw [HW0.out]
    have hcv := conv_sb w0 t.s
    have HB1 := hide (conv_sb_below w0 t.s)
    have HS1 := hide (conv_sb_bsl w0 t.s (by have := HSS.out; omega))
    have HT := hide (rtext_any 3 (by decide) (Lib.bytesWorld w0 5 t.s) _ (sl t.s) HS1.out (by rw [sl_len]; exact HSS.out))
    clear HSS
    go_wp2_with fail
    refine HT.out.mono ?_
    rintro e w2 ⟨v2, rfl, ho2, hb2⟩
    have HO2 := hide ho2
    have HB2 : Hid (Below w0.heap.size w0 w2) := HB1.out.trans (hb2.mono HB1.out.size)
    clear ho2 hb2 q5 hcv HT
    go_wp2_with fail
    go_ret
    exact ⟨_, rfl, own_mono HO2.out (Nat.le_trans HB0.out.size HB1.out.size), HB0.out.trans (HB2.out.mono HB0.out.size)⟩
  by_cases h6 : t.k = 6
  · as_aux_lemma =>
    have g2 : (t.k == 2) = false := beq_eq_false_iff_ne.2 (by omega)
    have g3 : (t.k == 3) = false := beq_eq_false_iff_ne.2 (by omega)
    have g4 : (t.k == 4) = false := beq_eq_false_iff_ne.2 (by omega)
    have g5 : (t.k == 5) = false := beq_eq_false_iff_ne.2 (by omega)
    have g6 : (t.k == 6) = true := beq_iff_eq.2 h6
    have HFE : Hid (tfm t = hl 2 t.y.length ++ t.y) := by show _ = _; rw [HFM.out, if_neg (by rw [h6]; decide), if_neg (by rw [h6]; decide), if_neg (by rw [h6]; decide), if_neg (by rw [h6]; decide), if_neg (by rw [h6]; decide), if_pos h6]
    have q6 : w0.cell? ⟨w.heap.size, 6, none⟩ = some (.slice ay t.y.length cy) := blk_cell (j := 6) HG0.out rfl
    rw [HFE.out]
    clear HFM HFE h8 h9 hk19 h6
    go_enter Tryz.func57, Tryz.ntmps57
    go_upto_region 1 with fail
    rw [HW0.out]
    have HT := hide (rtext_any 2 (by decide) w0 _ t.y HY.out HBD.out.y)
    go_wp2_with fail
    refine HT.out.mono ?_
    rintro e w2 ⟨v2, rfl, ho2, hb2⟩
    have HO2 := hide ho2
    have HB2 := hide hb2
    clear ho2 hb2 q6 HT
    go_wp2_with fail
    go_ret
    exact ⟨_, rfl, own_mono HO2.out HB0.out.size, HB0.out.trans (HB2.out.mono HB0.out.size)⟩
  by_cases h7 : t.k = 7
  · as_aux_lemma =>
    have g2 : (t.k == 2) = false := beq_eq_false_iff_ne.2 (by omega)
    have g3 : (t.k == 3) = false := beq_eq_false_iff_ne.2 (by omega)
    have g4 : (t.k == 4) = false := beq_eq_false_iff_ne.2 (by omega)
    have g5 : (t.k == 5) = false := beq_eq_false_iff_ne.2 (by omega)
    have g6 : (t.k == 6) = false := beq_eq_false_iff_ne.2 (by omega)
    have g7 : (t.k == 7) = true := beq_iff_eq.2 h7
    have HFE : Hid (tfm t = hl 6 42 ++ (hl 2 (1 + (lbytes t.l).length) ++ 0 :: lbytes t.l)) := by show _ = _; rw [HFM.out, if_neg (by rw [h7]; decide), if_neg (by rw [h7]; decide), if_neg (by rw [h7]; decide), if_neg (by rw [h7]; decide), if_neg (by rw [h7]; decide), if_neg (by rw [h7]; decide), if_pos h7]
    have HLO := hide (hk19.2.2 h7)
    rw [HFE.out]
    clear HFM HFE h8 h9 hk19 h7
    go_enter Tryz.func57, Tryz.ntmps57
    go_upto_region 1 with fail
    rw [HW0.out]
    have HLB := hide HBD.out.l
    have HTL := hide (refBytes7 w0 t.l HLB.out HLO.out)
    go_wp2_with (refine wpList_exec rfl (exec_lkAt7 (g := w.heap.size) (off := 7) (cs := #[.int .i64 t.l.v, .int .u64 (t.l.c : Nat), .int .u64 (t.l.h : Nat), .string (nstr t.l.d)]) rfl rfl rfl HLC.out) ?_)
    refine HTL.out.mono ?_
    rintro e w1 ⟨v1, rfl, ho1, hb1, hy1, hn1⟩
    have HB1 := hide hb1
    have HS1 : Hid (BSl w1 v1 (lbytes t.l)) := BSl.own ho1 hy1
    have HNL : Hid ((lbytes t.l).length ≤ 140737488351000) := hn1
    have HOa := hide (own_two7 w1)
    have HBa := hide (below_alloc4 w1 (.cells #[.int .u8 216, .int .u8 42] 5))
    have hob := own_one (w1.alloc (.cells #[.int .u8 216, .int .u8 42] 5)) 0
    have hsz : (w1.alloc (.cells #[.int .u8 216, .int .u8 42] 5)).heap.size = w1.heap.size + 1 := by simp
    rw [hsz] at hob
    have HOb := hide hob
    have HSZ := hide hsz
    clear hob hsz
    have HBb := hide (below_alloc4 (w1.alloc (.cells #[.int .u8 216, .int .u8 42] 5)) (.cells #[.int .u8 0] 5))
    have HSb := hide ((HS1.out.move (keep_below HBa.out)).move (keep_below HBb.out))
    clear ho1 hb1 hy1 hn1 HTL q0
    go_wp2_with (at_builtin; refine append_bsl_at rfl _ _ rfl (w1.heap.size + 1) _ 1 [0] rfl HOb.out _ (lbytes t.l) rfl HSb.out ?b1 ?b2 ?_)
    case b1 => have := HNL.out; omega
    case b2 => rw [← HSZ.out]; exact HBb.out.size
    intro v3 w3 ho3 hg3 _
    have HB3 : Hid (Below (w1.alloc (.cells #[.int .u8 216, .int .u8 42] 5)).heap.size (w1.alloc (.cells #[.int .u8 216, .int .u8 42] 5)) w3) := HBb.out.trans (((Kp.refl (fun q => _ = some q) _).grown hg3 (fun k _ e => e)).below HBb.out.size (fun q e => by rw [HSZ.out]; exact (HOb.out.lt q e).1))
    have HS3 : Hid (BSl w3 v3 (0 :: lbytes t.l)) := BSl.own ho3 (fun x hx => (List.mem_cons.1 hx).elim (fun e => by rw [e]; decide) (fun h => HS1.out.byte x h))
    have HT := hide (rtext_any 2 (by decide) w3 v3 (0 :: lbytes t.l) HS3.out (by have := HNL.out; rw [List.length_cons]; omega))
    have HOc := hide ((Kp.of_below (S := fun _ => False) HB3.out).owns HOa.out (fun _ _ e => e))
    have HZc : Hid (Below w1.heap.size w1 w3) := HBa.out.trans (HB3.out.mono HBa.out.size)
    clear ho3 hg3 HBa HBb HOa HOb HSb HB3
    go_wp2_with fail
    refine HT.out.mono ?_
    rintro e w4 ⟨v4, rfl, ho4, hb4⟩
    have HOd := hide ((Kp.of_below (S := fun _ => False) hb4).owns HOc.out (fun _ _ e => e))
    have HZd : Hid (Below w1.heap.size w1 w4) := HZc.out.trans (hb4.mono HZc.out.size)
    have HS4 : Hid (BSl w4 v4 (hl 2 (0 :: lbytes t.l).length ++ (0 :: lbytes t.l))) := BSl.own ho4 (fun x hx => (List.mem_append.1 hx).elim (fun h => hl_byte 2 _ (by decide) x h) (fun h => HS3.out.byte x h))
    have HN4 : Hid ((hl 2 (0 :: lbytes t.l).length ++ (0 :: lbytes t.l)).length ≤ 140737488351200) := by
      have h9' := hlay_len 2 (0 :: lbytes t.l).length
      unfold hlay at h9'
      rw [if_pos (by decide)] at h9'
      have h9' : (hl 2 (0 :: lbytes t.l).length).length ≤ 9 := h9'
      have := HNL.out
      show _ ≤ _
      rw [List.length_append, List.length_cons]
      rw [List.length_cons] at h9'
      omega
    clear ho4 hb4 HT HOc HZc
    go_wp2_with (at_builtin; refine append_bsl_at rfl _ _ rfl w1.heap.size _ 2 [216, 42] rfl HOd.out _ (hl 2 (0 :: lbytes t.l).length ++ (0 :: lbytes t.l)) rfl HS4.out ?b1 ?b2 ?_)
    case b1 => have := HN4.out; omega
    case b2 => exact HZd.out.size
    intro v5 w5 ho5 hg5 _
    have HB5 : Hid (Below w1.heap.size w1 w5) := HZd.out.trans (((Kp.refl (fun q => _ = some q) w4).grown hg5 (fun k _ e => e)).below HZd.out.size (fun q e => (HOd.out.lt q e).1))
    have HO5 : Hid (w5.ownsRow w1.heap.size 5 1 v5 (hl 6 42 ++ (hl 2 (1 + (lbytes t.l).length) ++ 0 :: lbytes t.l)).length (bv (hl 6 42 ++ (hl 2 (1 + (lbytes t.l).length) ++ 0 :: lbytes t.l)))) := by
      have e : hl 6 42 = [216, 42] := by decide
      have e3 : 1 + (lbytes t.l).length = (lbytes t.l).length + 1 := Nat.add_comm _ _
      show World.ownsRow _ _ _ _ _ _ _
      rw [e, e3, List.length_append, List.length_append, List.length_cons]
      exact ho5
    clear ho5 hg5
    go_wp2_with fail
    go_ret
    exact ⟨_, rfl, own_mono HO5.out (Nat.le_trans HB0.out.size HB1.out.size), HB0.out.trans ((HB1.out.mono HB0.out.size).trans (HB5.out.mono (Nat.le_trans HB0.out.size HB1.out.size)))⟩
  omega
end
section
open Go.RowKit Go
theorem tfmL_split : ∀ (i : Nat) (l : List Tv), tfmL l = tfmL (l.take i) ++ tfmL (l.drop i)
  | 0, l => by simp [tfmL]
  | i + 1, [] => by simp [tfmL]
  | i + 1, t :: r => by rw [List.take_succ_cons, List.drop_succ_cons, tfmL, tfmL, tfmL_split i r, List.append_assoc]
theorem tfmK_split : ∀ (i : Nat) (ks : List ByteArray) (l : List Tv), ks.length = l.length → tfmK ks l = tfmK (ks.take i) (l.take i) ++ tfmK (ks.drop i) (l.drop i)
  | 0, ks, l, _ => by simp [tfmK]
  | i + 1, [], [], _ => by simp [tfmK]
  | i + 1, [], _ :: _, h => by simp at h
  | i + 1, _ :: _, [], h => by simp at h
  | i + 1, k :: ks, t :: r, h => by rw [List.take_succ_cons, List.drop_succ_cons, List.take_succ_cons, List.drop_succ_cons, tfmK, tfmK, tfmK_split i ks r (by simpa using h), List.append_assoc, List.append_assoc]
theorem tfmL_at {l : List Tv} {i : Nat} {v : Tv} (h : l[i]? = some v) : tfmL (l.take (i + 1)) = tfmL (l.take i) ++ tfm v ∧ ∃ x, tfmL l = tfmL (l.take i) ++ (tfm v ++ x) := by
  have hd : l.drop i = v :: l.drop (i + 1) := by
    obtain ⟨hl, e⟩ := List.getElem?_eq_some_iff.1 h
    rw [← e]
    exact List.drop_eq_getElem_cons hl
  constructor
  · have e := tfmL_split i (l.take (i + 1))
    rw [List.take_take, Nat.min_eq_left (Nat.le_succ i), List.drop_take, Nat.add_sub_cancel_left, hd] at e
    rw [e]
    simp [tfmL]
  · exact ⟨tfmL (l.drop (i + 1)), by rw [tfmL_split i l, hd, tfmL]⟩
theorem tfmK_at {ks : List ByteArray} {l : List Tv} (hn : ks.length = l.length) {i : Nat} {k : ByteArray} {v : Tv} (hk : ks[i]? = some k) (h : l[i]? = some v) : tfmK (ks.take (i + 1)) (l.take (i + 1)) = tfmK (ks.take i) (l.take i) ++ (kfm k ++ tfm v) ∧ ∃ x, tfmK ks l = tfmK (ks.take i) (l.take i) ++ (kfm k ++ (tfm v ++ x)) := by
  have hd : l.drop i = v :: l.drop (i + 1) := by
    obtain ⟨hl, e⟩ := List.getElem?_eq_some_iff.1 h
    rw [← e]
    exact List.drop_eq_getElem_cons hl
  have hd2 : ks.drop i = k :: ks.drop (i + 1) := by
    obtain ⟨hl, e⟩ := List.getElem?_eq_some_iff.1 hk
    rw [← e]
    exact List.drop_eq_getElem_cons hl
  constructor
  · have e := tfmK_split i (ks.take (i + 1)) (l.take (i + 1)) (by rw [List.length_take, List.length_take, hn])
    rw [List.take_take, List.take_take, Nat.min_eq_left (Nat.le_succ i), List.drop_take, List.drop_take, Nat.add_sub_cancel_left, hd, hd2] at e
    rw [e]
    simp [tfmK]
  · exact ⟨tfmK (ks.drop (i + 1)) (l.drop (i + 1)), by rw [tfmK_split i ks l hn, hd, hd2, tfmK]⟩
/-- The reference's Form of a tree: that of its sorted one. -/
def FrmC (t : Tv) : Prop := ∀ (s : Tv), SrtR t s → Trk t → Ptr t → tmuch t ≤ 100000 → (tfm s).length ≤ 1000000000 → (∀ x ∈ tfm s, x < 256) → ∀ (w : World) (cs : Array Value), Tin w t cs → Calls Tryz.prog 57 #[.agg cs] w (FrmP w (tfm s))
set_option maxRecDepth 1000000 in
set_option maxHeartbeats 2000000 in
theorem rform_list (w : World) (t : Tv) (cs : Array Value) (ht : Tin w t cs) (h8 : t.k = 8) (js : List Tv) (hn : js.length = t.is.length) (hl1 : (hl 4 t.is.length ++ tfmL js).length ≤ 1000000000) (hyb : ∀ x ∈ tfmL js, x < 256)
    (ih : ∀ (i : Nat) (u v : Tv), t.is[i]? = some u → js[i]? = some v → ∀ (w : World) (cs : Array Value), Tin w u cs → Calls Tryz.prog 57 #[.agg cs] w (FrmP w (tfm v))) :
    Calls Tryz.prog 57 #[.agg cs] w (FrmP w (hl 4 t.is.length ++ tfmL js)) := by
  have hb0 := below_alloc4 w (.cells cs 65)
  have HB0 := hide hb0
  have HG0 := hide (heap_alloc_new w (.cells cs 65))
  have ht0 := ht.move (keep_below hb0)
  have HIH := hide ih
  have HL1 := hide hl1
  have HYB := hide hyb
  have HJN := hide hn
  clear ht hb0 ih hl1 hyb
  generalize hw0 : w.alloc (.cells cs 65) = w0 at *
  have HW0 := hide hw0
  clear hw0
  obtain ⟨vy, vk, vi, rfl, hy, hk, hv, hb⟩ := ht0.parts
  obtain ⟨⟨a, cap, hvi, _, hf⟩, hmx⟩ := hv
  subst hvi
  have HF := hide hf
  have HMX := hide hmx
  clear hb hk hy ht0 hf
  have q0 : w0.cell? ⟨w.heap.size, 0, none⟩ = some (.int .i64 t.k) := blk_cell (j := 0) HG0.out rfl
  have q12 : w0.cell? ⟨w.heap.size, 12, none⟩ = some (.slice a t.is.length cap) := blk_cell (j := 12) HG0.out rfl
  have g2 : (t.k == 2) = false := beq_eq_false_iff_ne.2 (by omega)
  have g3 : (t.k == 3) = false := beq_eq_false_iff_ne.2 (by omega)
  have g4 : (t.k == 4) = false := beq_eq_false_iff_ne.2 (by omega)
  have g5 : (t.k == 5) = false := beq_eq_false_iff_ne.2 (by omega)
  have g6 : (t.k == 6) = false := beq_eq_false_iff_ne.2 (by omega)
  have g7 : (t.k == 7) = false := beq_eq_false_iff_ne.2 (by omega)
  have g8 : (t.k == 8) = true := beq_iff_eq.2 h8
  clear h8
  have hlt64 : t.is.length < 18446744073709551616 := by omega
  go_enter Tryz.func57, Tryz.ntmps57
  go_upto_region 1 with fail
  rw [HW0.out]
  go_wp2_with fail
  refine (refLay_any 4 t.is.length w0 (by omega) hlt64).mono ?_
  rintro e w1 ⟨v1, rfl, ho1, hb1⟩
  have eh : hlay 4 t.is.length = hl 4 t.is.length := by unfold hlay; rw [if_pos (by decide)]; rfl
  rw [eh] at ho1
  have HO1 := hide ho1
  have HB1 := hide hb1
  have HC12 : Hid (∀ wx, Below w0.heap.size w0 wx → wx.cell? ⟨w.heap.size, 12, none⟩ = some (.slice a t.is.length cap)) := fun wx hb => keep_below hb _ _ q12
  clear ho1 hb1 eh q0 q12 g2 g3 g4 g5 g6 g7 g8 hn
  go_wp2_with fail
  go_loopw [5, 6] (fun bb q wr => ∃ (i : Nat), i ≤ t.is.length ∧ q = .int .i64 (i : Nat) ∧ Hid (wr.ownsRow w0.heap.size 5 1 bb (hl 4 t.is.length ++ tfmL (js.take i)).length (bv (hl 4 t.is.length ++ tfmL (js.take i))) ∧ Below w0.heap.size w0 wr)) (fun _ q _ => t.is.length - (intOf q).toNat)
  case atStart => exact ⟨0, Nat.zero_le _, rfl, by simpa [tfmL] using HO1.out, HB1.out⟩
  case round =>
    rename World => wr
    obtain ⟨i, hi, rfl, HR⟩ := hrel
    clear HO1 HB1
    have q12 := HC12.out wr HR.out.2
    by_cases hlt : i < t.is.length
    · as_aux_lemma =>
      have g1 : (i : Int) < (t.is.length : Int) := by omega
      have hilt : i < js.length := by have := HJN.out; omega
      obtain ⟨u, hu⟩ : ∃ u, t.is[i]? = some u := ⟨_, List.getElem?_eq_getElem hlt⟩
      obtain ⟨v, hv⟩ : ∃ v, js[i]? = some v := ⟨_, List.getElem?_eq_getElem hilt⟩
      obtain ⟨b, off, rfl, hcc⟩ := HF.out.resolve_left (fun h => by rw [h] at hlt; simp at hlt)
      obtain ⟨cu, tu, hcu⟩ := hcc i u hu
      have HCU : Hid (∀ j x, cu[j]? = some x → wr.cell? ⟨b, off + i * 13 + j, none⟩ = some x) := fun j x hx => keep_below HR.out.2 _ _ (hcu j x hx)
      have HSU := hide tu.size13
      obtain ⟨hA, X, hX⟩ := tfmL_at hv
      have HA := hide hA
      have HVB : Hid (∀ x ∈ tfm v, x < 256) := fun x hx => HYB.out x (by rw [hX]; simp [hx])
      have HVL : Hid ((hl 4 t.is.length ++ tfmL (js.take i)).length + (tfm v).length ≤ 1000000000) := by
        have h := HL1.out
        rw [hX] at h
        simp only [List.length_append] at h ⊢
        show _ ≤ _
        omega
      have HCL := hide (HIH.out i u v hu hv wr cu (tu.move (keep_below HR.out.2)))
      clear hcc tu hcu hu hv hA hX HIH HF HYB HL1
      go_wp2_with (refine wpList_valAt rfl rfl b (off + i * 13) cu rfl HSU.out HCU.out ?_)
      refine HCL.out.mono ?_
      rintro e w2 ⟨v2, rfl, ho2, hb2⟩
      have HR2 := hide ((Kp.of_below (S := fun _ => False) hb2).owns HR.out.1 (fun _ _ e => e))
      have HB2 : Hid (Below w0.heap.size w0 w2) := HR.out.2.trans (hb2.mono HR.out.2.size)
      have HS2 : Hid (BSl w2 v2 (tfm v)) := BSl.own ho2 HVB.out
      clear ho2 hb2 HCL HCU HR
      go_wp2_with (at_builtin; refine append_bsl_at rfl _ _ rfl w0.heap.size _ (hl 4 t.is.length ++ tfmL (js.take i)).length (hl 4 t.is.length ++ tfmL (js.take i)) rfl HR2.out _ (tfm v) rfl HS2.out ?b1 ?b2 ?_)
      case b1 => have := HVL.out; omega
      case b2 => exact HB2.out.size
      intro v3 w3 ho3 hg3 _
      have HR3 : Hid (w3.ownsRow w0.heap.size 5 1 v3 (hl 4 t.is.length ++ tfmL (js.take (i + 1))).length (bv (hl 4 t.is.length ++ tfmL (js.take (i + 1)))) ∧ Below w0.heap.size w0 w3) := by
        refine ⟨?_, HB2.out.trans (((Kp.refl (fun q => _ = some q) w2).grown hg3 (fun k _ e => e)).below HB2.out.size (fun q e => (HR2.out.lt q e).1))⟩
        rw [HA.out]
        simpa [Nat.add_assoc] using ho3
      clear ho3 hg3
      go_wp2_with fail
      go_roundw
      case rel => exact ⟨i + 1, by omega, by go_num, HR3⟩
      case measure => simp [intOf]; omega
    · as_aux_lemma =>
      have g1 : ¬ (i : Int) < (t.is.length : Int) := by omega
      have HFIN : Hid (wr.ownsRow w0.heap.size 5 1 u5 (hl 4 t.is.length ++ tfmL js).length (bv (hl 4 t.is.length ++ tfmL js))) := by
        have h := HR.out.1
        rw [List.take_of_length_le (by have := HJN.out; omega)] at h
        exact h
      have HBF := hide HR.out.2
      clear HR hlt hi
      go_wp2_with fail
      go_ret
      exact ⟨_, rfl, own_mono HFIN.out HB0.out.size, HB0.out.trans (HBF.out.mono HB0.out.size)⟩
end
section
open Go.RowKit Go
/-- The key at a place. -/
def kat (ks : List ByteArray) (p : Nat) : List Nat := sl (ks.getD p ⟨#[]⟩)
/-- Two rows of places being put into one. -/
structure Mrg (ks : List ByteArray) (a b : List Nat) (i k : Nat) (out : List Nat) : Prop where
  p : out.Perm (a.take i ++ b.take k)
  s : out.Pairwise (fun p q => bfr (kat ks q) (kat ks p) = false)
  r : ∀ p ∈ out, ∀ q, q ∈ a.drop i ∨ q ∈ b.drop k → bfr (kat ks q) (kat ks p) = false
theorem Mrg.start (ks : List ByteArray) (a b : List Nat) : Mrg ks a b 0 0 [] := ⟨by simp, by simp, by simp⟩
theorem pw_drop {R : Nat → Nat → Prop} {a : List Nat} (h : a.Pairwise R) {i x : Nat} (hx : a[i]? = some x) : ∀ q ∈ a.drop (i + 1), R x q := by
  have hi := (List.getElem?_eq_some_iff.1 hx).1
  have h2 : (a.drop i).Pairwise R := h.sublist (List.drop_sublist i a)
  rw [List.drop_eq_getElem_cons hi] at h2
  rw [List.getElem?_eq_getElem hi] at hx
  injection hx with hx
  subst hx
  exact fun q hq => List.rel_of_pairwise_cons h2 hq
theorem mem_drop_cons {a : List Nat} {i x q : Nat} (hx : a[i]? = some x) (hq : q ∈ a.drop i) : q = x ∨ q ∈ a.drop (i + 1) := by
  have hi := (List.getElem?_eq_some_iff.1 hx).1
  rw [List.drop_eq_getElem_cons hi] at hq
  rw [List.getElem?_eq_getElem hi] at hx
  injection hx with hx
  subst hx
  exact List.mem_cons.1 hq
theorem mem_drop_at {a : List Nat} {i x : Nat} (hx : a[i]? = some x) : x ∈ a.drop i := by
  have hi := (List.getElem?_eq_some_iff.1 hx).1
  rw [List.drop_eq_getElem_cons hi]
  rw [List.getElem?_eq_getElem hi] at hx
  injection hx with hx
  simp [hx]
theorem mem_drop_succ {a : List Nat} {i q : Nat} (hq : q ∈ a.drop (i + 1)) : q ∈ a.drop i := by
  have e : a.drop (i + 1) = (a.drop i).drop 1 := by rw [List.drop_drop]
  rw [e] at hq
  exact List.mem_of_mem_drop hq
theorem take_at2 {a : List Nat} {i x : Nat} (hx : a[i]? = some x) : a.take (i + 1) = a.take i ++ [x] := by
  have hi := (List.getElem?_eq_some_iff.1 hx).1
  rw [List.take_succ_eq_append_getElem hi]
  rw [List.getElem?_eq_getElem hi] at hx
  injection hx with hx
  rw [hx]
theorem Mrg.left {ks : List ByteArray} {a b out : List Nat} {i k x : Nat} (h : Mrg ks a b i k out) (ha : a.Pairwise (fun p q => bfr (kat ks q) (kat ks p) = false)) (hb : b.Pairwise (fun p q => bfr (kat ks q) (kat ks p) = false)) (hx : a[i]? = some x)
    (hy : ∀ y, b[k]? = some y → bfr (kat ks y) (kat ks x) = false) : Mrg ks a b (i + 1) k (out ++ [x]) := by
  refine ⟨?_, ?_, ?_⟩
  · rw [take_at2 hx]
    refine (h.p.append_right [x]).trans ?_
    rw [List.append_assoc, List.append_assoc]
    exact (List.perm_append_comm).append_left _
  · rw [List.pairwise_append]
    refine ⟨h.s, by simp, ?_⟩
    intro p hp q hq
    rw [List.mem_singleton] at hq
    subst hq
    exact h.r p hp q (.inl (mem_drop_at hx))
  · intro p hp q hq
    rw [List.mem_append, List.mem_singleton] at hp
    rcases hp with hp | rfl
    · rcases hq with hq | hq
      · exact h.r p hp q (.inl (mem_drop_succ hq))
      · exact h.r p hp q (.inr hq)
    · rcases hq with hq | hq
      · exact pw_drop ha hx q hq
      · have hkl : k < b.length := by
          rcases Nat.lt_or_ge k b.length with h1 | h1
          · exact h1
          · rw [List.drop_of_length_le h1] at hq; simp at hq
        have hk := List.getElem?_eq_getElem hkl
        rcases mem_drop_cons hk hq with rfl | hq
        · exact hy _ hk
        · exact bfr_nt _ _ _ (pw_drop hb hk q hq) (hy _ hk)
theorem Mrg.right {ks : List ByteArray} {a b out : List Nat} {i k y : Nat} (h : Mrg ks a b i k out) (ha : a.Pairwise (fun p q => bfr (kat ks q) (kat ks p) = false)) (hb : b.Pairwise (fun p q => bfr (kat ks q) (kat ks p) = false)) (hy : b[k]? = some y)
    (hx : ∀ x, a[i]? = some x → bfr (kat ks x) (kat ks y) = false) : Mrg ks a b i (k + 1) (out ++ [y]) := by
  refine ⟨?_, ?_, ?_⟩
  · rw [take_at2 hy, ← List.append_assoc]
    exact h.p.append_right [y]
  · rw [List.pairwise_append]
    refine ⟨h.s, by simp, ?_⟩
    intro p hp q hq
    rw [List.mem_singleton] at hq
    subst hq
    exact h.r p hp q (.inr (mem_drop_at hy))
  · intro p hp q hq
    rw [List.mem_append, List.mem_singleton] at hp
    rcases hp with hp | rfl
    · rcases hq with hq | hq
      · exact h.r p hp q (.inl hq)
      · exact h.r p hp q (.inr (mem_drop_succ hq))
    · rcases hq with hq | hq
      · have hil : i < a.length := by
          rcases Nat.lt_or_ge i a.length with h1 | h1
          · exact h1
          · rw [List.drop_of_length_le h1] at hq; simp at hq
        have hi := List.getElem?_eq_getElem hil
        rcases mem_drop_cons hi hq with rfl | hq
        · exact hx _ hi
        · exact bfr_nt _ _ _ (pw_drop ha hi q hq) (hx _ hi)
      · exact pw_drop hb hy q hq
theorem bfr_asym8 {x y : List Nat} (h : bfr x y = true) : bfr y x = false := by
  rcases Bool.eq_false_or_eq_true (bfr y x) with h2 | h2
  · have := bfr_tr _ _ _ h h2
    rw [bfr_self] at this
    exact absurd this (by simp)
  · exact h2
theorem kat_take {ks : List ByteArray} {h p : Nat} (hp : p < h) : kat (ks.take h) p = kat ks p := by
  unfold kat List.getD
  rw [List.getElem?_take_of_lt hp]
theorem kat_drop (ks : List ByteArray) (h p : Nat) : kat (ks.drop h) p = kat ks (h + p) := by
  unfold kat List.getD
  rw [List.getElem?_drop]
theorem srp_pw {ks : List ByteArray} {n : Nat} {ps : List Nat} (h : Srp ks n ps) : ps.Pairwise (fun p q => bfr (kat ks q) (kat ks p) = false) := h.pw
theorem srp_left {ks : List ByteArray} {h : Nat} {a : List Nat} (hs : Srp (ks.take h) h a) : a.Pairwise (fun p q => bfr (kat ks q) (kat ks p) = false) := by
  refine (srp_pw hs).imp_of_mem ?_
  intro p q hp hq e
  rw [kat_take (hs.lt p hp), kat_take (hs.lt q hq)] at e
  exact e
theorem srp_right {ks : List ByteArray} {h m : Nat} {b : List Nat} (hs : Srp (ks.drop h) m b) : (b.map (h + ·)).Pairwise (fun p q => bfr (kat ks q) (kat ks p) = false) := by
  rw [List.pairwise_map]
  refine (srp_pw hs).imp ?_
  intro p q e
  rw [kat_drop, kat_drop] at e
  exact e
theorem Mrg.done {ks : List ByteArray} {h n : Nat} {a b out : List Nat} (hm : Mrg ks a (b.map (h + ·)) a.length b.length out) (hs : Srp (ks.take h) h a) (ht : Srp (ks.drop h) (n - h) b) (hn : h ≤ n) : Srp ks n out := by
  refine ⟨?_, ?_⟩
  · refine hm.p.trans ?_
    rw [List.take_length, show b.length = (b.map (h + ·)).length by simp, List.take_length]
    have e : List.range n = List.range h ++ (List.range (n - h)).map (h + ·) := by
      have e2 : n = h + (n - h) := by omega
      conv => lhs; rw [e2]
      rw [List.range_add]
    rw [e]
    exact hs.p.append (ht.p.map _)
  · intro i j p q hij hp hq
    have h1 := List.pairwise_iff_getElem.1 hm.s i j (List.getElem?_eq_some_iff.1 hp).1 (List.getElem?_eq_some_iff.1 hq).1 hij
    rw [(List.getElem?_eq_some_iff.1 hp).2, (List.getElem?_eq_some_iff.1 hq).2] at h1
    exact h1
theorem Mrg.len {ks : List ByteArray} {a b out : List Nat} {i k : Nat} (h : Mrg ks a b i k out) (hi : i ≤ a.length) (hk : k ≤ b.length) : out.length = i + k := by
  rw [h.p.length_eq, List.length_append, List.length_take, List.length_take]
  omega
theorem srp_nil : Srp [] 0 [] := ⟨by simp, by simp⟩
theorem srp_single (s : ByteArray) : Srp [s] 1 [0] := ⟨by simp [List.range_succ], fun i j p q hij hp hq => by
  have h1 := (List.getElem?_eq_some_iff.1 hq).1
  simp at h1
  omega⟩
end
section
open Go.RowKit Go
/-- What the reference's Order does. -/
def OrdC (ks : List ByteArray) : Prop := ∀ (w : World) (v : Value), SSl w v ks → ks.length ≤ 100000 → Calls Tryz.prog 99 #[v] w fun e w' => ∃ v' ps, e = .returned v' ∧ Srp ks ks.length ps ∧ w'.ownsRow w.heap.size 3 1 v' ps.length (ivs ps) ∧ Below w.heap.size w w'
theorem SSl.take {w : World} {b off n cap h : Nat} {ks : List ByteArray} (hs : SSl w (.slice (some ⟨b, off, none⟩) n cap) ks) (hh : h ≤ ks.length) : SSl w (.slice (some ⟨b, off, none⟩) h cap) (ks.take h) := by
  obtain ⟨⟨a, c, hv, hn, hc⟩, h1, h2⟩ := hs
  injection hv with e1 e2 e3
  subst e1 e2 e3
  have hl : (ks.take h).length = h := by rw [List.length_take]; omega
  refine ⟨⟨_, _, by rw [hl], ⟨by omega, hn.2⟩, ?_⟩, by omega, fun s hs => h2 s (List.mem_of_mem_take hs)⟩
  rcases hc with hc | ⟨b', off', ha, hc⟩
  · exact .inl (by rw [hc]; simp)
  · refine .inr ⟨b', off', ha, fun j s hj => hc j s ?_⟩
    have hjl := (List.getElem?_eq_some_iff.1 hj).1
    rw [List.getElem?_take_of_lt (by omega)] at hj
    exact hj
theorem SSl.drop {w : World} {b off n cap h : Nat} {ks : List ByteArray} (hs : SSl w (.slice (some ⟨b, off, none⟩) n cap) ks) (hh : h ≤ ks.length) : SSl w (.slice (some ⟨b, off + h, none⟩) (n - h) (cap - h)) (ks.drop h) := by
  obtain ⟨⟨a, c, hv, hn, hc⟩, h1, h2⟩ := hs
  injection hv with e1 e2 e3
  subst e1 e2 e3
  have hl : (ks.drop h).length = ks.length - h := List.length_drop
  refine ⟨⟨_, _, by rw [hl], ⟨by omega, fun h => by cases h⟩, ?_⟩, by omega, fun s hs => h2 s (List.mem_of_mem_drop hs)⟩
  rcases hc with hc | ⟨b', off', ha, hc⟩
  · exact .inl (by rw [hc]; simp)
  · injection ha with ha
    injection ha with ha1 ha2
    subst ha1 ha2
    refine .inr ⟨_, _, rfl, fun j s hj => ?_⟩
    rw [Nat.add_assoc]
    rw [List.getElem?_drop] at hj
    exact hc _ s hj
set_option maxRecDepth 1000000 in
theorem OrdC.small {ks : List ByteArray} (h : ks.length ≤ 1) : OrdC ks := by
  intro w v hv hl
  obtain ⟨⟨a, cap, rfl, hn, hc⟩, h1, h2⟩ := hv
  clear hc h1 h2 hl hn
  by_cases h0 : ks.length = 0
  · as_aux_lemma =>
    have e : ks = [] := List.length_eq_zero_iff.1 h0
    subst e
    go_enter Tryz.func99, Tryz.ntmps99
    go_wp2_with fail
    go_ret
    exact ⟨_, [], rfl, srp_nil, World.ownsRow_nil _ _ _ _, Below.refl _ _⟩
  · as_aux_lemma =>
    obtain ⟨s, e⟩ := List.length_eq_one_iff.1 (show ks.length = 1 by omega)
    subst e
    clear h h0
    go_enter Tryz.func99, Tryz.ntmps99
    go_wp2_with (at_builtin; refine append_nat rfl _ _ rfl w.heap.size _ [] rfl (World.ownsRow_nil _ _ _ _) 0 rfl (by simp) (Nat.le_refl _) ?_)
    intro v5 w5 ho5 hb5
    have HO5 := hide ho5
    have HB5 := hide hb5
    clear ho5 hb5
    go_wp2_with fail
    go_ret
    exact ⟨_, [0], rfl, srp_single s, HO5.out, HB5.out⟩
set_option maxRecDepth 1000000 in
set_option maxHeartbeats 20000000 in
theorem order_step (ks : List ByteArray) (ih : ∀ l : List ByteArray, l.length < ks.length → OrdC l) : OrdC ks := by
  intro w v hv hl
  by_cases hsm : ks.length ≤ 1
  · exact OrdC.small hsm w v hv hl
  have HS0 := hide hv
  have HIH := hide ih
  clear ih
  obtain ⟨⟨a, cap, rfl, hn, hc⟩, h1, h2⟩ := hv
  have HSZ := hide h2
  obtain ⟨b, off, rfl, hcc⟩ := hc.resolve_left (fun h => by rw [h] at hsm; simp at hsm)
  have HCC := hide hcc
  clear hc hcc h1 h2
  have hcap := hn.1
  clear hn
  obtain ⟨h, hh⟩ : ∃ h, h = ks.length / 2 := ⟨_, rfl⟩
  have hq : ((ks.length : Int) / 2) = (h : Int) := by omega
  have hq2 : Int.tdiv (ks.length : Int) 2 = (h : Int) := by rw [Int.tdiv_eq_ediv_of_nonneg (by omega)]; exact hq
  have hhl : h < ks.length := by omega
  have hhp : 0 < h := by omega
  have g1 : ((ks.length : Int) == 1) = false := beq_eq_false_iff_ne.2 (by omega)
  have g0 : ((ks.length : Int) == 0) = false := beq_eq_false_iff_ne.2 (by omega)
  have gh : (h : Int) ≤ (cap : Int) := by omega
  have gh2 : (h : Int) ≤ (ks.length : Int) := by omega
  have gc : (ks.length : Int) ≤ (cap : Int) := by omega
  have HN : Hid (h = ks.length / 2) := hh
  have HBe : Hid (Below w.heap.size w w) := Below.refl _ _
  clear hh hsm
  go_enter Tryz.func99, Tryz.ntmps99
  go_wp2_with fail
  refine (HIH.out (ks.take h) (by rw [List.length_take]; omega) w _ (HS0.out.take (by omega)) (by rw [List.length_take]; omega)).mono ?_
  rintro e w1 ⟨va, pa, rfl, hsa, hoa, hb1⟩
  have hla : (ks.take h).length = h := by rw [List.length_take]; omega
  rw [hla] at hsa
  have hpa : pa.length = h := hsa.len
  have HSA := hide hsa
  have HB1 := hide hb1
  have hia : ISl w1 va pa := ISl.own hoa rfl (by omega)
  have HIA := hide hia
  clear hsa hoa hb1 hia hla
  go_wp2_with fail
  refine (HIH.out (ks.drop h) (by rw [List.length_drop]; omega) w1 _ ((HS0.out.move (keep_below HB1.out)).drop (by omega)) (by rw [List.length_drop]; omega)).mono ?_
  rintro e w3 ⟨vb, pb, rfl, hsb, hob, hb2⟩
  rw [List.length_drop] at hsb
  have hpb : pb.length = ks.length - h := hsb.len
  have HSB := hide hsb
  have hib : ISl w3 vb pb := ISl.own hob rfl (by omega)
  have hia : ISl w3 va pa := HIA.out.move (keep_below hb2)
  have HB3 : Hid (Below w.heap.size w w3) := HB1.out.trans (hb2.mono HB1.out.size)
  have HC3 : Hid (∀ j s, ks[j]? = some s → w3.cell? ⟨b, off + j, none⟩ = some (.string s)) := fun j s hj => keep_below HB3.out _ _ (HCC.out j s hj)
  have HPA : Hid (∀ p ∈ pa, p < h) := HSA.out.lt
  have HPB : Hid (∀ p ∈ pb, p < ks.length - h) := HSB.out.lt
  have HWA := hide (srp_left HSA.out)
  have HWB := hide (srp_right HSB.out)
  clear hsb hob hb2 HIA HB1 HCC HS0 HIH gh gh2 gc g0 g1 hq hq2
  obtain ⟨⟨aa, ca, rfl, hna, hca⟩, _⟩ := hia
  obtain ⟨ba, oa, rfl, hcca⟩ := hca.resolve_left (fun h => by rw [h] at hpa; simp at hpa; omega)
  obtain ⟨⟨ab, cb, rfl, hnb, hcb⟩, _⟩ := hib
  obtain ⟨bb, ob, rfl, hccb⟩ := hcb.resolve_left (fun h => by rw [h] at hpb; simp at hpb; omega)
  have HCA := hide hcca
  have HCB := hide hccb
  have HPL : Hid (pa.length = h ∧ pb.length = ks.length - h) := ⟨hpa, hpb⟩
  have hpa2 : pa.length ≤ 100000 := by omega
  have hpb2 : pb.length ≤ 100000 := by omega
  clear hca hcca hcb hccb hna hnb w1 hpa hpb
  go_wp2_with fail
  go_loopw [3, 7, 8] (fun vv ii kk wx => ∃ (i k : Nat) (os : List Nat), i ≤ pa.length ∧ k ≤ pb.length ∧ ii = .int .i64 (i : Nat) ∧ kk = .int .i64 (k : Nat) ∧ Hid (Mrg ks pa (pb.map (h + ·)) i k os) ∧ Hid (wx.ownsRow w3.heap.size 3 1 vv os.length (ivs os)) ∧ Hid (Below w3.heap.size w3 wx)) (fun _ ii kk _ => pa.length + pb.length - (intOf ii).toNat - (intOf kk).toNat)
  case atStart => exact ⟨0, 0, [], by omega, by omega, rfl, rfl, Mrg.start _ _ _, World.ownsRow_nil _ _ _ _, Below.refl _ _⟩
  case round =>
    obtain ⟨i, k, os, hi, hk, rfl, rfl, HM, HO, HBw⟩ := hrel
    obtain ⟨ax, cx, hvx⟩ := own_slice HO.out
    subst hvx
    have HLN : Hid (os.length < 1099511627776) := by
      have h1 := HM.out.len hi (by rw [List.length_map]; exact hk)
      show _ < _
      omega
    have hce : ∀ (p : Addr) (x : Value), w3.cell? p = some x → ∀ t : Ext wr, t.w'.cell? p = some x := fun p x hx t => keep_below t.h _ _ (keep_below HBw.out _ _ hx)
    by_cases hkb : k < pb.length
    · obtain ⟨y, hy⟩ : ∃ y, pb[k]? = some y := ⟨pb[k], List.getElem?_eq_getElem hkb⟩
      have hyl := HPB.out y (List.mem_of_getElem? hy)
      obtain ⟨m, hm⟩ : ∃ m, m = h + y := ⟨_, rfl⟩
      obtain ⟨sy, hsy⟩ : ∃ s, ks[m]? = some s := ⟨ks[m], List.getElem?_eq_getElem (by omega)⟩
      have HMY : Hid ((pb.map (h + ·))[k]? = some m) := by show _ = _; rw [List.getElem?_map, hy, hm]; rfl
      have HKY : Hid (kat ks m = sl sy) := by show sl (ks.getD _ _) = _; rw [List.getD_eq_getElem?_getD, hsy]; rfl
      have HSY := hide (HSZ.out sy (List.mem_of_getElem? hsy))
      have cB := hce _ _ (HCB.out k y hy)
      have cBw := keep_below HBw.out _ _ (HCB.out k y hy)
      have cE := hce _ _ (HC3.out _ sy hsy)
      have gk : (k : Int) < (pb.length : Int) := by omega
      have gke : ((k : Int) == (pb.length : Int)) = false := beq_eq_false_iff_ne.2 (by omega)
      have ey : (h : Int) + (y : Int) = (m : Int) := by omega
      have wm : IntKind.i64.wrap (m : Int) = (m : Int) := by rw [IntKind.wrap_i64]; omega
      have gy2 : (m : Int) < (ks.length : Int) := by omega
      have HML : Hid (m < ks.length) := by show _ < _; omega
      clear hm
      clear hy hsy
      by_cases hia : i < pa.length
      · obtain ⟨x, hx⟩ : ∃ x, pa[i]? = some x := ⟨pa[i], List.getElem?_eq_getElem hia⟩
        have hxl := HPA.out x (List.mem_of_getElem? hx)
        obtain ⟨sx, hsx⟩ : ∃ s, ks[x]? = some s := ⟨ks[x], List.getElem?_eq_getElem (by omega)⟩
        have HMX := hide hx
        have HKX : Hid (kat ks x = sl sx) := by show sl (ks.getD _ _) = _; rw [List.getD_eq_getElem?_getD, hsx]; rfl
        have cA := hce _ _ (HCA.out i x hx)
        have cAw := keep_below HBw.out _ _ (HCA.out i x hx)
        have cF := hce _ _ (HC3.out _ sx hsx)
        have gi : (i : Int) < (pa.length : Int) := by omega
        have gx : (x : Int) < (ks.length : Int) := by omega
        have HBC0 : Hid (∀ t : Ext wr, Calls Tryz.prog 131 #[.string sy, .string sx] t.w' fun e w'' => e = .returned (.bool (bfr (sl sy) (sl sx))) ∧ ∃ t' : Ext wr, w'' = t'.w') := fun t => Calls.ext_below (rbefore_any t.w' sy sx (by have := HSY.out; omega))
        clear hx hsx hce
        rcases Bool.eq_false_or_eq_true (bfr (sl sy) (sl sx)) with hbf | hbf
        · as_aux_lemma =>
          have HBC := HBC0
          rw [hbf] at HBC
          have HM2 : Hid (Mrg ks pa (pb.map (h + ·)) i (k + 1) (os ++ [m])) := HM.out.right HWA.out HWB.out HMY.out (fun x' hx' => by
            have e := hx'.symm.trans HMX.out
            injection e with e
            rw [e, HKX.out, HKY.out]
            exact bfr_asym8 hbf)
          clear HBC0 hbf HM
          go_wp2_with fail
          refine region_ext (by kernel_rfl) (by kernel_rfl) ?_
          repeat (
            with_reducible refine wpQuiet_step (fun K hK => ?_)
            go_simp
            first
              | (with_reducible refine hK _ ?_; clear hK K)
              | (rw [if_neg (by decide)]; with_reducible refine hK _ ?_; clear hK K)
              | (apply Exists.intro
                 refine ⟨fun _ => ?_, hK _ ?_⟩
                 (go_at_call 131; exact HBC.out _)
                 clear hK K))
          refine wpQuiet_nil ?_
          rintro _ ⟨tq, rfl⟩
          have HB2 : Hid (Below w3.heap.size w3 tq.w') := HBw.out.trans (tq.h.mono HBw.out.size)
          have HO2 : Hid (tq.w'.ownsRow w3.heap.size 3 1 (.slice ax os.length cx) os.length (ivs os)) := (Kp.of_below (S := fun _ => False) tq.h).owns HO.out (fun _ _ e => e)
          have cA2 := keep_below tq.h _ _ cBw
          clear HBw HO HBC cE cF cBw
          generalize tq.w' = w4 at *
          clear tq
          go_wp2_with (at_builtin; refine append_nat rfl _ _ rfl w3.heap.size _ os rfl HO2.out m rfl HLN.out HB2.out.size ?_)
          intro v5 w5 ho5 hb5
          have HO5 : Hid (w5.ownsRow w3.heap.size 3 1 v5 (os ++ [m]).length (ivs (os ++ [m]))) := by show World.ownsRow _ _ _ _ _ _ _; rw [List.length_append]; exact ho5
          have HB5 : Hid (Below w3.heap.size w3 w5) := HB2.out.trans hb5
          clear ho5 hb5 HO2 HB2
          go_wp2_with fail
          go_roundw
          case rel => exact ⟨i, k + 1, _, by omega, by omega, by go_num, by go_num, HM2, HO5, HB5⟩
          case measure => simp [intOf]; omega
        · as_aux_lemma =>
          have HBC := HBC0
          rw [hbf] at HBC
          have HM2 : Hid (Mrg ks pa (pb.map (h + ·)) (i + 1) k (os ++ [x])) := HM.out.left HWA.out HWB.out HMX.out (fun y' hy' => by
            have e := hy'.symm.trans HMY.out
            injection e with e
            rw [e, HKX.out, HKY.out]
            exact hbf)
          clear HBC0 hbf HM
          go_wp2_with fail
          refine region_ext (by kernel_rfl) (by kernel_rfl) ?_
          repeat (
            with_reducible refine wpQuiet_step (fun K hK => ?_)
            go_simp
            first
              | (with_reducible refine hK _ ?_; clear hK K)
              | (rw [if_neg (by decide)]; with_reducible refine hK _ ?_; clear hK K)
              | (apply Exists.intro
                 refine ⟨fun _ => ?_, hK _ ?_⟩
                 (go_at_call 131; exact HBC.out _)
                 clear hK K))
          refine wpQuiet_nil ?_
          rintro _ ⟨tq, rfl⟩
          have HB2 : Hid (Below w3.heap.size w3 tq.w') := HBw.out.trans (tq.h.mono HBw.out.size)
          have HO2 : Hid (tq.w'.ownsRow w3.heap.size 3 1 (.slice ax os.length cx) os.length (ivs os)) := (Kp.of_below (S := fun _ => False) tq.h).owns HO.out (fun _ _ e => e)
          have cA2 := keep_below tq.h _ _ cAw
          clear HBw HO HBC cE cF cAw
          generalize tq.w' = w4 at *
          clear tq
          go_wp2_with (at_builtin; refine append_nat rfl _ _ rfl w3.heap.size _ os rfl HO2.out x rfl HLN.out HB2.out.size ?_)
          intro v5 w5 ho5 hb5
          have HO5 : Hid (w5.ownsRow w3.heap.size 3 1 v5 (os ++ [x]).length (ivs (os ++ [x]))) := by show World.ownsRow _ _ _ _ _ _ _; rw [List.length_append]; exact ho5
          have HB5 : Hid (Below w3.heap.size w3 w5) := HB2.out.trans hb5
          clear ho5 hb5 HO2 HB2
          go_wp2_with fail
          go_roundw
          case rel => exact ⟨i + 1, k, _, by omega, by omega, by go_num, by go_num, HM2, HO5, HB5⟩
          case measure => simp [intOf]; omega
      · as_aux_lemma =>
        have hie : i = pa.length := by omega
        subst hie
        clear hia hi
        have HM2 : Hid (Mrg ks pa (pb.map (h + ·)) pa.length (k + 1) (os ++ [m])) := HM.out.right HWA.out HWB.out HMY.out (fun x' hx' => by
          have := (List.getElem?_eq_some_iff.1 hx').1
          omega)
        clear HM hce
        go_wp2_with fail
        refine region_ext (by kernel_rfl) (by kernel_rfl) ?_
        repeat (
          with_reducible refine wpQuiet_step (fun K hK => ?_)
          go_simp
          first
            | (with_reducible refine hK _ ?_; clear hK K)
            | (rw [if_neg (by decide)]; with_reducible refine hK _ ?_; clear hK K))
        refine wpQuiet_nil ?_
        rintro _ ⟨tq, rfl⟩
        have HB2 : Hid (Below w3.heap.size w3 tq.w') := HBw.out.trans (tq.h.mono HBw.out.size)
        have HO2 : Hid (tq.w'.ownsRow w3.heap.size 3 1 (.slice ax os.length cx) os.length (ivs os)) := (Kp.of_below (S := fun _ => False) tq.h).owns HO.out (fun _ _ e => e)
        have cA2 := keep_below tq.h _ _ cBw
        clear HBw HO cBw
        generalize tq.w' = w4 at *
        clear tq
        go_wp2_with (at_builtin; refine append_nat rfl _ _ rfl w3.heap.size _ os rfl HO2.out m rfl HLN.out HB2.out.size ?_)
        intro v5 w5 ho5 hb5
        have HO5 : Hid (w5.ownsRow w3.heap.size 3 1 v5 (os ++ [m]).length (ivs (os ++ [m]))) := by show World.ownsRow _ _ _ _ _ _ _; rw [List.length_append]; exact ho5
        have HB5 : Hid (Below w3.heap.size w3 w5) := HB2.out.trans hb5
        clear ho5 hb5 HO2 HB2
        go_wp2_with fail
        go_roundw
        case rel => exact ⟨pa.length, k + 1, _, by omega, by omega, by go_num, by go_num, HM2, HO5, HB5⟩
        case measure => simp [intOf]; omega
    · have HKE : Hid (k = pb.length) := by show _ = _; omega
      by_cases hia : i < pa.length
      · as_aux_lemma =>
        obtain ⟨x, hx⟩ : ∃ x, pa[i]? = some x := ⟨pa[i], List.getElem?_eq_getElem hia⟩
        have cAw := keep_below HBw.out _ _ (HCA.out i x hx)
        have gi : (i : Int) < (pa.length : Int) := by omega
        have hke := HKE.out
        subst hke
        clear HKE hkb hk
        have HM2 : Hid (Mrg ks pa (pb.map (h + ·)) (i + 1) pb.length (os ++ [x])) := HM.out.left HWA.out HWB.out hx (fun y' hy' => by
          have := (List.getElem?_eq_some_iff.1 hy').1
          rw [List.length_map] at this
          omega)
        clear HM hce hx
        go_wp2_with fail
        refine region_ext (by kernel_rfl) (by kernel_rfl) ?_
        repeat (
          with_reducible refine wpQuiet_step (fun K hK => ?_)
          go_simp
          first
            | (with_reducible refine hK _ ?_; clear hK K)
            | (rw [if_neg (by decide)]; with_reducible refine hK _ ?_; clear hK K))
        refine wpQuiet_nil ?_
        rintro _ ⟨tq, rfl⟩
        have HB2 : Hid (Below w3.heap.size w3 tq.w') := HBw.out.trans (tq.h.mono HBw.out.size)
        have HO2 : Hid (tq.w'.ownsRow w3.heap.size 3 1 (.slice ax os.length cx) os.length (ivs os)) := (Kp.of_below (S := fun _ => False) tq.h).owns HO.out (fun _ _ e => e)
        have cA2 := keep_below tq.h _ _ cAw
        clear HBw HO cAw
        generalize tq.w' = w4 at *
        clear tq
        go_wp2_with (at_builtin; refine append_nat rfl _ _ rfl w3.heap.size _ os rfl HO2.out x rfl HLN.out HB2.out.size ?_)
        intro v5 w5 ho5 hb5
        have HO5 : Hid (w5.ownsRow w3.heap.size 3 1 v5 (os ++ [x]).length (ivs (os ++ [x]))) := by show World.ownsRow _ _ _ _ _ _ _; rw [List.length_append]; exact ho5
        have HB5 : Hid (Below w3.heap.size w3 w5) := HB2.out.trans hb5
        clear ho5 hb5 HO2 HB2
        go_wp2_with fail
        go_roundw
        case rel => exact ⟨i + 1, pb.length, _, by omega, by omega, by go_num, by go_num, HM2, HO5, HB5⟩
        case measure => simp [intOf]; omega
      · as_aux_lemma =>
        have gi : ¬ (i : Int) < (pa.length : Int) := by omega
        have gi2 : ¬ i < pa.length := by omega
        have gi3 : decide (i < pa.length) = false := decide_eq_false gi2
        have gi4 : decide ((i : Int) < (pa.length : Int)) = false := decide_eq_false gi
        have gk : ¬ (k : Int) < (pb.length : Int) := by omega
        have HR : Hid (Srp ks ks.length os) := by
          have e1 : i = pa.length := by omega
          have h1 := HM.out
          rw [e1, HKE.out] at h1
          exact h1.done HSA.out HSB.out (by omega)
        have HBZ : Hid (Below w.heap.size w wr) := HB3.out.trans (HBw.out.mono HB3.out.size)
        have HOZ : Hid (wr.ownsRow w.heap.size 3 1 (.slice ax os.length cx) os.length (ivs os)) := own_mono HO.out HB3.out.size
        clear HM hce
        go_wp2_with fail
        go_ret
        exact ⟨_, rfl, os, HR.out, HOZ.out, HBZ.out⟩
theorem orderR_any (ks : List ByteArray) : OrdC ks := by
  have key : ∀ N, ∀ l : List ByteArray, l.length = N → OrdC l := by
    intro N
    induction N using Nat.strongRecOn with
    | _ N ih =>
      intro l hl
      exact order_step l fun m hm => ih m.length (by omega) m rfl
  exact key _ ks rfl
end
section
open Go.RowKit Go
/-- What the reference's Form has in hand in a map. -/
structure Fmw (w0 wx : World) (bb v8 : Value) (ps : List Nat) (ds : List Nat) : Prop where
  b : Below w0.heap.size w0 wx
  i : wx.ownsRow w0.heap.size 3 1 v8 ps.length (ivs ps)
  o : wx.ownsRow w0.heap.size 5 1 bb ds.length (bv ds)
theorem Fmw.next {w0 wx wy : World} {bb v8 : Value} {ps ds : List Nat} (h : Fmw w0 wx bb v8 ps ds) (hb : Below wx.heap.size wx wy) : Fmw w0 wy bb v8 ps ds :=
  ⟨h.b.trans (hb.mono h.b.size), (Kp.of_below (S := fun _ => False) hb).owns h.i (fun _ _ e => e), (Kp.of_below (S := fun _ => False) hb).owns h.o (fun _ _ e => e)⟩
theorem Fmw.grow {w0 wx wy : World} {bb bb' v8 : Value} {ps ds xs : List Nat} (h : Fmw w0 wx bb v8 ps ds) (hg : wx.grownBy wy bb.ownBlock) (ho : wy.ownsRow w0.heap.size 5 1 bb' (ds.length + xs.length) (bv (ds ++ xs))) : Fmw w0 wy bb' v8 ps (ds ++ xs) := by
  have hk : Kp (fun q => bb.ownBlock = some q) wx wy := (Kp.refl _ _).grown hg (fun _ _ e => e)
  refine ⟨h.b.trans (hk.below h.b.size (fun q e => (h.o.lt q e).1)), hk.owns h.i (fun q hq e => own_apart h.i h.o (by decide) hq e), ?_⟩
  rw [List.length_append]
  exact ho
set_option maxRecDepth 1000000 in
set_option maxHeartbeats 4000000 in
theorem rform_map (w : World) (t : Tv) (cs : Array Value) (ht : Tin w t cs) (h9 : t.k = 9) (hnk : t.ks.length = t.is.length) (hnd : t.ks.Nodup) (hks : t.ks.length ≤ 100000) (ps : List Nat) (hp : Srp t.ks t.ks.length ps) (js : List Tv) (hn : js.length = ps.length) (hl1 : (hl 5 t.is.length ++ tfmK (pickS t.ks ps) js).length ≤ 1000000000) (hyb : ∀ x ∈ tfmK (pickS t.ks ps) js, x < 256)
    (ih : ∀ (i p : Nat) (u v : Tv), ps[i]? = some p → t.is[p]? = some u → js[i]? = some v → ∀ (w : World) (cs : Array Value), Tin w u cs → Calls Tryz.prog 57 #[.agg cs] w (FrmP w (tfm v))) :
    Calls Tryz.prog 57 #[.agg cs] w (FrmP w (hl 5 t.is.length ++ tfmK (pickS t.ks ps) js)) := by
  have hb0 := below_alloc4 w (.cells cs 65)
  have HB0 := hide hb0
  have HG0 := hide (heap_alloc_new w (.cells cs 65))
  have ht0 := ht.move (keep_below hb0)
  have HIH := hide ih
  have HL1 := hide hl1
  have HYB := hide hyb
  have HJN := hide hn
  have HSP := hide hp
  have HPL := hide hp.len
  have HND := hide hnd
  have HKN := hide hks
  have HNK := hide hnk
  clear ht hb0 ih hl1 hyb hn hp hnd hks hnk
  generalize hw0 : w.alloc (.cells cs 65) = w0 at *
  have HW0 := hide hw0
  clear hw0
  obtain ⟨vy, vk, vi, rfl, hy, hk, hv, hb⟩ := ht0.parts
  have HKS := hide hk
  have HSZ := hide hk.size
  obtain ⟨⟨a, cap, hvi, _, hf⟩, hmx⟩ := hv
  obtain ⟨⟨ak, ck, hvk, _, hfk⟩, hmk, _⟩ := hk
  subst hvi
  subst hvk
  have HF := hide hf
  have HFK := hide hfk
  clear hb hy ht0 hf hfk
  have q0 : w0.cell? ⟨w.heap.size, 0, none⟩ = some (.int .i64 t.k) := blk_cell (j := 0) HG0.out rfl
  have q11 : w0.cell? ⟨w.heap.size, 11, none⟩ = some (.slice ak t.ks.length ck) := blk_cell (j := 11) HG0.out rfl
  have q12 : w0.cell? ⟨w.heap.size, 12, none⟩ = some (.slice a t.is.length cap) := blk_cell (j := 12) HG0.out rfl
  have g2 : (t.k == 2) = false := beq_eq_false_iff_ne.2 (by omega)
  have g3 : (t.k == 3) = false := beq_eq_false_iff_ne.2 (by omega)
  have g4 : (t.k == 4) = false := beq_eq_false_iff_ne.2 (by omega)
  have g5 : (t.k == 5) = false := beq_eq_false_iff_ne.2 (by omega)
  have g6 : (t.k == 6) = false := beq_eq_false_iff_ne.2 (by omega)
  have g7 : (t.k == 7) = false := beq_eq_false_iff_ne.2 (by omega)
  have g8 : (t.k == 8) = false := beq_eq_false_iff_ne.2 (by omega)
  have g9 : (t.k == 9) = true := beq_iff_eq.2 h9
  clear h9
  have hlt64 : t.is.length < 18446744073709551616 := by omega
  have HC11 : Hid (∀ wx, Below w0.heap.size w0 wx → wx.cell? ⟨w.heap.size, 11, none⟩ = some (.slice ak t.ks.length ck)) := fun wx hb => keep_below hb _ _ q11
  have HC12 : Hid (∀ wx, Below w0.heap.size w0 wx → wx.cell? ⟨w.heap.size, 12, none⟩ = some (.slice a t.is.length cap)) := fun wx hb => keep_below hb _ _ q12
  go_enter Tryz.func57, Tryz.ntmps57
  go_upto_region 1 with fail
  rw [HW0.out]
  go_wp2_with fail
  refine (refLay_any 5 t.is.length w0 (by omega) hlt64).mono ?_
  rintro e w1 ⟨v1, rfl, ho1, hb1⟩
  have eh : hlay 5 t.is.length = hl 5 t.is.length := by unfold hlay; rw [if_pos (by decide)]; rfl
  rw [eh] at ho1
  have HO1 := hide ho1
  have HB1 := hide hb1
  have q11b := HC11.out w1 hb1
  clear ho1 hb1 eh q0 q11 q12 g2 g3 g4 g5 g6 g7 g8 g9
  go_wp2_with fail
  refine (orderR_any t.ks w1 _ (HKS.out.move (keep_below HB1.out)) HKN.out).mono ?_
  rintro e w2 ⟨v8, qs, rfl, hq, ho8, hb2⟩
  have eqs : qs = ps := srp_one HND.out (Nat.le_refl _) hq HSP.out
  subst eqs
  have HFW : Hid (Fmw w0 w2 v1 v8 qs (hl 5 t.is.length)) := ⟨HB1.out.trans (hb2.mono HB1.out.size), own_mono ho8 HB1.out.size, (Kp.of_below (S := fun _ => False) hb2).owns HO1.out (fun _ _ e => e)⟩
  obtain ⟨a8, c8, e8, _⟩ := own_form ho8
  subst e8
  clear ho8 hb2 hq q11b HO1 HB1
  go_wp2_with fail
  go_loopw [7, 9] (fun bb q wr => ∃ (i : Nat), i ≤ qs.length ∧ q = .int .i64 (i : Nat) ∧ Hid (Fmw w0 wr bb (.slice a8 qs.length c8) qs (hl 5 t.is.length ++ tfmK ((pickS t.ks qs).take i) (js.take i)))) (fun _ q _ => qs.length - (intOf q).toNat)
  case atStart => exact ⟨0, Nat.zero_le _, rfl, by show Fmw _ _ _ _ _ _; rw [List.take_zero, List.take_zero, tfmK, List.append_nil]; exact HFW.out⟩
  case round =>
    rename World => wr
    obtain ⟨i, hi, rfl, HR⟩ := hrel
    clear HFW
    have hps1 : qs.length ≤ 100000 := by have h1 := HPL.out; have h2 := HKN.out; omega
    by_cases hlt : i < qs.length
    · as_aux_lemma =>
      have g1 : (i : Int) < (qs.length : Int) := by omega
      have hilt : i < js.length := by have := HJN.out; omega
      obtain ⟨p, hp⟩ : ∃ p, qs[i]? = some p := ⟨_, List.getElem?_eq_getElem hlt⟩
      have hpl : p < t.ks.length := HSP.out.lt p (List.mem_of_getElem? hp)
      have hpi : p < t.is.length := by have := HNK.out; omega
      have gp1 : (p : Int) < (t.ks.length : Int) := by omega
      have gp2 : (p : Int) < (t.is.length : Int) := by omega
      obtain ⟨u, hu⟩ : ∃ u, t.is[p]? = some u := ⟨_, List.getElem?_eq_getElem hpi⟩
      obtain ⟨kk, hkk⟩ : ∃ k, t.ks[p]? = some k := ⟨_, List.getElem?_eq_getElem hpl⟩
      obtain ⟨v, hv⟩ : ∃ v, js[i]? = some v := ⟨_, List.getElem?_eq_getElem hilt⟩
      have hkp : (pickS t.ks qs)[i]? = some kk := by
        unfold pickS
        rw [List.getElem?_map, hp]
        simp [List.getD, hkk]
      obtain ⟨b, off, rfl, hcc⟩ := HF.out.resolve_left (fun h => by rw [h] at hpi; simp at hpi)
      obtain ⟨bk, okk, rfl, hck⟩ := HFK.out.resolve_left (fun h => by rw [h] at hpl; simp at hpl)
      obtain ⟨cu, tu, hcu⟩ := hcc p u hu
      have HSU := hide tu.size13
      have HTU := hide tu
      obtain ⟨g8, rfl⟩ : ∃ g8, a8 = some ⟨g8, 0, none⟩ := by
        rcases HR.out.i.2 with ⟨e, h0⟩ | ⟨g, c, cur, e, _⟩
        · omega
        · injection e with e1 e2 e3
          exact ⟨g, e1⟩
      have HCI : Hid (∀ wx : World, wx.ownsRow w0.heap.size 3 1 (.slice (some ⟨g8, 0, none⟩) qs.length c8) qs.length (ivs qs) → wx.cell? ⟨g8, i, none⟩ = some (.int .i64 (p : Nat))) := fun wx h => (own_cell h (j := i) (by simp [ivs, hp])).1
      have HCK : Hid (∀ wx, Below w0.heap.size w0 wx → wx.cell? ⟨bk, okk + p, none⟩ = some (.string kk)) := fun wx hb => keep_below hb _ _ (hck p kk hkk)
      have HCU : Hid (∀ wx, Below w0.heap.size w0 wx → ∀ j x, cu[j]? = some x → wx.cell? ⟨b, off + p * 13 + j, none⟩ = some x) := fun wx hb j x hx => keep_below hb _ _ (hcu j x hx)
      obtain ⟨hA, X, hX⟩ := tfmK_at (by rw [pickS_len]; exact HJN.out.symm) hkp hv
      have HA := hide hA
      have HKZ : Hid (kk.size ≤ 140737488351232) := HSZ.out kk (List.mem_of_getElem? hkk)
      have HKB : Hid (∀ x ∈ kfm kk, x < 256) := fun x hx => HYB.out x (by rw [hX]; simp [hx])
      have HVB : Hid (∀ x ∈ tfm v, x < 256) := fun x hx => HYB.out x (by rw [hX]; simp [hx])
      have HVL : Hid ((hl 5 t.is.length ++ tfmK ((pickS t.ks qs).take i) (js.take i)).length + (kfm kk).length + (tfm v).length ≤ 1000000000) := by
        have h := HL1.out
        rw [hX] at h
        simp only [List.length_append] at h ⊢
        show _ ≤ _
        omega
      have HCL := hide (HIH.out i p u v hp hu hv)
      clear hcc hck tu hcu hu hv hp hkk hkp hA hX HIH HF HFK HYB HL1 HKS HSZ HSP HND
      generalize hD : hl 5 t.is.length ++ tfmK ((pickS t.ks qs).take i) (js.take i) = D at *
      have HD := hide hD
      clear hD
      go_wp2_with fail
      refine heldStart (S := fun wy => Below w0.heap.size w0 wy ∧ wy.ownsRow w0.heap.size 3 1 (.slice (some ⟨g8, 0, none⟩) qs.length c8) qs.length (ivs qs)) (by kernel_rfl) ?_
      have HRd := hide (HR.out.next (show Below wr.heap.size wr wr.drew by refine Below.drew ?_; exact Below.refl _ _))
      clear HR
      generalize wr.drew = wd at *
      have hS := And.intro HRd.out.b HRd.out.i
      refine heldTake 0 _ rfl (by kernel_rfl) (by kernel_rfl) (by kernel_rfl) (fun _ _ _ h => h) rfl hS (fun wy hy => by first | (go_simp; done) | (go_simp; rfl) | rfl) ?_
      (try simp only [Act.put]); (try simp only [List.setIfInBounds_toArray, List.set_cons_zero, List.set_cons_succ])
      refine heldTake 1 _ rfl (by kernel_rfl) (by kernel_rfl) (by kernel_rfl) (fun _ _ _ h => h) rfl hS (fun wy hy => by first | (go_simp; done) | (go_simp; rfl) | rfl) ?_
      (try simp only [Act.put]); (try simp only [List.setIfInBounds_toArray, List.set_cons_zero, List.set_cons_succ])
      refine heldTake 2 _ rfl (by kernel_rfl) (by kernel_rfl) (by kernel_rfl) (fun _ _ _ h => h) rfl hS (fun wy hy => by have h0 := HC11.out wy hy.1; first | (go_simp; done) | (go_simp; rfl) | rfl) ?_
      (try simp only [Act.put]); (try simp only [List.setIfInBounds_toArray, List.set_cons_zero, List.set_cons_succ])
      refine heldTake 3 _ rfl (by kernel_rfl) (by kernel_rfl) (by kernel_rfl) (fun _ _ _ h => h) rfl hS (fun wy hy => by first | (go_simp; done) | (go_simp; rfl) | rfl) ?_
      (try simp only [Act.put]); (try simp only [List.setIfInBounds_toArray, List.set_cons_zero, List.set_cons_succ])
      refine heldTake 4 _ rfl (by kernel_rfl) (by kernel_rfl) (by kernel_rfl) (fun _ _ _ h => h) rfl hS (fun wy hy => by first | (go_simp; done) | (go_simp; rfl) | rfl) ?_
      (try simp only [Act.put]); (try simp only [List.setIfInBounds_toArray, List.set_cons_zero, List.set_cons_succ])
      refine heldTake 5 _ rfl (by kernel_rfl) (by kernel_rfl) (by kernel_rfl) (fun _ _ _ h => h) rfl hS (fun wy hy => by first | (go_simp; done) | (go_simp; rfl) | rfl) ?_
      (try simp only [Act.put]); (try simp only [List.setIfInBounds_toArray, List.set_cons_zero, List.set_cons_succ])
      refine heldTake 6 _ rfl (by kernel_rfl) (by kernel_rfl) (by kernel_rfl) (fun _ _ _ h => h) rfl hS (fun wy hy => by have h0 := HCI.out wy hy.2; first | (go_simp; done) | (go_simp; rfl) | rfl) ?_
      (try simp only [Act.put]); (try simp only [List.setIfInBounds_toArray, List.set_cons_zero, List.set_cons_succ])
      refine heldTake 7 _ rfl (by kernel_rfl) (by kernel_rfl) (by kernel_rfl) (fun _ _ _ h => h) rfl hS (fun wy hy => by first | (go_simp; done) | (go_simp; rfl) | rfl) ?_
      (try simp only [Act.put]); (try simp only [List.setIfInBounds_toArray, List.set_cons_zero, List.set_cons_succ])
      refine heldTake 8 _ rfl (by kernel_rfl) (by kernel_rfl) (by kernel_rfl) (fun _ _ _ h => h) rfl hS (fun wy hy => by have h0 := HCK.out wy hy.1; first | (go_simp; done) | (go_simp; rfl) | rfl) ?_
      (try simp only [Act.put]); (try simp only [List.setIfInBounds_toArray, List.set_cons_zero, List.set_cons_succ])
      have cv := conv_sb wd kk
      have HBc := hide (conv_sb_below wd kk)
      have HSc := hide (conv_sb_bsl wd kk (by have := HKZ.out; omega))
      have HRc := hide (HRd.out.next HBc.out)
      refine heldStep 9 rfl (by kernel_rfl) (fun K hK => ?_)
      go_simp
      refine (Hid.out hK) _ _ ⟨HRc.out.b, HRc.out.i⟩ (fun hS2 => ?_)
      clear hK K hS cv HRd
      (try simp only [Act.put]); (try simp only [List.setIfInBounds_toArray, List.set_cons_zero, List.set_cons_succ])
      generalize grownCap wd kk.size 0 5 = G at *
      generalize wd.heap.size = gg at *
      generalize Lib.bytesWorld wd 5 kk = wc at *
      refine heldStep 10 rfl (by kernel_rfl) (fun K hK => ?_)
      go_simp
      refine (rtext_any 3 (by decide) wc _ (sl kk) HSc.out (by rw [sl_len]; exact HKZ.out)).mono ?_
      rintro e we ⟨ve, rfl, hoe, hbe⟩
      have HRe := hide (HRc.out.next hbe)
      have HSe : Hid (BSl we ve (kfm kk)) := BSl.own hoe HKB.out
      refine (Hid.out hK) _ _ ⟨HRe.out.b, HRe.out.i⟩ (fun hS3 => ?_)
      clear hK K hS2 HRc HSc hoe hbe
      (try simp only [Act.put]); (try simp only [List.setIfInBounds_toArray, List.set_cons_zero, List.set_cons_succ])
      refine heldStep 11 rfl (by kernel_rfl) (fun K hK => ?_)
      refine step_append_bsl rfl _ _ rfl w0.heap.size _ D.length D rfl HRe.out.o ve (kfm kk) rfl HSe.out (by have := HVL.out; omega) HRe.out.b.size (fun v3 w3 ho3 hg3 => ?_)
      have HR3 := hide (HRe.out.grow hg3 ho3)
      refine (Hid.out hK) _ _ ⟨HR3.out.b, HR3.out.i⟩ (fun hS4 => ?_)
      clear hK K hS3 HRe HSe ho3 hg3
      (try simp only [Act.put]); (try simp only [List.setIfInBounds_toArray, List.set_cons_zero, List.set_cons_succ])
      refine heldTake 12 _ rfl (by kernel_rfl) (by kernel_rfl) (by kernel_rfl) (fun _ _ _ h => h) rfl hS4 (fun wy hy => by first | (go_simp; done) | (go_simp; rfl) | rfl) ?_
      (try simp only [Act.put]); (try simp only [List.setIfInBounds_toArray, List.set_cons_zero, List.set_cons_succ])
      refine heldDone (by kernel_rfl) ?_
      clear hS4
      go_wp2_with fail
      refine heldStart (S := fun wy => Below w0.heap.size w0 wy ∧ wy.ownsRow w0.heap.size 3 1 (.slice (some ⟨g8, 0, none⟩) qs.length c8) qs.length (ivs qs)) (by kernel_rfl) ?_
      have HR4 := hide (HR3.out.next (show Below w3.heap.size w3 w3.drew by refine Below.drew ?_; exact Below.refl _ _))
      clear HR3
      generalize w3.drew = w4 at *
      have hS := And.intro HR4.out.b HR4.out.i
      refine heldTake 0 _ rfl (by kernel_rfl) (by kernel_rfl) (by kernel_rfl) (fun _ _ _ h => h) rfl hS (fun wy hy => by first | (go_simp; done) | (go_simp; rfl) | rfl) ?_
      (try simp only [Act.put]); (try simp only [List.setIfInBounds_toArray, List.set_cons_zero, List.set_cons_succ])
      refine heldTake 1 _ rfl (by kernel_rfl) (by kernel_rfl) (by kernel_rfl) (fun _ _ _ h => h) rfl hS (fun wy hy => by first | (go_simp; done) | (go_simp; rfl) | rfl) ?_
      (try simp only [Act.put]); (try simp only [List.setIfInBounds_toArray, List.set_cons_zero, List.set_cons_succ])
      refine heldTake 2 _ rfl (by kernel_rfl) (by kernel_rfl) (by kernel_rfl) (fun _ _ _ h => h) rfl hS (fun wy hy => by have h0 := HC12.out wy hy.1; first | (go_simp; done) | (go_simp; rfl) | rfl) ?_
      (try simp only [Act.put]); (try simp only [List.setIfInBounds_toArray, List.set_cons_zero, List.set_cons_succ])
      refine heldTake 3 _ rfl (by kernel_rfl) (by kernel_rfl) (by kernel_rfl) (fun _ _ _ h => h) rfl hS (fun wy hy => by first | (go_simp; done) | (go_simp; rfl) | rfl) ?_
      (try simp only [Act.put]); (try simp only [List.setIfInBounds_toArray, List.set_cons_zero, List.set_cons_succ])
      refine heldTake 4 _ rfl (by kernel_rfl) (by kernel_rfl) (by kernel_rfl) (fun _ _ _ h => h) rfl hS (fun wy hy => by first | (go_simp; done) | (go_simp; rfl) | rfl) ?_
      (try simp only [Act.put]); (try simp only [List.setIfInBounds_toArray, List.set_cons_zero, List.set_cons_succ])
      refine heldTake 5 _ rfl (by kernel_rfl) (by kernel_rfl) (by kernel_rfl) (fun _ _ _ h => h) rfl hS (fun wy hy => by first | (go_simp; done) | (go_simp; rfl) | rfl) ?_
      (try simp only [Act.put]); (try simp only [List.setIfInBounds_toArray, List.set_cons_zero, List.set_cons_succ])
      refine heldTake 6 _ rfl (by kernel_rfl) (by kernel_rfl) (by kernel_rfl) (fun _ _ _ h => h) rfl hS (fun wy hy => by have h0 := HCI.out wy hy.2; first | (go_simp; done) | (go_simp; rfl) | rfl) ?_
      (try simp only [Act.put]); (try simp only [List.setIfInBounds_toArray, List.set_cons_zero, List.set_cons_succ])
      refine heldTake 7 _ rfl (by kernel_rfl) (by kernel_rfl) (by kernel_rfl) (fun _ _ _ h => h) rfl hS (fun wy hy => by first | (go_simp; done) | (go_simp; rfl) | rfl) ?_
      (try simp only [Act.put]); (try simp only [List.setIfInBounds_toArray, List.set_cons_zero, List.set_cons_succ])
      refine heldTake 8 _ rfl (by kernel_rfl) (by kernel_rfl) (by kernel_rfl) (fun _ _ _ h => h) rfl hS (fun wy hy => exec_valAt (g := b) (off := off + p * 13) (cs := cu) rfl rfl HSU.out (HCU.out wy hy.1)) ?_
      (try simp only [Act.put]); (try simp only [List.setIfInBounds_toArray, List.set_cons_zero, List.set_cons_succ])
      refine heldStep 9 rfl (by kernel_rfl) (fun K hK => ?_)
      go_simp
      refine (HCL.out w4 cu (HTU.out.move (keep_below HR4.out.b))).mono ?_
      rintro e w5 ⟨v5, rfl, ho5, hb5⟩
      have HR5 := hide (HR4.out.next hb5)
      have HS5 : Hid (BSl w5 v5 (tfm v)) := BSl.own ho5 HVB.out
      refine (Hid.out hK) _ _ ⟨HR5.out.b, HR5.out.i⟩ (fun hS5 => ?_)
      clear hK K hS HR4 ho5 hb5
      (try simp only [Act.put]); (try simp only [List.setIfInBounds_toArray, List.set_cons_zero, List.set_cons_succ])
      refine heldStep 10 rfl (by kernel_rfl) (fun K hK => ?_)
      refine step_append_bsl rfl _ _ rfl w0.heap.size _ (D ++ kfm kk).length (D ++ kfm kk) rfl HR5.out.o v5 (tfm v) rfl HS5.out (by have := HVL.out; rw [List.length_append]; omega) HR5.out.b.size (fun v6 w6 ho6 hg6 => ?_)
      have HR6 := hide (HR5.out.grow hg6 ho6)
      refine (Hid.out hK) _ _ ⟨HR6.out.b, HR6.out.i⟩ (fun hS6 => ?_)
      clear hK K hS5 HR5 HS5 ho6 hg6
      (try simp only [Act.put]); (try simp only [List.setIfInBounds_toArray, List.set_cons_zero, List.set_cons_succ])
      refine heldTake 11 _ rfl (by kernel_rfl) (by kernel_rfl) (by kernel_rfl) (fun _ _ _ h => h) rfl hS6 (fun wy hy => by first | (go_simp; done) | (go_simp; rfl) | rfl) ?_
      (try simp only [Act.put]); (try simp only [List.setIfInBounds_toArray, List.set_cons_zero, List.set_cons_succ])
      refine heldDone (by kernel_rfl) ?_
      clear hS6
      have HRZ : Hid (Fmw w0 w6 v6 (.slice (some ⟨g8, 0, none⟩) qs.length c8) qs (hl 5 t.is.length ++ tfmK ((pickS t.ks qs).take (i + 1)) (js.take (i + 1)))) := by
        show Fmw _ _ _ _ _ _
        rw [HA.out, ← List.append_assoc, HD.out, ← List.append_assoc]
        exact HR6.out
      clear HR6
      go_wp2_with fail
      go_roundw
      case rel => exact ⟨i + 1, by omega, by go_num, HRZ⟩
      case measure => simp [intOf]; omega
    · as_aux_lemma =>
      have g1 : ¬ (i : Int) < (qs.length : Int) := by omega
      have HFIN : Hid (Fmw w0 wr u7 (.slice a8 qs.length c8) qs (hl 5 t.is.length ++ tfmK (pickS t.ks qs) js)) := by
        have h := HR.out
        rw [List.take_of_length_le (by rw [pickS_len]; omega), List.take_of_length_le (by have := HJN.out; omega)] at h
        exact h
      clear HR hlt hi
      go_wp2_with fail
      go_ret
      exact ⟨_, rfl, own_mono HFIN.out.o HB0.out.size, HB0.out.trans (HFIN.out.b.mono HB0.out.size)⟩
end
section
open Go.RowKit Go
set_option maxRecDepth 1000000 in
set_option maxHeartbeats 1000000 in
theorem keys_any (t : Tv) (R : Bool) (hR : R = true ↔ (t.ks.length = t.is.length ∧ t.ks.Nodup)) (w : World) (cs : Array Value) (ht : Tin w t cs) (hn : t.ks.length ≤ 100000) : Calls Tryz.prog 158 #[.agg cs] w fun e w' => e = .returned (.bool R) ∧ Below w.heap.size w w' := by
  have HR := hide hR
  obtain ⟨vy, vk, vi, rfl, hy, hk, hv, hb⟩ := ht.parts
  have HKS := hide hk
  obtain ⟨⟨ak, ck, rfl, _, hkf⟩, hkm, _⟩ := hk
  obtain ⟨⟨ai, ci, rfl, _, _⟩, _⟩ := hv
  have HKF := hide hkf
  have HCK : Hid ((vcs t vy (.slice ak t.ks.length ck) (.slice ai t.is.length ci))[11]? = some (.slice ak t.ks.length ck)) := rfl
  have HCI : Hid ((vcs t vy (.slice ak t.ks.length ck) (.slice ai t.is.length ci))[12]? = some (.slice ai t.is.length ci)) := rfl
  generalize vcs t vy (.slice ak t.ks.length ck) (.slice ai t.is.length ci) = cs at *
  clear hR ht hy hkf hb
  have HQ0 : Hid (Aln w (w.alloc (.cells cs 65)) cs) := box_mk0 w _
  have q11 : (w.alloc (.cells cs 65)).cell? ⟨w.heap.size, 11, none⟩ = some (.slice ak t.ks.length ck) := blk_cell HQ0.out.2 HCK.out
  have q12 : (w.alloc (.cells cs 65)).cell? ⟨w.heap.size, 12, none⟩ = some (.slice ai t.is.length ci) := blk_cell HQ0.out.2 HCI.out
  go_enter Tryz.func158, Tryz.ntmps158
  by_cases hl : t.ks.length = t.is.length
  case neg => as_aux_lemma =>
    have HT : Hid (R = false) := r_no HR.out (fun h => hl h.1)
    have g0 : ((t.ks.length : Int) != (t.is.length : Int)) = true := by rw [nat_ne]; simp [hl]
    clear hl
    go_wp2_with fail
    go_ret
    exact ⟨by rw [HT.out]; rfl, HQ0.out.1⟩
  have g0 : ((t.ks.length : Int) != (t.is.length : Int)) = false := by rw [nat_ne]; simp [hl]
  have HL := hide hl
  clear hl
  go_wp2_with fail
  refine (orderR_any t.ks _ _ (HKS.out.move (keep_below HQ0.out.1)) hn).mono ?_
  rintro e w2 ⟨v, ps, rfl, hsp, ho, hb2⟩
  have HSP := hide hsp
  have hpl : ps.length ≤ 100000 := by have := hsp.len; omega
  have hi2 := ISl.own ho rfl (by omega)
  obtain ⟨⟨pa, pc, rfl, _, hpf⟩, _⟩ := hi2
  have HPF := hide hpf
  have HW2 := hide (HQ0.out.next hb2)
  clear hsp ho hb2 hpf HQ0 q11 q12
  go_wp2_with fail
  go_loopw [4] (fun ii wx => ∃ k : Nat, k ≤ ps.length ∧ ii = .int .i64 ((k : Int) + 1) ∧ Hid (∀ (j p q : Nat), j < k → ps[j]? = some p → ps[j + 1]? = some q → t.ks.getD p ⟨#[]⟩ ≠ t.ks.getD q ⟨#[]⟩) ∧ Hid (Below w2.heap.size w2 wx)) (fun ii _ => ps.length + 1 - (intOf ii).toNat)
  case atStart => exact ⟨0, by omega, rfl, fun j p q hj => absurd hj (by omega), Below.refl _ _⟩
  case round =>
    obtain ⟨k, hk1, rfl, HI, HBw⟩ := hrel
    have x1 : wr.cell? ⟨w.heap.size, 11, none⟩ = some (.slice ak t.ks.length ck) := keep_below HBw.out _ _ (blk_cell HW2.out.2 HCK.out)
    by_cases hlt : k + 1 < ps.length
    · have g1 : (k : Int) + 1 < (ps.length : Int) := by omega
      obtain ⟨p, hp⟩ : ∃ p, ps[k]? = some p := ⟨ps[k], List.getElem?_eq_getElem (by omega)⟩
      obtain ⟨q, hq⟩ : ∃ p, ps[k + 1]? = some p := ⟨ps[k + 1], List.getElem?_eq_getElem hlt⟩
      have l1 := HSP.out.lt p (List.mem_of_getElem? hp)
      have l2 := HSP.out.lt q (List.mem_of_getElem? hq)
      obtain ⟨b1, off1, rfl, hc1⟩ := HPF.out.resolve_left (fun h => by rw [h] at hlt; simp at hlt)
      obtain ⟨b2, off2, rfl, hc2⟩ := HKF.out.resolve_left (fun h => by rw [h] at l1; simp at l1)
      have hkw : ∀ a x, w.cell? a = some x → wr.cell? a = some x := fun a x h => keep_below HBw.out _ _ (keep_below HW2.out.1 _ _ h)
      have c1 : wr.cell? ⟨b1, off1 + k, none⟩ = some (.int .i64 (p : Nat)) := keep_below HBw.out _ _ (hc1 k p hp)
      have c2 : wr.cell? ⟨b1, off1 + (k + 1), none⟩ = some (.int .i64 (q : Nat)) := keep_below HBw.out _ _ (hc1 (k + 1) q hq)
      have s1 : wr.cell? ⟨b2, off2 + p, none⟩ = some (.string (t.ks.getD p ⟨#[]⟩)) := hkw _ _ (hc2 p _ (by simp [List.getD, List.getElem?_eq_getElem l1]))
      have s2 : wr.cell? ⟨b2, off2 + q, none⟩ = some (.string (t.ks.getD q ⟨#[]⟩)) := hkw _ _ (hc2 q _ (by simp [List.getD, List.getElem?_eq_getElem l2]))
      have g3 : (k : Int) < (ps.length : Int) := by omega
      have g4 : (p : Int) < (t.ks.length : Int) := by omega
      have g5 : (q : Int) < (t.ks.length : Int) := by omega
      clear hc1 hc2 hkw
      by_cases he : t.ks.getD p ⟨#[]⟩ = t.ks.getD q ⟨#[]⟩
      · as_aux_lemma =>
        have HT : Hid (R = false) := r_no HR.out (fun h => dup_adj HSP.out hp hq he h.2)
        have hne : ((t.ks.getD q ⟨#[]⟩).toList == (t.ks.getD p ⟨#[]⟩).toList) = true := by rw [he]; simp
        clear hp hq he HI
        generalize t.ks.getD p ⟨#[]⟩ = k1 at *
        generalize t.ks.getD q ⟨#[]⟩ = k2 at *
        go_wp2_with fail
        go_quiet (fail)
        go_wp2_with fail
        go_ret
        exact ⟨by rw [HT.out]; rfl, HW2.out.1.trans ((HBw.out.trans ((((Kp.refl (fun _ => False) wr).drewN _).below (Nat.le_refl _) (fun _ h => h.elim)).mono HBw.out.size)).mono HW2.out.1.size)⟩
      · as_aux_lemma =>
        have hne : ((t.ks.getD q ⟨#[]⟩).toList == (t.ks.getD p ⟨#[]⟩).toList) = false := str_beq_no (fun h => he h.symm)
        have HI2 : Hid (∀ (j p q : Nat), j < k + 1 → ps[j]? = some p → ps[j + 1]? = some q → t.ks.getD p ⟨#[]⟩ ≠ t.ks.getD q ⟨#[]⟩) := fun j p' q' hj h1 h2 => by
          by_cases hjk : j = k
          · subst hjk
            rw [hp] at h1
            rw [hq] at h2
            injection h1 with h1
            injection h2 with h2
            subst h1 h2
            exact he
          · exact HI.out j p' q' (by omega) h1 h2
        clear hp hq he HI
        generalize t.ks.getD p ⟨#[]⟩ = k1 at *
        generalize t.ks.getD q ⟨#[]⟩ = k2 at *
        go_wp2_with fail
        go_quiet (fail)
        go_wp2_with fail
        have HB2 : Hid (Below w2.heap.size w2 (wr.drewN nq)) := HBw.out.trans ((((Kp.refl (fun _ => False) wr).drewN _).below (Nat.le_refl _) (fun _ h => h.elim)).mono HBw.out.size)
        go_roundw
        case rel => exact ⟨k + 1, by omega, by go_num, HI2, HB2⟩
        case measure => simp [intOf]; omega
    · as_aux_lemma =>
      have g1 : ¬ (k : Int) + 1 < (ps.length : Int) := by omega
      have HT : Hid (R = true) := HR.out.2 ⟨HL.out, nodup_adj HSP.out (fun j p q h1 h2 => HI.out j p q (by have := (List.getElem?_eq_some_iff.1 h2).1; omega) h1 h2)⟩
      go_wp2_with fail
      go_ret
      exact ⟨by rw [HT.out]; rfl, HW2.out.1.trans (HBw.out.mono HW2.out.1.size)⟩
end
section
open Go.RowKit Go
/-- How many bytes a code point's first byte asks for; the bounds of the second. -/
def un (c : Nat) : Nat := if 194 ≤ c ∧ c ≤ 223 then 2 else if 224 ≤ c ∧ c ≤ 239 then 3 else if 240 ≤ c ∧ c ≤ 244 then 4 else 0
def ulo (c : Nat) : Nat := if c = 240 then 144 else if c = 224 then 160 else 128
def uhi (c : Nat) : Nat := if c = 244 then 143 else if c = 237 then 159 else 191
/-- How many bytes the code point at the front has; 0: there is none. -/
def uone (b : List Nat) : Nat := match b with
  | [] => 0
  | c :: r => if c < 128 then 1
    else if un c = 0 ∨ b.length < un c ∨ r.getD 0 0 < ulo c ∨ uhi c < r.getD 0 0 then 0
    else if ((b.take (un c)).drop 2).all (fun x => decide (128 ≤ x) && decide (x ≤ 191)) then un c else 0
theorem un_le (c : Nat) : un c ≤ 4 := by
  unfold un
  split
  · omega
  · split
    · omega
    · split <;> omega
theorem un_ge (c : Nat) : un c = 0 ∨ 2 ≤ un c := by
  unfold un
  split
  · omega
  · split
    · omega
    · split <;> omega
theorem drop_take2 (B : List Nat) : (B.take 2).drop 2 = [] := List.drop_of_length_le (by rw [List.length_take]; omega)
theorem take_drop2 {B : List Nat} {i : Nat} (h2 : 2 ≤ i) (hi : i < B.length) : (B.take (i + 1)).drop 2 = (B.take i).drop 2 ++ [B.getD i 0] := by
  rw [take_at B i hi, List.drop_append_of_le_length (by rw [List.length_take]; omega)]
theorem mem_take_drop2 {B : List Nat} {i n : Nat} (h2 : 2 ≤ i) (hn : i < n) (hi : i < B.length) : B.getD i 0 ∈ (B.take n).drop 2 := by
  rw [List.mem_iff_getElem?]
  refine ⟨i - 2, ?_⟩
  rw [List.getElem?_drop, show 2 + (i - 2) = i by omega, List.getElem?_take_of_lt hn, List.getD_eq_getElem?_getD, List.getElem?_eq_getElem hi]
  rfl
set_option maxRecDepth 1000000 in
set_option maxHeartbeats 1000000 in
theorem one6_any (w : World) (s : ByteArray) (hs : s.size ≤ 9223372036854775807) : Calls Tryz.prog 175 #[.string s] w fun e w' => e = .returned (.int .i64 (uone (sl s) : Nat)) ∧ w' = w := by
  have HSL := hide (sl_len s)
  have HAT := hide (fun i h => sl_at s i h)
  go_enter Tryz.func175, Tryz.ntmps175
  cases hsl : sl s with
  | nil =>
    as_aux_lemma =>
    have hz : s.size = 0 := by rw [← HSL.out, hsl]; rfl
    have g0 : ((s.size : Int) == 0) = true := beq_iff_eq.2 (by omega)
    clear hz hsl
    go_wp2_with fail
    go_ret
    exact ⟨rfl, rfl⟩
  | cons c r =>
    have hz : s.size = r.length + 1 := by rw [← HSL.out, hsl]; rfl
    have g0 : ((s.size : Int) == 0) = false := beq_eq_false_iff_ne.2 (by omega)
    have gp : (0 : Int) < (s.size : Int) := by omega
    have h0 : 0 < s.size := by omega
    have HC : Hid (s[0].toNat = c) := by
      have h := HAT.out 0 h0
      rw [hsl] at h
      exact h.symm
    have HU : Hid (uone (c :: r) = if c < 128 then 1 else if un c = 0 ∨ s.size < un c ∨ r.getD 0 0 < ulo c ∨ uhi c < r.getD 0 0 then 0 else if (((c :: r).take (un c)).drop 2).all (fun x => decide (128 ≤ x) && decide (x ≤ 191)) then un c else 0) := by
      show _ = _
      unfold uone
      rw [hz]
      rfl
    have HSX := hide hsl
    have hc6 : s[0].toNat < 256 := (s[0]).toNat_lt
    have HZ := hide hz
    clear hz
    by_cases h128 : c < 128
    · as_aux_lemma =>
      rw [if_pos h128] at HU
      have g1 : (s[0].toNat : Int) < 128 := by have := HC.out; omega
      clear h128 hsl
      go_wp2_with fail
      go_ret
      exact ⟨by rw [HU.out]; rfl, rfl⟩
    · rw [if_neg h128] at HU
      have g1 : ¬ (s[0].toNat : Int) < 128 := by have := HC.out; omega
      have HC8 : Hid (¬ c < 128) := h128
      clear h128 hsl
      go_upto_block 0 with fail
      go_cut [4] (fun nn wx => nn = .int .i64 (un c : Nat) ∧ wx = w)
      case first => as_aux_lemma =>
        by_cases a1 : 194 ≤ s[0].toNat
        · have k1 : (194 : Int) ≤ (s[0].toNat : Int) := by omega
          by_cases a2 : s[0].toNat ≤ 223
          · have k2 : (s[0].toNat : Int) ≤ 223 := by omega
            have HN : Hid (un c = 2) := by show _ = _; rw [← HC.out]; exact if_pos ⟨a1, a2⟩
            go_wp2_with fail
            go_meet
            case rel => exact ⟨by rw [HN.out]; rfl, rfl⟩
          · have k2 : ¬ (s[0].toNat : Int) ≤ 223 := by omega
            have k3 : (224 : Int) ≤ (s[0].toNat : Int) := by omega
            by_cases a3 : s[0].toNat ≤ 239
            · have k4 : (s[0].toNat : Int) ≤ 239 := by omega
              have HN : Hid (un c = 3) := by show _ = _; rw [← HC.out]; unfold un; rw [if_neg (by omega), if_pos (by omega)]
              go_wp2_with fail
              go_meet
              case rel => exact ⟨by rw [HN.out]; rfl, rfl⟩
            · have k4 : ¬ (s[0].toNat : Int) ≤ 239 := by omega
              have k5 : (240 : Int) ≤ (s[0].toNat : Int) := by omega
              by_cases a4 : s[0].toNat ≤ 244
              · have k6 : (s[0].toNat : Int) ≤ 244 := by omega
                have HN : Hid (un c = 4) := by show _ = _; rw [← HC.out]; unfold un; rw [if_neg (by omega), if_neg (by omega), if_pos (by omega)]
                go_wp2_with fail
                go_meet
                case rel => exact ⟨by rw [HN.out]; rfl, rfl⟩
              · have k6 : ¬ (s[0].toNat : Int) ≤ 244 := by omega
                have HN : Hid (un c = 0) := by show _ = _; rw [← HC.out]; unfold un; rw [if_neg (by omega), if_neg (by omega), if_neg (by omega)]
                go_wp2_with fail
                go_meet
                case rel => exact ⟨by rw [HN.out]; rfl, rfl⟩
        · have k1 : ¬ (194 : Int) ≤ (s[0].toNat : Int) := by omega
          have k2 : ¬ (224 : Int) ≤ (s[0].toNat : Int) := by omega
          have k3 : ¬ (240 : Int) ≤ (s[0].toNat : Int) := by omega
          have HN : Hid (un c = 0) := by show _ = _; rw [← HC.out]; unfold un; rw [if_neg (by omega), if_neg (by omega), if_neg (by omega)]
          go_wp2_with fail
          go_meet
          case rel => exact ⟨by rw [HN.out]; rfl, rfl⟩
      case rest => as_aux_lemma =>
        obtain ⟨hnn, hww⟩ := hcut
        have hww := hww.symm
        subst hww
        have hu4 := un_le c
        generalize hun : un c = n at *
        have HUN := hide hun
        clear hun
        subst hnn
        go_upto_if 37 with fail
        go_cut [5] (fun ll wx => ∃ zz : Nat, ll = .int .u8 (zz : Nat) ∧ zz < 256 ∧ Hid (zz = if c = 224 then 160 else 128) ∧ wx = w)
        case first => as_aux_lemma =>
          by_cases a1 : s[0].toNat = 224
          · have k1 : ((s[0].toNat : Int) == 224) = true := beq_iff_eq.2 (by omega)
            have HN : Hid (160 = if c = 224 then 160 else 128) := by show _ = _; rw [← HC.out, if_pos a1]
            clear a1
            go_wp2_with fail
            go_meet
            case rel => exact ⟨160, rfl, by omega, HN, rfl⟩
          · have k1 : ((s[0].toNat : Int) == 224) = false := beq_eq_false_iff_ne.2 (by omega)
            have HN : Hid (128 = if c = 224 then 160 else 128) := by show _ = _; rw [← HC.out, if_neg a1]
            clear a1
            go_wp2_with fail
            go_meet
            case rel => exact ⟨128, rfl, by omega, HN, rfl⟩
        case rest => as_aux_lemma =>
          obtain ⟨l1, rfl, hl1, Hl1, hww⟩ := hcut
          have hww := hww.symm
          subst hww
          go_upto_if 39 with fail
          go_cut [6] (fun ll wx => ∃ zz : Nat, ll = .int .u8 (zz : Nat) ∧ zz < 256 ∧ Hid (zz = if c = 237 then 159 else 191) ∧ wx = w)
          case first => as_aux_lemma =>
            by_cases a1 : s[0].toNat = 237
            · have k1 : ((s[0].toNat : Int) == 237) = true := beq_iff_eq.2 (by omega)
              have HN : Hid (159 = if c = 237 then 159 else 191) := by show _ = _; rw [← HC.out, if_pos a1]
              clear a1
              go_wp2_with fail
              go_meet
              case rel => exact ⟨159, rfl, by omega, HN, rfl⟩
            · have k1 : ((s[0].toNat : Int) == 237) = false := beq_eq_false_iff_ne.2 (by omega)
              have HN : Hid (191 = if c = 237 then 159 else 191) := by show _ = _; rw [← HC.out, if_neg a1]
              clear a1
              go_wp2_with fail
              go_meet
              case rel => exact ⟨191, rfl, by omega, HN, rfl⟩
          case rest => as_aux_lemma =>
            obtain ⟨h1, rfl, hh1, Hh1, hww⟩ := hcut
            have hww := hww.symm
            subst hww
            go_upto_if 41 with fail
            go_cut [5] (fun ll wx => ∃ zz : Nat, ll = .int .u8 (zz : Nat) ∧ zz < 256 ∧ Hid (zz = if c = 240 then 144 else l1) ∧ wx = w)
            case first => as_aux_lemma =>
              by_cases a1 : s[0].toNat = 240
              · have k1 : ((s[0].toNat : Int) == 240) = true := beq_iff_eq.2 (by omega)
                have HN : Hid (144 = if c = 240 then 144 else l1) := by show _ = _; rw [← HC.out, if_pos a1]
                clear a1
                go_wp2_with fail
                go_meet
                case rel => exact ⟨144, rfl, by omega, HN, rfl⟩
              · have k1 : ((s[0].toNat : Int) == 240) = false := beq_eq_false_iff_ne.2 (by omega)
                have HN : Hid (l1 = if c = 240 then 144 else l1) := by show _ = _; rw [← HC.out, if_neg a1]
                clear a1
                go_wp2_with fail
                go_meet
                case rel => exact ⟨l1, rfl, by omega, HN, rfl⟩
            case rest => as_aux_lemma =>
              obtain ⟨l2, rfl, hl2, Hl2, hww⟩ := hcut
              have hww := hww.symm
              subst hww
              go_upto_if 43 with fail
              go_cut [6] (fun ll wx => ∃ zz : Nat, ll = .int .u8 (zz : Nat) ∧ zz < 256 ∧ Hid (zz = if c = 244 then 143 else h1) ∧ wx = w)
              case first => as_aux_lemma =>
                by_cases a1 : s[0].toNat = 244
                · have k1 : ((s[0].toNat : Int) == 244) = true := beq_iff_eq.2 (by omega)
                  have HN : Hid (143 = if c = 244 then 143 else h1) := by show _ = _; rw [← HC.out, if_pos a1]
                  clear a1
                  go_wp2_with fail
                  go_meet
                  case rel => exact ⟨143, rfl, by omega, HN, rfl⟩
                · have k1 : ((s[0].toNat : Int) == 244) = false := beq_eq_false_iff_ne.2 (by omega)
                  have HN : Hid (h1 = if c = 244 then 143 else h1) := by show _ = _; rw [← HC.out, if_neg a1]
                  clear a1
                  go_wp2_with fail
                  go_meet
                  case rel => exact ⟨h1, rfl, by omega, HN, rfl⟩
              case rest => as_aux_lemma =>
                obtain ⟨h2, rfl, hh2, Hh2, hww⟩ := hcut
                have hww := hww.symm
                subst hww
                have HLO : Hid (ulo c = l2) := by show _ = _; unfold ulo; rw [Hl2.out, Hl1.out]
                have HHI : Hid (uhi c = h2) := by show _ = _; unfold uhi; rw [Hh2.out, Hh1.out]
                rw [HLO.out, HHI.out] at HU
                clear Hl1 Hl2 Hh1 Hh2 HLO HHI hl1 hh1
                by_cases b1 : n = 0
                · as_aux_lemma =>
                  rw [if_pos (.inl b1)] at HU
                  have k1 : ((n : Int) == 0) = true := beq_iff_eq.2 (by omega)
                  clear b1
                  go_wp2_with fail
                  go_ret
                  exact ⟨by rw [HU.out]; rfl, rfl⟩
                · have k1 : ((n : Int) == 0) = false := beq_eq_false_iff_ne.2 (by omega)
                  by_cases b2 : s.size < n
                  · as_aux_lemma =>
                    rw [if_pos (.inr (.inl b2))] at HU
                    have k2 : (s.size : Int) < (n : Int) := by omega
                    go_wp2_with fail
                    go_ret
                    exact ⟨by rw [HU.out]; rfl, rfl⟩
                  · have k2 : ¬ (s.size : Int) < (n : Int) := by omega
                    have hn2 : 2 ≤ n := by
                      rcases un_ge c with e | e
                      · rw [HUN.out] at e
                        exact absurd e b1
                      · rw [HUN.out] at e
                        exact e
                    have h1s : 1 < s.size := by omega
                    have gp1 : (1 : Int) < (s.size : Int) := by omega
                    have HS1 : Hid (r.getD 0 0 = s[1].toNat) := by
                      have h := HAT.out 1 h1s
                      rw [HSX.out] at h
                      exact h
                    rw [HS1.out] at HU
                    have hs6 : s[1].toNat < 256 := (s[1]).toNat_lt
                    by_cases b3 : s[1].toNat < l2
                    · as_aux_lemma =>
                      rw [if_pos (.inr (.inr (.inl b3)))] at HU
                      have k3 : (s[1].toNat : Int) < (l2 : Int) := by omega
                      go_wp2_with fail
                      go_ret
                      exact ⟨by rw [HU.out]; rfl, rfl⟩
                    · have k3 : ¬ (s[1].toNat : Int) < (l2 : Int) := by omega
                      by_cases b4 : h2 < s[1].toNat
                      · as_aux_lemma =>
                        rw [if_pos (.inr (.inr (.inr b4)))] at HU
                        have k4 : (h2 : Int) < (s[1].toNat : Int) := by omega
                        go_wp2_with fail
                        go_ret
                        exact ⟨by rw [HU.out]; rfl, rfl⟩
                      · have k4 : ¬ (h2 : Int) < (s[1].toNat : Int) := by omega
                        rw [if_neg (by omega)] at HU
                        have HCL : Hid ((c :: r).length = s.size) := by show _ = _; rw [← HSX.out, HSL.out]
                        have HGT : Hid (∀ i (h : i < s.size), (c :: r).getD i 0 = s[i].toNat) := fun i h => by have e := HAT.out i h; rw [HSX.out] at e; exact e
                        clear b1 HUN HS1 HAT HSX HSL HZ
                        generalize hcr : c :: r = B at HU HCL HGT
                        have HCR : Hid (c :: r = B) := hcr
                        clear hcr
                        go_wp2_with fail
                        go_loopw [7] (fun ii wx => ∃ i : Nat, 2 ≤ i ∧ i ≤ n ∧ ii = .int .i64 (i : Nat) ∧ Hid (((B.take i).drop 2).all (fun x => decide (128 ≤ x) && decide (x ≤ 191)) = true) ∧ wx = w) (fun ii _ => n - (intOf ii).toNat)
                        case atStart => exact ⟨2, by omega, by omega, rfl, by show _ = _; rw [drop_take2]; rfl, rfl⟩
                        case round => as_aux_lemma =>
                          obtain ⟨i, hi2, hin, rfl, HALL, hww⟩ := hrel
                          have hww := hww.symm
                          subst hww
                          by_cases hlt : i < n
                          · have m1 : (i : Int) < (n : Int) := by omega
                            have his : i < s.size := by omega
                            have m2 : (i : Int) < (s.size : Int) := by omega
                            have HGi := hide (HGT.out i his)
                            have HTS := hide (take_drop2 (B := B) (i := i) hi2 (by rw [HCL.out]; exact his))
                            rw [HGi.out] at HTS
                            have HMEM : Hid (s[i].toNat ∈ (B.take n).drop 2) := by
                              have e := mem_take_drop2 (B := B) (i := i) (n := n) hi2 hlt (by rw [HCL.out]; exact his)
                              rw [HGi.out] at e
                              exact e
                            by_cases c1 : s[i].toNat < 128
                            · as_aux_lemma =>
                              have q1 : (s[i].toNat : Int) < 128 := by omega
                              rw [if_neg (fun h => by have e := List.all_eq_true.1 h _ HMEM.out; simp at e; omega)] at HU
                              go_wp2_with fail
                              go_ret
                              exact ⟨by rw [HCR.out, HU.out]; rfl, rfl⟩
                            · have q1 : ¬ (s[i].toNat : Int) < 128 := by omega
                              by_cases c2 : 191 < s[i].toNat
                              · as_aux_lemma =>
                                have q2 : (191 : Int) < (s[i].toNat : Int) := by omega
                                rw [if_neg (fun h => by have e := List.all_eq_true.1 h _ HMEM.out; simp at e; omega)] at HU
                                go_wp2_with fail
                                go_ret
                                exact ⟨by rw [HCR.out, HU.out]; rfl, rfl⟩
                              · as_aux_lemma =>
                                have q2 : ¬ (191 : Int) < (s[i].toNat : Int) := by omega
                                have HA2 : Hid (((B.take (i + 1)).drop 2).all (fun x => decide (128 ≤ x) && decide (x ≤ 191)) = true) := by
                                  show _ = _
                                  rw [HTS.out, List.all_append, HALL.out]
                                  simp
                                  omega
                                go_wp2_with fail
                                go_roundw
                                case rel => exact ⟨i + 1, by omega, by omega, by go_num, HA2, trivial⟩
                                case measure => simp [intOf]; omega
                          · as_aux_lemma =>
                            have m1 : ¬ (i : Int) < (n : Int) := by omega
                            have hien : i = n := by omega
                            rw [hien] at HALL
                            rw [if_pos HALL.out] at HU
                            clear hien
                            go_wp2_with fail
                            go_ret
                            exact ⟨by rw [HCR.out, HU.out]; rfl, rfl⟩
end
section
open Go.RowKit Go
theorem uone_le (b : List Nat) : uone b ≤ b.length := by
  unfold uone
  split
  · omega
  · rename_i c r
    split
    · simp
    · split
      · omega
      · split
        · omega
        · omega
/-- Code points from end to end. -/
def ugood (b : List Nat) : Bool := if b = [] then true else if _h : uone b = 0 then false else ugood (b.drop (uone b))
termination_by b.length
decreasing_by
  have := uone_le b
  rw [List.length_drop]
  omega
theorem ugood_nil : ugood [] = true := by rw [ugood, if_pos rfl]
theorem ugood_bad {b : List Nat} (h : b ≠ []) (h0 : uone b = 0) : ugood b = false := by rw [ugood, if_neg h, dif_pos h0]
theorem ugood_step {b : List Nat} (h : b ≠ []) (h0 : uone b ≠ 0) : ugood b = ugood (b.drop (uone b)) := by rw [ugood, if_neg h, dif_neg h0]
set_option maxRecDepth 1000000 in
set_option maxHeartbeats 1000000 in
theorem good6_any (w : World) (s : ByteArray) (hs : s.size ≤ 9223372036854775807) : Calls Tryz.prog 157 #[.string s] w fun e w' => e = .returned (.bool (ugood (sl s))) ∧ w' = w := by
  have HSL := hide (sl_len s)
  generalize hG : ugood (sl s) = G
  have HG := hide hG
  clear hG
  go_enter Tryz.func157, Tryz.ntmps157
  go_wp2_with fail
  go_loopw [3] (fun ii wx => ∃ i : Nat, i ≤ s.size ∧ ii = .int .i64 (i : Nat) ∧ Hid (ugood ((sl s).drop i) = G) ∧ wx = w) (fun ii _ => s.size - (intOf ii).toNat)
  case atStart => exact ⟨0, by omega, rfl, by show _ = _; rw [List.drop_zero]; exact HG.out, rfl⟩
  case round => as_aux_lemma =>
    obtain ⟨i, hi, rfl, HD, hww⟩ := hrel
    have hww := hww.symm
    subst hww
    clear HG
    by_cases hlt : i < s.size
    · have m1 : (i : Int) < (s.size : Int) := by omega
      have m2 : (i : Int) ≤ (s.size : Int) := by omega
      have HNE : Hid ((sl s).drop i ≠ []) := fun h => by
        have e := congrArg List.length h
        rw [List.length_drop, HSL.out] at e
        simp at e
        omega
      have HX : Hid (sl (s.extract i s.size) = (sl s).drop i) := by
        show _ = _
        rw [sl_extract, ← HSL.out, List.take_length]
      have HLE : Hid (uone ((sl s).drop i) ≤ s.size - i) := by
        have h := uone_le ((sl s).drop i)
        rw [List.length_drop, HSL.out] at h
        exact h
      have HC : Hid (∀ wx, Calls Tryz.prog 175 #[.string (s.extract i s.size)] wx fun e w' => e = .returned (.int .i64 (uone ((sl s).drop i) : Nat)) ∧ w' = wx) := fun wx => by
        have h := one6_any wx (s.extract i s.size) (by rw [← sl_len, HX.out, List.length_drop, HSL.out]; omega)
        rw [HX.out] at h
        exact h
      have HB0 : Hid (uone ((sl s).drop i) = 0 → false = G) := fun h => (ugood_bad HNE.out h).symm.trans HD.out
      have HB1 : Hid (uone ((sl s).drop i) ≠ 0 → ugood ((sl s).drop (i + uone ((sl s).drop i))) = G) := fun h => by
        rw [← HD.out, ugood_step HNE.out h, List.drop_drop]
      clear HX HNE HD
      generalize uone ((sl s).drop i) = n at *
      have hle := HLE.out
      clear HLE
      go_wp2_with fail
      refine (HC.out w).mono ?_
      rintro e w3 ⟨rfl, hw3⟩
      have hw3 := hw3.symm
      subst hw3
      clear HC
      by_cases hn : n = 0
      · as_aux_lemma =>
        have k1 : ((n : Int) == 0) = true := beq_iff_eq.2 (by omega)
        have HGG := hide (HB0.out hn)
        clear hn
        go_wp2_with fail
        go_ret
        exact ⟨by rw [← HGG.out]; rfl, rfl⟩
      · as_aux_lemma =>
        have k1 : ((n : Int) == 0) = false := beq_eq_false_iff_ne.2 (by omega)
        have HGG := hide (HB1.out hn)
        go_wp2_with fail
        go_roundw
        case rel => exact ⟨i + n, by omega, by go_num, HGG, trivial⟩
        case measure => simp [intOf]; omega
    · as_aux_lemma =>
      have m1 : ¬ (i : Int) < (s.size : Int) := by omega
      have HGG : Hid (true = G) := by
        show _ = _
        rw [← HD.out, List.drop_of_length_le (by rw [HSL.out]; omega), ugood_nil]
      go_wp2_with fail
      go_ret
      exact ⟨by rw [← HGG.out]; rfl, rfl⟩
end
section
open Go.RowKit Go
theorem first_un : ∀ c : Fin 256, 128 ≤ c.val → (un c.val = 0 → Lib.firstT c.val % 8 ≠ 2 ∧ Lib.firstT c.val % 8 ≠ 3 ∧ Lib.firstT c.val % 8 ≠ 4) ∧ (un c.val ≠ 0 → Lib.firstT c.val % 8 = un c.val ∧ Lib.accLo (Lib.firstT c.val / 16) = ulo c.val ∧ Lib.accHi (Lib.firstT c.val / 16) = uhi c.val) := by decide +kernel
theorem un_is (c : Nat) : un c = 0 ∨ un c = 2 ∨ un c = 3 ∨ un c = 4 := by
  unfold un
  split
  · omega
  · split
    · omega
    · split <;> omega
theorem uone_lead (c : Nat) (r : List Nat) (h : 128 ≤ c) : uone (c :: r) = if un c = 0 ∨ (c :: r).length < un c ∨ r.getD 0 0 < ulo c ∨ uhi c < r.getD 0 0 then 0 else if (((c :: r).take (un c)).drop 2).all (fun x => decide (128 ≤ x) && decide (x ≤ 191)) then un c else 0 := by
  show (if c < 128 then 1 else _) = _
  rw [if_neg (by omega)]
theorem uone_chk (x : UInt8) (r : List UInt8) (h : 128 ≤ x.toNat) : Lib.checkN (x :: r).length ((x :: r).getD 1 0).toNat ((x :: r).getD 2 0).toNat ((x :: r).getD 3 0).toNat (Lib.firstT x.toNat % 8) (Lib.accLo (Lib.firstT x.toNat / 16)) (Lib.accHi (Lib.firstT x.toNat / 16)) = if uone ((x :: r).map UInt8.toNat) = 0 then none else some (uone ((x :: r).map UInt8.toNat)) := by
  obtain ⟨h0, h1⟩ := first_un ⟨x.toNat, x.toNat_lt⟩ h
  simp only at h0 h1
  rw [List.map_cons, uone_lead _ _ h]
  by_cases hu : un x.toNat = 0
  · have e := h0 hu
    rw [if_pos (Or.inl hu : un x.toNat = 0 ∨ _), if_pos (rfl : (0 : Nat) = 0)]
    unfold Lib.checkN
    rw [if_neg e.1, if_neg e.2.1, if_neg e.2.2]
  · obtain ⟨e1, e2, e3⟩ := h1 hu
    rw [e1, e2, e3]
    clear e1 e2 e3 h0 h1
    unfold Lib.checkN
    generalize ulo x.toNat = lo
    generalize uhi x.toNat = hi
    rcases un_is x.toNat with e | e | e | e
    · exact absurd e hu
    · rw [e]
      clear e hu
      rcases r with _ | ⟨a, _ | ⟨b, _ | ⟨d, r⟩⟩⟩ <;> simp <;> (try split) <;> simp_all <;> omega
    · rw [e]
      clear e hu
      rcases r with _ | ⟨a, _ | ⟨b, _ | ⟨d, r⟩⟩⟩ <;> simp <;> (try split) <;> simp_all <;> omega
    · rw [e]
      clear e hu
      rcases r with _ | ⟨a, _ | ⟨b, _ | ⟨d, r⟩⟩⟩ <;> simp <;> (try split) <;> simp_all <;> omega
theorem uone_ascii (c : Nat) (r : List Nat) (h : c < 128) : uone (c :: r) = 1 := if_pos h
theorem valid_ugood (n : Nat) : ∀ l : List UInt8, l.length ≤ n → Lib.validD l = ugood (l.map UInt8.toNat) := by
  induction n with
  | zero => intro l hl; rw [List.eq_nil_of_length_eq_zero (Nat.le_zero.1 hl)]; exact ugood_nil.symm
  | succ n ih =>
    intro l hl
    rcases l with _ | ⟨x, r⟩
    · exact ugood_nil.symm
    · by_cases h : x.toNat < 128
      · rw [Lib.validD_cons x r h, List.map_cons, ugood_step (by simp) (by rw [uone_ascii _ _ h]; decide), uone_ascii _ _ h, ih r (by simp at hl; omega)]
        rfl
      · have hk := uone_chk x r (by omega)
        rw [Lib.validD_lead (x :: r) (by simp) (by show 128 ≤ x.toNat; omega)]
        show (match Lib.checkN (x :: r).length ((x :: r).getD 1 0).toNat ((x :: r).getD 2 0).toNat ((x :: r).getD 3 0).toNat (Lib.firstT x.toNat % 8) (Lib.accLo (Lib.firstT x.toNat / 16)) (Lib.accHi (Lib.firstT x.toNat / 16)) with | none => false | some k => Lib.validD ((x :: r).drop k)) = _
        rw [hk]
        by_cases h0 : uone ((x :: r).map UInt8.toNat) = 0
        · rw [if_pos h0, ugood_bad (by simp) h0]
        · rw [if_neg h0, ugood_step (by simp) h0]
          show Lib.validD ((x :: r).drop (uone ((x :: r).map UInt8.toNat))) = _
          have hle := uone_le ((x :: r).map UInt8.toNat)
          rw [List.length_map] at hle
          rw [ih _ (by rw [List.length_drop]; simp only [List.length_cons] at hl ⊢; omega), List.map_drop]
theorem bad_good (s : ByteArray) : badb s = !ugood (sl s) := by
  unfold badb sl
  rw [valid_ugood _ _ (Nat.le_refl _)]
end
section
open Go.RowKit Go
/-- The format of 64 bits. -/
def fmtc : Array Value := #[.int .i64 11, .int .i64 52]
set_option maxRecDepth 1000000 in
theorem infoF : (Tryz.prog.info? 233).map (·.size) = some fmtc.size := by kernel_rfl
theorem qstep_fmt {C : World → Prop} {ops : Array Oper} {o : Oper} {a : Act} {K : Act → Prop} {p : Operand} (hgd : Region.wanted o (yielded ops a.tmps) = true) (ho : o.op = .load 233 p) (g : Nat)
    (hp : a.eval p = .pointer (some ⟨g, 0, none⟩)) (hc : ∀ w, C w → w.heap[g]? = some (.cells fmtc 233 (0, 0)))
    (h : K (a.put o.dst (.agg fmtc))) : if Region.wanted o (yielded ops a.tmps) = true then o.quiet Tryz.prog a C K else K (a.put o.dst undef) := by
  rw [if_pos hgd]
  refine ⟨.agg fmtc, fun w hC => ?_, h⟩
  unfold Oper.quietAt execOp
  have hr : (Instr.loadAt 233 (.pointer (some ⟨g, 0, none⟩))).run Tryz.prog w = .ok (.agg fmtc) w := by
    simp only [Instr.loadAt, Instr.sureAddr, Sem.run_bind, Sem.run_pure, Result.andThen]
    exact run_loadVar_row (P := Tryz.prog) w g 233 233 fmtc (0, 0) _ (hc w hC) Tryz.underlying233 rfl infoF
  simp only [ho, Sem.run_bind, hp, hr, Result.andThen_ok]
  exact ⟨rfl, rfl⟩
set_option maxRecDepth 1000000 in
theorem f64_any (w : World) : Calls Tryz.prog 173 #[] w fun e w' => e = .returned (.agg fmtc) ∧ Below w.heap.size w w' := by
  go_enter Tryz.func173, Tryz.ntmps173
  go_wp2_with fail
  refine bodyPost_ret (v := .agg fmtc) ((results_one (p := 0) (ty := 233) rfl _ _ _).trans ?_) rfl ⟨rfl, ?_⟩
  · have h1 := run_loadVar_row (P := Tryz.prog) (w.alloc (.cells fmtc 233)) w.heap.size 233 233 fmtc (0, 0) _ (heap_alloc_new w _) Tryz.underlying233 rfl infoF
    show ((Sem.run Tryz.prog (asAddr (Value.pointer (some ⟨w.heap.size, 0, none⟩))) (w.alloc (.cells fmtc 233))).andThen fun a w₁ => Sem.run Tryz.prog (loadVar 233 a) w₁) = _
    simp [asAddr, h1, Result.andThen]
    rfl
  · exact below_alloc4 w _
set_option maxRecDepth 1000000 in
theorem fall_any (w : World) : Calls Tryz.prog 180 #[.agg fmtc] w fun e w' => e = .returned (.int .i64 2047) ∧ Below w.heap.size w w' := by
  have q0 : (w.alloc (.cells fmtc 233)).cell? ⟨w.heap.size, 0, none⟩ = some (.int .i64 11) := blk_cell (heap_alloc_new w _) rfl
  have q1 : (w.alloc (.cells fmtc 233)).cell? ⟨w.heap.size, 1, none⟩ = some (.int .i64 52) := blk_cell (heap_alloc_new w _) rfl
  go_enter Tryz.func180, Tryz.ntmps180
  go_wp2_with fail
  go_ret
  exact ⟨rfl, below_alloc4 w _⟩
set_option maxRecDepth 1000000 in
theorem fsign_any (w : World) : Calls Tryz.prog 179 #[.agg fmtc] w fun e w' => e = .returned (.int .u64 9223372036854775808) ∧ Below w.heap.size w w' := by
  have q0 : (w.alloc (.cells fmtc 233)).cell? ⟨w.heap.size, 0, none⟩ = some (.int .i64 11) := blk_cell (heap_alloc_new w _) rfl
  have q1 : (w.alloc (.cells fmtc 233)).cell? ⟨w.heap.size, 1, none⟩ = some (.int .i64 52) := blk_cell (heap_alloc_new w _) rfl
  go_enter Tryz.func179, Tryz.ntmps179
  go_wp2_with fail
  go_ret
  exact ⟨rfl, below_alloc4 w _⟩
set_option maxRecDepth 1000000 in
theorem fbias_any (w : World) : Calls Tryz.prog 181 #[.agg fmtc] w fun e w' => e = .returned (.int .i64 1023) ∧ Below w.heap.size w w' := by
  have HBK := hide (heap_alloc_new w (.cells fmtc 233))
  have HB0 := hide (below_alloc4 w (.cells fmtc 233))
  go_enter Tryz.func181, Tryz.ntmps181
  go_wp2_with (refine wpList_loadAll rfl rfl w.heap.size fmtc 233 rfl HBK.out Tryz.underlying233 infoF ?_)
  refine (fall_any _).mono ?_
  rintro e w1 ⟨rfl, hb1⟩
  have HB1 := hide (HB0.out.trans (hb1.mono HB0.out.size))
  clear hb1
  go_wp2_with fail
  go_ret
  exact ⟨rfl, HB1.out⟩
theorem and_2047 (n : Nat) (hn : n < 18446744073709551616) : bits .and .u64 (n : Int) 2047 = ((n % 2048 : Nat) : Int) := by
  have e1 : (BitVec.ofInt 64 (n : Int)).toNat = n := by
    simp
    omega
  have e2 : (BitVec.ofInt 64 2047).toNat = 2047 := by decide
  show IntKind.u64.wrap ((BitVec.ofInt 64 (n : Int) &&& BitVec.ofInt 64 2047).toNat : Nat) = _
  rw [BitVec.toNat_and, e1, e2, IntKind.wrap_u64]
  have e3 := Nat.and_two_pow_sub_one_eq_mod n 11
  rw [show (2 ^ 11 - 1 : Nat) = 2047 from rfl, show (2 ^ 11 : Nat) = 2048 from rfl] at e3
  rw [e3]
  omega
theorem exp_is (b : Nat) (hb : b < 18446744073709551616) : wrap64 (bits .and .u64 ((b : Int) / 2 ^ min 52 64) 2047) = ((b / 4503599627370496 % 2048 : Nat) : Int) := by
  have e : ((b : Int) / 2 ^ min 52 64) = ((b / 4503599627370496 : Nat) : Int) := by
    rw [show min 52 64 = 52 from rfl, show (2 : Int) ^ 52 = 4503599627370496 by decide]
    omega
  rw [e, and_2047 _ (by omega)]
  unfold wrap64
  omega
theorem finb_exp (b : Nat) : finb b = !(((b / 4503599627370496 % 2048 : Nat) : Int) == 2047) := by
  unfold finb
  rw [Bool.eq_iff_iff]
  simp
  omega
set_option maxRecDepth 1000000 in
set_option maxHeartbeats 1000000 in
theorem fparts_any (b : Nat) (hb : b < 18446744073709551616) (w : World) : Calls Tryz.prog 174 #[.agg fmtc, .int .u64 (b : Nat)] w fun e w' => (∃ (c : Int) (n m x : Value), e = .returned (.tuple #[.int .i64 c, n, m, x]) ∧ (c == 0) = finb b) ∧ Below w.heap.size w w' := by
  have HBK := hide (heap_alloc_new w (.cells fmtc 233))
  have HB0 := hide (below_alloc4 w (.cells fmtc 233))
  go_enter Tryz.func174, Tryz.ntmps174
  go_wp2_with (refine wpList_loadAll rfl rfl w.heap.size fmtc 233 rfl HBK.out Tryz.underlying233 infoF ?_)
  refine (fsign_any _).mono ?_
  rintro e w1 ⟨rfl, hb1⟩
  have HB1 := hide (HB0.out.trans (hb1.mono HB0.out.size))
  have HC1 : Hid (w1.heap[w.heap.size]? = some (.cells fmtc 233 (0, 0))) := (hb1.block _ (blk_lt HBK.out)).trans HBK.out
  have q1 : w1.cell? ⟨w.heap.size, 1, none⟩ = some (.int .i64 52) := blk_cell HC1.out rfl
  clear hb1 HBK HB0
  go_wp2_with fail
  have HQ1 : Hid (∀ wx : World, (∃ t : Ext w1, wx = t.w') → wx.heap[w.heap.size]? = some (.cells fmtc 233 (0, 0))) := fun wx ⟨t, e⟩ => by rw [e]; exact (t.h.block _ (blk_lt HC1.out)).trans HC1.out
  have c1 : ∀ t : Ext w1, t.w'.cell? ⟨w.heap.size, 1, none⟩ = some (.int .i64 52) := fun t => blk_cell (HQ1.out _ ⟨t, rfl⟩) rfl
  refine region_ext (by kernel_rfl) (by kernel_rfl) ?_
  repeat (
    refine wpQuiet_step (fun K hK => ?_)
    first
      | (refine qstep_fmt rfl rfl w.heap.size rfl HQ1.out (hK _ ?_); clear hK K)
      | (go_simp
         first
           | (refine hK _ ?_; clear hK K)
           | (apply Exists.intro
              refine ⟨fun _ => ?_, hK _ ?_⟩
              (go_at_call 180; exact Calls.ext_below (fall_any _))
              clear hK K)))
  refine wpQuiet_nil ?_
  rintro _ ⟨tq, rfl⟩
  have HB2 : Hid (Below w.heap.size w tq.w') := HB1.out.trans (tq.h.mono HB1.out.size)
  have HC2 : Hid (tq.w'.heap[w.heap.size]? = some (.cells fmtc 233 (0, 0))) := HQ1.out _ ⟨tq, rfl⟩
  clear HQ1 c1 HB1 HC1 q1
  generalize tq.w' = w2 at *
  clear tq w1
  go_wp2_with (refine wpList_loadAll rfl rfl w.heap.size fmtc 233 rfl HC2.out Tryz.underlying233 infoF ?_)
  refine (fall_any _).mono ?_
  rintro e w3 ⟨rfl, hb3⟩
  have HB3 : Hid (Below w.heap.size w w3) := HB2.out.trans (hb3.mono HB2.out.size)
  have HC3 : Hid (w3.heap[w.heap.size]? = some (.cells fmtc 233 (0, 0))) := (hb3.block _ (blk_lt HC2.out)).trans HC2.out
  have HFX := hide (finb_exp b)
  have hex := exp_is b hb
  rw [← hex] at HFX
  clear hb3 HB2 HC2 hex hb w2
  generalize wrap64 (bits .and .u64 ((b : Int) / 2 ^ min 52 64) 2047) = X at *
  generalize bits .and .u64 (b : Int) 4503599627370495 = F at *
  generalize bits .and .u64 (b : Int) 9223372036854775808 = N at *
  generalize ((b : Int) / 2 ^ min 52 64) = Y at *
  generalize bits .and .u64 Y 2047 = Z at *
  rcases Bool.eq_false_or_eq_true (X == 2047) with g35 | g35
  · have HF : Hid (finb b = false) := by show _ = _; rw [HFX.out, g35]; rfl
    clear HFX
    rcases Bool.eq_false_or_eq_true (F != 0) with g37 | g37
    · as_aux_lemma =>
      go_wp2_with fail
      refine bodyPost_ret (results_four rfl _ _ _) rfl ⟨⟨_, _, _, _, rfl, by rw [HF.out]; rfl⟩, HB3.out⟩
    · as_aux_lemma =>
      go_wp2_with fail
      refine bodyPost_ret (results_four rfl _ _ _) rfl ⟨⟨_, _, _, _, rfl, by rw [HF.out]; rfl⟩, HB3.out⟩
  · have HF : Hid (finb b = true) := by show _ = _; rw [HFX.out, g35]; rfl
    clear HFX
    have HQ3 : Hid (∀ wx : World, (∃ t : Ext w3, wx = t.w') → wx.heap[w.heap.size]? = some (.cells fmtc 233 (0, 0))) := fun wx ⟨t, e⟩ => by rw [e]; exact (t.h.block _ (blk_lt HC3.out)).trans HC3.out
    have c1 : ∀ t : Ext w3, t.w'.cell? ⟨w.heap.size, 1, none⟩ = some (.int .i64 52) := fun t => blk_cell (HQ3.out _ ⟨t, rfl⟩) rfl
    rcases Bool.eq_false_or_eq_true (X == 0) with g41 | g41
    · as_aux_lemma =>
      go_wp2_with fail
      refine region_ext (by kernel_rfl) (by kernel_rfl) ?_
      repeat (
        refine wpQuiet_step (fun K hK => ?_)
        first
          | (refine qstep_fmt rfl rfl w.heap.size rfl HQ3.out (hK _ ?_); clear hK K)
          | (go_simp
             first
               | (refine hK _ ?_; clear hK K)
               | (apply Exists.intro
                  refine ⟨fun _ => ?_, hK _ ?_⟩
                  (go_at_call 181; exact Calls.ext_below (fbias_any _))
                  clear hK K)))
      refine wpQuiet_nil ?_
      rintro _ ⟨tq, rfl⟩
      have HB4 : Hid (Below w.heap.size w tq.w') := HB3.out.trans (tq.h.mono HB3.out.size)
      go_wp2_with fail
      refine bodyPost_ret (results_four rfl _ _ _) rfl ⟨⟨_, _, _, _, rfl, by rw [HF.out]; rfl⟩, HB4.out⟩
    · as_aux_lemma =>
      go_wp2_with fail
      refine region_ext (by kernel_rfl) (by kernel_rfl) ?_
      repeat (
        refine wpQuiet_step (fun K hK => ?_)
        first
          | (refine qstep_fmt rfl rfl w.heap.size rfl HQ3.out (hK _ ?_); clear hK K)
          | (go_simp
             first
               | (refine hK _ ?_; clear hK K)
               | (apply Exists.intro
                  refine ⟨fun _ => ?_, hK _ ?_⟩
                  (go_at_call 181; exact Calls.ext_below (fbias_any _))
                  clear hK K)))
      refine wpQuiet_nil ?_
      rintro _ ⟨tq, rfl⟩
      have HB4 : Hid (Below w.heap.size w tq.w') := HB3.out.trans (tq.h.mono HB3.out.size)
      go_wp2_with fail
      refine bodyPost_ret (results_four rfl _ _ _) rfl ⟨⟨_, _, _, _, rfl, by rw [HF.out]; rfl⟩, HB4.out⟩
set_option maxRecDepth 1000000 in
theorem isFinite_any (b : Nat) (hb : b < 18446744073709551616) (w : World) : Calls Tryz.prog 156 #[.int .u64 (b : Nat)] w fun e w' => e = .returned (.bool (finb b)) ∧ Below w.heap.size w w' := by
  have HBB := hide hb
  clear hb
  go_enter Tryz.func156, Tryz.ntmps156
  go_wp2_with fail
  refine (f64_any _).mono ?_
  rintro e w1 ⟨rfl, hb1⟩
  have HB1 := hide hb1
  clear hb1
  go_wp2_with fail
  refine (fparts_any b HBB.out _).mono ?_
  rintro e w2 ⟨⟨c, n, m, x, rfl, hc⟩, hb2⟩
  have HC := hide hc
  have HB2 := hide (HB1.out.trans (hb2.mono HB1.out.size))
  clear hc hb2
  go_wp2_with fail
  go_ret
  exact ⟨by rw [← HC.out]; rfl, HB2.out⟩
end
end Go.Proofs.YtjlknnpgngaooaaGreatDoor

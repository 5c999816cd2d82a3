import Derived.Test.YtcmfgambfgebfaaGreatDoorJo
import Derived.Test.YtcmfgambfgebfaaGreatDoorJs
import Derived.Test.YtcmfgambfgebfaaGreatDoorJt
import Derived.Test.YtcmfgambfgebfaaGreatDoorJq
import Derived.Test.YtcmfgambfgebfaaGreatDoorJa
import Derived.Test.YtcmfgambfgebfaaGreatDoorJb
import Derived.SliceStrings
import Derived.Test.YtcmfgambfgebfaaGreatDoorJc
import Derived.Test.YtcmfgambfgebfaaGreatDoorRows
import Derived.Lib.LaidU8T
import Derived.Lib.LaidIn
import Derived.Test.YtcmfgambfgebfaaGreatDoorJd
namespace Go.Proofs.YtcmfgambfgebfaaGreatDoor
section
open Go.RowKit Go
/-! ### SchemaChecks -/
theorem cutS_shrt (l : List Tp) : Shrt (cutL l) := fun t ht => by
  unfold cutL at ht
  obtain ⟨u, _, rfl⟩ := List.mem_map.1 ht
  unfold cutT
  simp only [List.length_take]
  omega
theorem cutS_len (l : List Tp) : (cutL l).length ≤ 80 := by
  unfold cutL
  rw [List.length_map, List.length_take]
  omega
theorem ov_shrt (n : Nat) : Shrt (List.replicate n ovp) := fun t ht => by
  rw [List.eq_of_mem_replicate ht]
  exact ⟨by decide, by decide, by decide⟩
/-- A list among lists. -/
def Tts (w : World) (l : List Tp) (c : Array Value) : Prop := ∃ v, c = #[v] ∧ TSl w v l
theorem int_ne_self (n : Nat) : (((n : Nat) : Int) != ((n : Nat) : Int)) = false := by simp
set_option maxRecDepth 1000000 in
set_option maxHeartbeats 4000000 in
theorem schecks_any (w : World) (hT : Tabs w) (hO : Otb w) (v : Value) (ls : List (List Tp)) (hv : GSl 1 Tts w v ls) : Calls Tryz.prog 3 #[v] w fun e w' => e = .returned (.bool true) ∧ Below w.heap.size w w' := by
  have HT : Hid (∀ wy, Below w.heap.size w wy → Tabs wy) := fun wy hb => hT.next hb
  have HO : Hid (∀ wy, Below w.heap.size w wy → Otb wy) := fun wy hb => hO.next (keep_below hb)
  have HBG : Hid (∀ wy, Below w.heap.size w wy → Calls Tryz.prog 4 #[] wy fun e w' => e = .returned (.bool true) ∧ Below wy.heap.size wy w') := fun wy hb => begun11_any wy (hT.next hb) (hO.next (keep_below hb))
  have HNU := hide (fun n W => num11_any n W)
  have hmax := hv.max
  obtain ⟨⟨a, cap, rfl, _, hform⟩, _⟩ := hv
  have HF := hide hform
  clear hform hT hO
  go_enter Tryz.func3, Tryz.ntmps3
  go_wp2_with fail
  refine (HBG.out w (Below.refl _ _)).mono ?_
  rintro e w0 ⟨rfl, hb0⟩
  have HB0 := hide hb0
  clear hb0
  go_wp2_with fail
  go_loopw [3] (fun vi wx => ∃ (i : Nat), i ≤ ls.length ∧ vi = .int .i64 (i : Nat) ∧ Hid (Below w.heap.size w wx)) (fun vi _ => ls.length - (intOf vi).toNat)
  case atStart => exact ⟨0, by omega, rfl, HB0⟩
  case round =>
    obtain ⟨i, hi, rfl, HBz1⟩ := hrel
    clear HB0
    by_cases hgo : i < ls.length ∧ i < 200
    · obtain ⟨hlt, h200⟩ := hgo
      have g1 : (i : Int) < (ls.length : Int) := by omega
      have g2 : (i : Int) < 200 := by omega
      obtain ⟨l0, hl0⟩ : ∃ l0, ls[i]? = some l0 := ⟨ls[i], List.getElem?_eq_getElem hlt⟩
      obtain ⟨b, off, rfl, hcc⟩ := HF.out.resolve_left (fun h => by rw [h] at hlt; simp at hlt)
      obtain ⟨c, ⟨v0, rfl, hv0⟩, hcell⟩ := hcc i l0 hl0
      have q0 := keep_below HBz1.out _ _ (hcell 0 v0 rfl)
      rw [Nat.mul_one, Nat.add_zero] at q0
      have HV0 : Hid (TSl wr v0 l0) := TSl.mv hv0 (keep_below HBz1.out)
      obtain ⟨⟨a0, c0, hvv, _, _⟩, _⟩ := hv0
      subst hvv
      clear hcc hcell hl0
      go_wp2_with fail
      refine (cut11_any wr _ l0 HV0.out).mono ?_
      rintro e w1 ⟨v1, rfl, hP⟩
      have HB1 : Hid (Below w.heap.size w w1) := HBz1.out.trans (hP.out.2.mono HBz1.out.size)
      have HL1 := hide hP.out.1
      obtain ⟨⟨a1, k1, hv1, _, _⟩, _⟩ := hP.out.1
      subst hv1
      have HSH := hide (cutS_shrt l0)
      have hcl := cutS_len l0
      generalize cutL l0 = T at *
      clear hP q0 HBz1 HV0
      go_wp2_with fail
      refine (lendTs_any w1 _ T HL1.out HSH.out (by omega)).mono ?_
      rintro e w2 ⟨g, gc, L, A, E, rfl, hP⟩
      have HB12 := hide hP.out.2
      have HL2 := hide hP.out.1
      have HB2 : Hid (Below w.heap.size w w2) := HB1.out.trans (hP.out.2.mono HB1.out.size)
      have HTL2 : Hid (TSl w2 (.slice a1 T.length k1) T) := TSl.mv HL1.out (keep_below hP.out.2)
      clear hP
      obtain ⟨e1, hE1⟩ : ∃ e1, (chk11 T).1 = e1 := ⟨_, rfl⟩
      obtain ⟨p1, hP1⟩ : ∃ p1, (chk11 T).2 = p1 := ⟨_, rfl⟩
      have HC3 := hide (check11_any w2 (HT.out w2 HB2.out) (HO.out w2 HB2.out) _ T HL2.out.tsl HSH.out)
      rw [hE1, hP1] at HC3
      go_wp2_with fail
      refine HC3.out.mono ?_
      rintro e w3 ⟨rfl, hb3⟩
      have HB3 : Hid (Below w.heap.size w w3) := HB2.out.trans (hb3.mono HB2.out.size)
      have HB13 : Hid (Below w1.heap.size w1 w3) := HB12.out.trans (hb3.mono HB12.out.size)
      have HL3 := hide (HL2.out.next hb3)
      have HTL3 : Hid (TSl w3 (.slice a1 T.length k1) T) := TSl.mv HTL2.out (keep_below hb3)
      clear hb3 HC3 HL2 HTL2 HB2 HB12
      have HC4 := hide (rcheck11_any w3 _ T HTL3.out HSH.out)
      rw [hE1, hP1] at HC4
      go_wp2_with fail
      refine HC4.out.mono ?_
      rintro e w4 ⟨rfl, hb4⟩
      have HB4 : Hid (Below w.heap.size w w4) := HB3.out.trans (hb4.mono HB3.out.size)
      have HB14 : Hid (Below w1.heap.size w1 w4) := HB13.out.trans (hb4.mono HB13.out.size)
      have HL4 := hide (HL3.out.next hb4)
      have HTL4 : Hid (TSl w4 (.slice a1 T.length k1) T) := TSl.mv HTL3.out (keep_below hb4)
      clear hb4 HC4 HL3 HTL3 HB3 HB13
      have ne1 := int_ne_self e1
      have np1 := int_ne_self p1
      have HBK4 := hide (backTs_any HL4.out _ HTL4.out)
      go_upto_region 12 with (first
        | (go_at_call 9; refine (HNU.out _ _).mono ?_; rintro e wq ⟨rfl, hwq⟩; have hwq := hwq.symm; subst hwq)
        | (go_at_call 10; refine HBK4.out.mono ?_; rintro e w5 ⟨rfl, hb5⟩))
      have HB5 : Hid (Below w.heap.size w w5) := HB4.out.trans (hb5.mono HB4.out.size)
      have HB15 : Hid (Below w1.heap.size w1 w5) := HB14.out.trans (hb5.mono HB14.out.size)
      have HL5 := hide (HL4.out.next hb5)
      have HTL5 : Hid (TSl w5 (.slice a1 T.length k1) T) := TSl.mv HTL4.out (keep_below hb5)
      clear hb5 HL4 HTL4 HB4 HBK4 np1 HB14
      have HC6 := hide (open_any w5 (HT.out w5 HB5.out) (HO.out w5 HB5.out) _ T HL5.out.tsl HSH.out)
      rw [hE1] at HC6
      go_wp2_with fail
      refine HC6.out.mono ?_
      rintro e w6 ⟨⟨vp, rfl, hpn, hps⟩, hb6⟩
      have HB6 : Hid (Below w.heap.size w w6) := HB5.out.trans (hb6.mono HB5.out.size)
      have HB16 : Hid (Below w1.heap.size w1 w6) := HB15.out.trans (hb6.mono HB15.out.size)
      have HL6 := hide (HL5.out.next hb6)
      have HTL6 : Hid (TSl w6 (.slice a1 T.length k1) T) := TSl.mv HTL5.out (keep_below hb6)
      clear hb6 HC6 HL5 HTL5 HB5 HB15
      have HBK6 := hide (backTs_any HL6.out _ HTL6.out)
      have HPN : Hid ((vp = .pointer none ∧ e1 ≠ 0) ∨ ∃ gt, vp = .pointer (some ⟨gt, 0, none⟩) ∧ e1 = 0) := by
        by_cases h0 : e1 = 0
        · obtain ⟨gt, h1, _⟩ := hps h0
          exact .inr ⟨gt, h1, h0⟩
        · exact .inl ⟨hpn h0, h0⟩
      clear hpn hps hE1 hP1 HL1
      go_upto_region 13 with fail
      go_cut [77] from 61 to 78 (fun v wx => v = .bool false ∧ Hid (Below w6.heap.size w6 wx))
      case first =>
        rcases HPN.out with ⟨rfl, h0⟩ | ⟨gt, rfl, h0⟩
        · as_aux_lemma =>
          have n0 : ((e1 : Int) != 0) = true := by rw [bne_iff_ne]; omega
          clear h0 HPN
          go_wp2_with (first
            | (go_at_call 9; refine (HNU.out _ _).mono ?_; rintro e wq ⟨rfl, hwq⟩; have hwq := hwq.symm; subst hwq)
            | (go_at_call 10; refine HBK6.out.mono ?_; rintro e w7 ⟨rfl, hb7⟩))
          go_meet
          case rel => exact ⟨rfl, hb7⟩
        · as_aux_lemma =>
          subst h0
          clear HPN
          go_wp2_with (first
            | (go_at_call 9; refine (HNU.out _ _).mono ?_; rintro e wq ⟨rfl, hwq⟩; have hwq := hwq.symm; subst hwq)
            | (go_at_call 10; refine HBK6.out.mono ?_; rintro e w7 ⟨rfl, hb7⟩))
          go_meet
          case rel => exact ⟨rfl, hb7⟩
      obtain ⟨rfl, HB67⟩ := hcut
      rename World => w7
      have HB7 : Hid (Below w.heap.size w w7) := HB6.out.trans (HB67.out.mono HB6.out.size)
      have HB17 : Hid (Below w1.heap.size w1 w7) := HB16.out.trans (HB67.out.mono HB16.out.size)
      have HL7 := hide (HL6.out.next HB67.out)
      clear HB67 HL6 HTL6 HB6 HBK6 HPN ne1 HB16
      go_wp2_with fail
      refine (overTs_any HL7.out).mono ?_
      rintro e w8 ⟨rfl, hP⟩
      have HTV8 := hide hP.out.1
      have HB8 : Hid (Below w.heap.size w w8) := HB7.out.trans ((hP.out.2.below HB17.out.size (fun _ h => h)).mono HB1.out.size)
      clear hP HL7 HB7 HB17
      have HSO := hide (ov_shrt T.length)
      obtain ⟨T2, hT2⟩ : ∃ T2, List.replicate T.length ovp = T2 := ⟨_, rfl⟩
      have hT2l : T2.length = T.length := by rw [← hT2, List.length_replicate]
      rw [hT2] at HTV8 HSO
      clear hT2
      obtain ⟨e2, hE2⟩ : ∃ e2, (chk11 T2).1 = e2 := ⟨_, rfl⟩
      obtain ⟨p2, hP2⟩ : ∃ p2, (chk11 T2).2 = p2 := ⟨_, rfl⟩
      have HC9 := hide (check11_any w8 (HT.out w8 HB8.out) (HO.out w8 HB8.out) _ T2 HTV8.out HSO.out)
      rw [hE2, hP2] at HC9
      have HH2 := hide hT2l
      clear hT2l
      go_wp2_with fail
      refine HC9.out.mono ?_
      rintro e w9 ⟨rfl, hb9⟩
      have HB9 : Hid (Below w.heap.size w w9) := HB8.out.trans (hb9.mono HB8.out.size)
      have HTV9 : Hid (TSl w9 (.slice (some ⟨g, 0, none⟩) T.length gc) T2) := TSl.mv HTV8.out (keep_below hb9)
      clear hb9 HC9 HTV8 HB8
      go_wp2_with fail
      refine (copyTs_any w9 _ T2 HTV9.out HSO.out (by have := HH2.out; omega)).mono ?_
      rintro e w10 ⟨v10, rfl, hP⟩
      have HB10 : Hid (Below w.heap.size w w10) := HB9.out.trans (hP.out.2.mono HB9.out.size)
      have HTV10 := hide hP.out.1
      clear hP HTV9 HB9
      have HC11 := hide (rcheck11_any w10 _ T2 HTV10.out HSO.out)
      rw [hE2, hP2] at HC11
      go_wp2_with fail
      refine HC11.out.mono ?_
      rintro e w11 ⟨rfl, hb11⟩
      have HB11 : Hid (Below w.heap.size w w11) := HB10.out.trans (hb11.mono HB10.out.size)
      clear hb11 HC11 HTV10 HB10 hE2 hP2
      have ne2 := int_ne_self e2
      have np2 := int_ne_self p2
      go_wp2_with (go_at_call 9; refine (HNU.out _ _).mono ?_; rintro e wq ⟨rfl, hwq⟩; have hwq := hwq.symm; subst hwq)
      go_roundw
      case rel => exact ⟨i + 1, by omega, by go_num, HB11⟩
      case measure => simp [intOf]; omega
    · by_cases hlt : i < ls.length
      · have g1 : (i : Int) < (ls.length : Int) := by omega
        have g2 : ¬ (i : Int) < 200 := by omega
        go_wp2_with fail
        refine (HBG.out wr HBz1.out).mono ?_
        rintro e wb ⟨rfl, hbb⟩
        have HBb : Hid (Below w.heap.size w wb) := HBz1.out.trans (hbb.mono HBz1.out.size)
        clear hbb
        go_wp2_with fail
        go_ret
        exact ⟨rfl, HBb.out⟩
      · have g1 : ¬ (i : Int) < (ls.length : Int) := by omega
        go_wp2_with fail
        refine (HBG.out wr HBz1.out).mono ?_
        rintro e wb ⟨rfl, hbb⟩
        have HBb : Hid (Below w.heap.size w wb) := HBz1.out.trans (hbb.mono HBz1.out.size)
        clear hbb
        go_wp2_with fail
        go_ret
        exact ⟨rfl, HBb.out⟩
end
section
open Go.ChangeShapes Go.WideShapes Go.ChangeAt Go.RowKit Go.Deep Go.Joins Go
theorem Tryz.cells_str : Tryz.prog.cellsOf 9 = 1 := by kernel_rfl
section
variable {H : Type} {enc : TypeId × Value → H} {P : Program} {w : World} {base : Nat} {spare : Nat → Bool} {held : Bool}
end
end
section
open Go.ChangeShapes Go.WideShapes Go.ChangeAt Go.RowKit Go.Deep Go.Joins Go
theorem weight_le {H : Type} {t : TypeId} {d : DataW H} (h : (d.weights Tryz.prog t).all (· ≤ reachBytes) = true) {n : Nat} (hn : n ∈ d.weights Tryz.prog t) : n ≤ 140737488351232 := by
  have := List.all_eq_true.1 h n hn
  unfold reachBytes at this
  simpa using this
theorem weight_each {H : Type} {ts : List TypeId} {ds : List (DataW H)} (h : (DataW.weightsEach Tryz.prog ts ds).all (· ≤ reachBytes) = true) {j : Nat} {t : TypeId} {d : DataW H} (ht : ts[j]? = some t) (hd : ds[j]? = some d) : (d.weights Tryz.prog t).all (· ≤ reachBytes) = true :=
  List.all_eq_true.2 fun n hn => List.all_eq_true.1 h n (DataW.weights_mem_each ht hd n hn)
theorem Tryz.bytesStr : Tryz.prog.bytesOf 9 = 16 := by kernel_rfl
theorem ssl_open {H : Type} {enc : TypeId × Value → H} {w : World} {base fuel : Nat} {held : Bool} {v : Value} {x : DataW H × List MemPlace} (h : DataW.trod enc Tryz.prog w base (fun _ => true) held fuel 43 [v] = some x) (hW : (x.1.weights Tryz.prog 43).all (· ≤ reachBytes) = true) : ∃ ks, SSl w v ks := by
  rcases open_strings Tryz.underlying43 Tryz.underlying9 Tryz.cells_str h with ⟨hcs, _⟩ | ⟨a, len, cap, ss, hcs, _, hl, hm, hmm, hx, hel, hsz⟩
  · injection hcs with hcs _
    subst hcs
    exact ⟨[], ⟨none, 0, rfl, ⟨by simp, fun _ => rfl⟩, .inl rfl⟩, by simp, by simp⟩
  · injection hcs with hcs _
    subst hcs
    simp only [if_true] at hmm
    have hlen : (ss.take len).length = len := by rw [List.length_take]; omega
    unfold maxLen at hm
    have hw1 : len ≤ 140737488351232 := by
      have h1 := weight_le hW (n := ((strs (H := H) (ss.take len)).length + (strs (H := H) (ss.drop len)).length) * Tryz.prog.bytesOf 9) (by rw [hx]; simp only [DataW.weights, Tryz.underlying43]; exact List.mem_cons_self ..)
      rw [Tryz.bytesStr] at h1
      have h2 : (strs (H := H) (ss.take len)).length = len := by simp [strs]; omega
      omega
    have hw2 : ∀ s ∈ ss.take len, s.size ≤ 140737488351232 := fun s hs => by
      refine weight_le hW ?_
      rw [hx]
      simp only [DataW.weights, Tryz.underlying43]
      refine List.mem_cons.2 (.inr (List.mem_append.2 (.inl (weights_all (d := .lit (.string s.data.toList)) (List.mem_map.2 ⟨s, hs, rfl⟩) _ ?_))))
      simp only [DataW.weights, List.mem_singleton]
      rfl
    refine ⟨ss.take len, ⟨some a, cap, by rw [hlen], ⟨by rw [hlen]; exact hl, fun h => by cases h⟩, ?_⟩, by rw [hlen]; exact hw1, hw2⟩
    by_cases hz : len = 0
    · exact .inl (by rw [hz]; rfl)
    · obtain ⟨b, off, spot⟩ := a
      have hspot : spot = none := by
        have := hel 0 (by omega)
        simpa [Addr.add] using World.cell?_spot this
      subst hspot
      refine .inr ⟨b, off, rfl, fun j s hj => ?_⟩
      have hjl : j < len := by
        have := (List.getElem?_eq_some_iff.1 hj).1
        omega
      have h1 := hel j (by omega)
      rw [addr_add] at h1
      rw [h1]
      rw [List.getElem?_take_of_lt hjl] at hj
      rw [List.getD_eq_getElem?_getD, hj]
      rfl
end
section
open Go.ChangeShapes Go.WideShapes Go.ChangeAt Go.RowKit Go.Deep Go.Joins Go
/-! ### Types as arguments -/
theorem gsl_of {α : Type} {n : Nat} {P : World → α → Array Value → Prop} {w : World} {a : Addr} {len cap : Nat} [Inhabited α] (hn : 0 < n) (hP : ∀ x c, P w x c → c.size = n) (hl : len ≤ cap) (hm : len ≤ 140737488351232) (each : ∀ i, i < len → ∃ t cs', P w t cs' ∧ ∀ j u, cs'[j]? = some u → w.cell? ((a.add (i * n)).add j) = some u) : ∃ is, GSl n P w (.slice (some a) len cap) is := by
  have hch : ∀ i, ∃ t : α, i < len → ∃ cs', P w t cs' ∧ ∀ j u, cs'[j]? = some u → w.cell? ((a.add (i * n)).add j) = some u := fun i => by
    by_cases hi : i < len
    · obtain ⟨t, h⟩ := each i hi
      exact ⟨t, fun _ => h⟩
    · exact ⟨default, fun h => absurd h hi⟩
  obtain ⟨f, hf⟩ := Classical.axiomOfChoice hch
  have hln : ((List.range len).map f).length = len := by simp
  refine ⟨(List.range len).map f, ⟨some a, cap, by rw [hln], ⟨by rw [hln]; exact hl, fun h => by cases h⟩, ?_⟩, by rw [hln]; omega⟩
  by_cases hz : len = 0
  · exact .inl (by rw [hz]; rfl)
  · obtain ⟨b, off, spot⟩ := a
    have hspot : spot = none := by
      obtain ⟨t, cs', ht, hc⟩ := each 0 (by omega)
      have hs := hP t cs' ht
      have := hc 0 (cs'[0]'(by omega)) (Array.getElem?_eq_getElem _)
      simpa [Addr.add] using World.cell?_spot this
    subst hspot
    refine .inr ⟨b, off, rfl, fun i t hi => ?_⟩
    have hil : i < len := by
      have := (List.getElem?_eq_some_iff.1 hi).1
      omega
    rw [List.getElem?_map, List.getElem?_range hil] at hi
    injection hi with hi
    subst hi
    obtain ⟨cs', h1, h2⟩ := hf i hil
    refine ⟨cs', h1, fun j u hu => ?_⟩
    have := h2 j u hu
    rw [addr_add, addr_add] at this
    exact this
/-- A slice of structs opened, one struct's opening given. -/
theorem gsl_open {H : Type} {enc : TypeId × Value → H} {α : Type} [Inhabited α] {n : Nat} {P : World → α → Array Value → Prop} {S T : TypeId} {w : World} {base fuel : Nat} {held : Bool} {v : Value} {x : DataW H × List MemPlace} (hS : Tryz.prog.underlying S = some (.slice T)) (hcT : Tryz.prog.cellsOf T = n) (hbT : 0 < Tryz.prog.bytesOf T) (hn : 0 < n) (hP : ∀ x c, P w x c → c.size = n)
    (one : ∀ (fuel : Nat) (cs : List Value) (x : DataW H × List MemPlace), DataW.trod enc Tryz.prog w base (fun _ => true) held fuel T cs = some x → (x.1.weights Tryz.prog T).all (· ≤ reachBytes) = true → ∃ t, P w t cs.toArray)
    (h : DataW.trod enc Tryz.prog w base (fun _ => true) held fuel S [v] = some x) (hW : (x.1.weights Tryz.prog S).all (· ≤ reachBytes) = true) : ∃ is, GSl n P w v is := by
  rcases DataW.trod_slice hS h with ⟨hcs, _⟩ | ⟨a, len, cap, elems, rest, m, hfm, hcs, hx9, hb, hl, hm, hlen2, hel, _, _⟩
  · injection hcs with hcs _
    subst hcs
    exact ⟨[], GSl.nil⟩
  · injection hcs with hcs _
    subst hcs
    have hm2 : len ≤ 140737488351232 := by
      have h1 := weight_le hW (n := ((elems.map (·.1)).length + (rest.map (·.1)).length) * Tryz.prog.bytesOf T) (by rw [hx9]; simp only [DataW.weights, hS]; exact List.mem_cons_self ..)
      rw [List.length_map] at h1
      have h2 : len * 1 ≤ (elems.length + (rest.map (·.1)).length) * Tryz.prog.bytesOf T := Nat.mul_le_mul (by omega) hbT
      omega
    have hwe : ∀ (i : Nat) (z : DataW H × List MemPlace), elems[i]? = some z → (z.1.weights Tryz.prog T).all (· ≤ reachBytes) = true := fun i z hz => List.all_eq_true.2 fun n hn => by
      refine List.all_eq_true.1 hW n ?_
      rw [hx9]
      simp only [DataW.weights, hS]
      exact List.mem_cons.2 (.inr (List.mem_append.2 (.inl (weights_all (List.mem_map.2 ⟨z, List.mem_of_getElem? hz, rfl⟩) n hn))))
    refine gsl_of hn hP hl hm2 fun i hi => ?_
    have h1 := hel i hi
    rw [hcT] at h1
    have h2 : ∃ z, elems[i]? = some z := ⟨elems[i]'(by omega), List.getElem?_eq_getElem (by omega)⟩
    obtain ⟨z, hz⟩ := h2
    rw [hz] at h1
    obtain ⟨cs', h3, h4⟩ := Option.bind_eq_some_iff.1 h1
    obtain ⟨t, ht⟩ := one m cs' z h4 (hwe i z hz)
    obtain ⟨_, hln, hcell⟩ := World.cells?_some h3
    refine ⟨t, cs'.toArray, ht, fun j u hu => ?_⟩
    rw [List.getElem?_toArray] at hu
    have hj : j < n := by
      have := (List.getElem?_eq_some_iff.1 hu).1
      omega
    rw [hcell j hj]
    exact hu
instance : Inhabited Rf := ⟨zrf⟩
instance : Inhabited Fd := ⟨⟨⟨#[]⟩, ⟨#[]⟩, zrf, false⟩⟩
instance : Inhabited Cz := ⟨⟨⟨#[]⟩, ⟨#[]⟩⟩⟩
instance : Inhabited Tp := ⟨ztp⟩
theorem cellsRf : Tryz.prog.cellsOf 40 = 2 := by kernel_rfl
theorem cellsFd : Tryz.prog.cellsOf 77 = 5 := by kernel_rfl
theorem cellsCz : Tryz.prog.cellsOf 102 = 2 := by kernel_rfl
theorem cellsTp : Tryz.prog.cellsOf 45 = 9 := by kernel_rfl
theorem cells3 : Tryz.prog.cellsOf 3 = 1 := by kernel_rfl
theorem cells2 : Tryz.prog.cellsOf 2 = 1 := by kernel_rfl
theorem cells4 : Tryz.prog.cellsOf 4 = 1 := by kernel_rfl
theorem cells9 : Tryz.prog.cellsOf 9 = 1 := by kernel_rfl
theorem cellsFs : Tryz.prog.cellsOf 41 = 1 := by kernel_rfl
theorem cellsCs : Tryz.prog.cellsOf 42 = 1 := by kernel_rfl
theorem cellsWs : Tryz.prog.cellsOf 43 = 1 := by kernel_rfl
theorem bytesFd : Tryz.prog.bytesOf 77 = 64 := by kernel_rfl
theorem bytesCz : Tryz.prog.bytesOf 102 = 32 := by kernel_rfl
theorem bytesTp : Tryz.prog.bytesOf 45 = 136 := by kernel_rfl
theorem str_le {H : Type} {x : DataW H × List MemPlace} {s : ByteArray} (hx : x = (.lit (.string s.data.toList), [])) (hW : (x.1.weights Tryz.prog 9).all (· ≤ reachBytes) = true) : s.size ≤ 140737488351232 := by
  refine weight_le (t := 9) hW ?_
  rw [hx]
  simp only [DataW.weights, List.mem_singleton]
  rfl
set_option maxRecDepth 100000 in
theorem ref_open {H : Type} {enc : TypeId × Value → H} {w : World} {base fuel : Nat} {held : Bool} {c0 c1 : Value} {x : DataW H × List MemPlace} (h : DataW.trod enc Tryz.prog w base (fun _ => true) held fuel 40 [c0, c1] = some x) (hW : (x.1.weights Tryz.prog 40).all (· ≤ reachBytes) = true) : ∃ r : Rf, c0 = .string r.n ∧ c1 = .bool r.z ∧ r.n.size ≤ 140737488351232 := by
  obtain ⟨y0, y1, n, hx, _, h0, h1⟩ := trod_struct2 Tryz.underlying40 h
  have g0 : DataW.trod enc Tryz.prog w base (fun _ => true) held n 9 [c0] = some y0 := by simpa [cells9] using h0
  have g1 : DataW.trod enc Tryz.prog w base (fun _ => true) held n 4 [c1] = some y1 := by simpa [cells4] using h1
  obtain ⟨s, e0, hy0, _⟩ := DataW.trod_string Tryz.underlying9 g0
  obtain ⟨z, e1, _⟩ := DataW.trod_bool Tryz.underlying4 g1
  have hWE : (DataW.weightsEach Tryz.prog [9, 4] [y0.1, y1.1]).all (· ≤ reachBytes) = true := by
    rw [hx] at hW
    simp only [DataW.weights, Tryz.underlying40] at hW
    exact hW
  injection e0 with e0 _
  injection e1 with e1 _
  exact ⟨⟨s, z⟩, e0, e1, str_le hy0 (weight_each hWE (j := 0) rfl rfl)⟩
set_option maxRecDepth 100000 in
theorem field_open {H : Type} {enc : TypeId × Value → H} {w : World} {base : Nat} {held : Bool} (fuel : Nat) (cs : List Value) (x : DataW H × List MemPlace) (h : DataW.trod enc Tryz.prog w base (fun _ => true) held fuel 77 cs = some x) (hW : (x.1.weights Tryz.prog 77).all (· ≤ reachBytes) = true) : ∃ f, Fdi w f cs.toArray := by
  obtain ⟨xs, n, _, hx, hlen, hxl, hf⟩ := DataW.trod_struct Tryz.underlying77 h
  rw [cellsFd] at hlen
  match cs, hlen, xs, hxl with
  | [c0, c1, c2, c3, c4], _, [y0, y1, y2, y3], _ =>
    have g0 : DataW.trod enc Tryz.prog w base (fun _ => true) held n 9 [c0] = some y0 := by simpa [cells9] using hf 0 _ rfl
    have g1 : DataW.trod enc Tryz.prog w base (fun _ => true) held n 9 [c1] = some y1 := by simpa [cells9] using hf 1 _ rfl
    have g2 : DataW.trod enc Tryz.prog w base (fun _ => true) held n 40 [c2, c3] = some y2 := by simpa [cellsRf] using hf 2 _ rfl
    have g3 : DataW.trod enc Tryz.prog w base (fun _ => true) held n 4 [c4] = some y3 := by simpa [cells4] using hf 3 _ rfl
    have hWE : (DataW.weightsEach Tryz.prog [9, 9, 40, 4] [y0.1, y1.1, y2.1, y3.1]).all (· ≤ reachBytes) = true := by
      rw [hx] at hW
      simp only [DataW.weights, Tryz.underlying77] at hW
      exact hW
    obtain ⟨s0, e0, hy0, _⟩ := DataW.trod_string Tryz.underlying9 g0
    obtain ⟨s1, e1, hy1, _⟩ := DataW.trod_string Tryz.underlying9 g1
    obtain ⟨r, e2, e3, hr⟩ := ref_open g2 (weight_each hWE (j := 2) rfl rfl)
    obtain ⟨z, e4, _⟩ := DataW.trod_bool Tryz.underlying4 g3
    injection e0 with e0 _
    injection e1 with e1 _
    injection e4 with e4 _
    subst e0
    subst e1
    subst e2
    subst e3
    subst e4
    exact ⟨⟨s0, s1, r, z⟩, rfl, str_le hy0 (weight_each hWE (j := 0) rfl rfl), str_le hy1 (weight_each hWE (j := 1) rfl rfl), hr⟩
set_option maxRecDepth 100000 in
theorem case_open {H : Type} {enc : TypeId × Value → H} {w : World} {base : Nat} {held : Bool} (fuel : Nat) (cs : List Value) (x : DataW H × List MemPlace) (h : DataW.trod enc Tryz.prog w base (fun _ => true) held fuel 102 cs = some x) (hW : (x.1.weights Tryz.prog 102).all (· ≤ reachBytes) = true) : ∃ f, Czi w f cs.toArray := by
  obtain ⟨xs, n, _, hx, hlen, hxl, hf⟩ := DataW.trod_struct Tryz.underlying102 h
  rw [cellsCz] at hlen
  match cs, hlen, xs, hxl with
  | [c0, c1], _, [y0, y1], _ =>
    have g0 : DataW.trod enc Tryz.prog w base (fun _ => true) held n 9 [c0] = some y0 := by simpa [cells9] using hf 0 _ rfl
    have g1 : DataW.trod enc Tryz.prog w base (fun _ => true) held n 9 [c1] = some y1 := by simpa [cells9] using hf 1 _ rfl
    have hWE : (DataW.weightsEach Tryz.prog [9, 9] [y0.1, y1.1]).all (· ≤ reachBytes) = true := by
      rw [hx] at hW
      simp only [DataW.weights, Tryz.underlying102] at hW
      exact hW
    obtain ⟨s0, e0, hy0, _⟩ := DataW.trod_string Tryz.underlying9 g0
    obtain ⟨s1, e1, hy1, _⟩ := DataW.trod_string Tryz.underlying9 g1
    injection e0 with e0 _
    injection e1 with e1 _
    subst e0
    subst e1
    exact ⟨⟨s0, s1⟩, rfl, str_le hy0 (weight_each hWE (j := 0) rfl rfl), str_le hy1 (weight_each hWE (j := 1) rfl rfl)⟩
theorem i64_wf {z : Int} (h : (Lit.int .i64 z).wf = true) : -9223372036854775808 ≤ z ∧ z ≤ 9223372036854775807 := by
  simp [Lit.wf, IntKind.min, IntKind.max, IntKind.bits, IntKind.signed] at h
  omega
set_option maxRecDepth 100000 in
/-- A type opened. -/
theorem type_open {H : Type} {enc : TypeId × Value → H} {w : World} {base : Nat} {held : Bool} (fuel : Nat) (cs : List Value) (x : DataW H × List MemPlace) (h : DataW.trod enc Tryz.prog w base (fun _ => true) held fuel 45 cs = some x) (hW : (x.1.weights Tryz.prog 45).all (· ≤ reachBytes) = true) : ∃ t, Tpi w t cs.toArray := by
  obtain ⟨xs, n, _, hx, hlen, hxl, hf⟩ := DataW.trod_struct Tryz.underlying45 h
  rw [cellsTp] at hlen
  match cs, hlen, xs, hxl with
  | [c0, c1, c2, c3, c4, c5, c6, c7, c8], _, [y0, y1, y2, y3, y4, y5, y6, y7], _ =>
    have g0 : DataW.trod enc Tryz.prog w base (fun _ => true) held n 9 [c0] = some y0 := by simpa [cells9] using hf 0 _ rfl
    have g1 : DataW.trod enc Tryz.prog w base (fun _ => true) held n 3 [c1] = some y1 := by simpa [cells3] using hf 1 _ rfl
    have g2 : DataW.trod enc Tryz.prog w base (fun _ => true) held n 2 [c2] = some y2 := by simpa [cells2] using hf 2 _ rfl
    have g3 : DataW.trod enc Tryz.prog w base (fun _ => true) held n 2 [c3] = some y3 := by simpa [cells2] using hf 3 _ rfl
    have g4 : DataW.trod enc Tryz.prog w base (fun _ => true) held n 40 [c4, c5] = some y4 := by simpa [cellsRf] using hf 4 _ rfl
    have g5 : DataW.trod enc Tryz.prog w base (fun _ => true) held n 41 [c6] = some y5 := by simpa [cellsFs] using hf 5 _ rfl
    have g6 : DataW.trod enc Tryz.prog w base (fun _ => true) held n 42 [c7] = some y6 := by simpa [cellsCs] using hf 6 _ rfl
    have g7 : DataW.trod enc Tryz.prog w base (fun _ => true) held n 43 [c8] = some y7 := by simpa [cellsWs] using hf 7 _ rfl
    have hWE : (DataW.weightsEach Tryz.prog [9, 3, 2, 2, 40, 41, 42, 43] [y0.1, y1.1, y2.1, y3.1, y4.1, y5.1, y6.1, y7.1]).all (· ≤ reachBytes) = true := by
      rw [hx] at hW
      simp only [DataW.weights, Tryz.underlying45] at hW
      exact hW
    obtain ⟨s0, e0, hy0, _⟩ := DataW.trod_string Tryz.underlying9 g0
    obtain ⟨n1, e1, _, w1⟩ := DataW.trod_int Tryz.underlying3 g1
    obtain ⟨n2, e2, _, w2⟩ := DataW.trod_int Tryz.underlying2 g2
    obtain ⟨n3, e3, _, w3⟩ := DataW.trod_int Tryz.underlying2 g3
    obtain ⟨r, e4, e5, hr⟩ := ref_open g4 (weight_each hWE (j := 4) rfl rfl)
    obtain ⟨fs, h5⟩ := gsl_open (P := Fdi) Tryz.underlying41 cellsFd (by rw [bytesFd]; decide) (by decide) (fun f c hc => by rw [hc.1]; rfl) field_open g5 (weight_each hWE (j := 5) rfl rfl)
    obtain ⟨cz, h6⟩ := gsl_open (P := Czi) Tryz.underlying42 cellsCz (by rw [bytesCz]; decide) (by decide) (fun f c hc => by rw [hc.1]; rfl) case_open g6 (weight_each hWE (j := 6) rfl rfl)
    obtain ⟨ws, h7⟩ := ssl_open g7 (weight_each hWE (j := 7) rfl rfl)
    injection e0 with e0 _
    injection e1 with e1 _
    injection e2 with e2 _
    injection e3 with e3 _
    subst e0
    subst e1
    subst e2
    subst e3
    subst e4
    subst e5
    exact ⟨⟨s0, n1, n2, n3, r, fs, cz, ws⟩, ⟨⟨c6, c7, c8, rfl, h5, h6, h7⟩, ⟨str_le hy0 (weight_each hWE (j := 0) rfl rfl), hr, i64_wf w1, i64_wf w2, i64_wf w3⟩⟩⟩
theorem types_open {H : Type} {enc : TypeId × Value → H} {w : World} {base fuel : Nat} {held : Bool} {v : Value} {x : DataW H × List MemPlace} (h : DataW.trod enc Tryz.prog w base (fun _ => true) held fuel 24 [v] = some x) (hW : (x.1.weights Tryz.prog 24).all (· ≤ reachBytes) = true) : ∃ l, TSl w v l :=
  gsl_open (P := Tpi) Tryz.underlying24 cellsTp (by rw [bytesTp]; decide) (by decide) (fun _ _ hc => hc.size9) type_open h hW
end
section
open Go.RowKit Go
theorem acc_eq : (Rows.laid_unicode_utf8_acceptRanges : DataW Unit) = Lib.acceptData := by kernel_rfl
theorem fst_eq : Rows.laid_unicode_utf8_first = Lib.firstData := by kernel_rfl
end
section
open Go.ChangeShapes Go.WideShapes Go.ChangeAt Go.RowKit Go Go.Lib
theorem biN : Tryz.prog.globalNamed "trellis/schema.builtIn" = some 0 := by kernel_rfl
theorem biT : (Tryz.prog.globals[0]?).map (·.type) = some 109 := by kernel_rfl
theorem biC : Tryz.prog.cellsOf 108 = 2 := by kernel_rfl
theorem biS : Tryz.prog.cellsOf 9 = 1 := by kernel_rfl
theorem biI : Tryz.prog.cellsOf 3 = 1 := by kernel_rfl
def biD : List (DataW Unit) := owns.map fun p => .agg [.lit (.string p.1.data.toList), .lit (.int .i64 (p.2 : Nat))]
theorem bi_eq : (Rows.laid_trellis_schema_builtIn : DataW Unit) = .agg biD := by kernel_rfl
theorem ocs_at : ∀ (i : Nat) (p : ByteArray × Nat), owns[i]? = some p → ocs[2 * i]? = some (.string p.1) ∧ ocs[2 * i + 1]? = some (.int .i64 (p.2 : Nat)) := fun i p h => by
  rcases i with _ | _ | _ | _ | _ | _ | _ | _ | _ | i
  all_goals first
    | (obtain rfl := Option.some.inj h; exact ⟨rfl, rfl⟩)
    | (simp [owns] at h)
theorem otb_of_reads {w : World} (h : VarReads Tryz.prog w "trellis/schema.builtIn" (.agg biD)) : Otb w := by
  obtain ⟨g, t, cs, fuel, p, hg, hty, hvar, hd⟩ := h
  obtain rfl := Option.some.inj (biN.symm.trans hg)
  obtain rfl := Option.some.inj (biT.symm.trans hty)
  have key : ∀ i q, owns[i]? = some q → w.cell? ⟨0, 2 * i, none⟩ = some (.string q.1) ∧ w.cell? ⟨0, 2 * i + 1, none⟩ = some (.int .i64 (q.2 : Nat)) := fun i q hq => by
    have hi : i < 9 := by have := (List.getElem?_eq_some_iff.1 hq).1; rw [owns_len] at this; exact this
    obtain ⟨fuel', d, r, hdi, he⟩ := array_elem Tryz.underlying109 hd i hi
    rw [biC] at he
    unfold biD at hdi
    rw [List.getElem?_map, hq] at hdi
    have hdi := (Option.some.inj hdi).symm
    subst hdi
    obtain ⟨y0, y1, n, hx, _, h0, h1⟩ := trod_struct2 Tryz.underlying108 he
    obtain ⟨s, e0, hy0, _⟩ := DataW.trod_string Tryz.underlying9 h0
    obtain ⟨z, e1, hy1, _⟩ := DataW.trod_int Tryz.underlying3 h1
    have hx1 := congrArg Prod.fst hx
    simp only [DataW.agg.injEq, List.cons.injEq, and_true] at hx1
    rw [hy0, hy1] at hx1
    have hs : q.1.data.toList = s.data.toList := by
      have := hx1.1
      simpa using this
    have hz : ((q.2 : Nat) : Int) = z := by
      have := hx1.2
      simpa using this
    have hs2 : s = q.1 := by
      obtain ⟨⟨l⟩⟩ := s
      obtain ⟨⟨⟨m⟩⟩, _⟩ := q
      simp only at hs
      rw [hs]
    subst hs2
    subst hz
    rw [World.var?_cell hg hvar (2 * i), World.var?_cell hg hvar (2 * i + 1), ← Array.getElem?_toList, ← Array.getElem?_toList]
    have c0 := congrArg (·[0]?) e0
    have c1 := congrArg (·[0]?) e1
    simp only [biS, biI, List.getElem?_take, List.getElem?_drop] at c0 c1
    exact ⟨by simpa [Nat.mul_comm] using c0, by simpa [Nat.mul_comm] using c1⟩
  refine ⟨fun j u hj => ?_⟩
  rw [Nat.zero_add]
  have hj18 : j < 18 := (Array.getElem?_eq_some_iff.1 hj).1
  obtain ⟨q, hq⟩ : ∃ q, owns[j / 2]? = some q := ⟨owns[j / 2]'(by rw [owns_len]; omega), List.getElem?_eq_getElem _⟩
  obtain ⟨a1, a2⟩ := key _ _ hq
  obtain ⟨b1, b2⟩ := ocs_at _ _ hq
  rcases Nat.mod_two_eq_zero_or_one j with hm | hm
  · have e : 2 * (j / 2) = j := by omega
    rw [e] at a1 b1
    rw [a1, ← hj, b1]
  · have e : 2 * (j / 2) + 1 = j := by omega
    rw [e] at a2 b2
    rw [a2, ← hj, b2]
theorem tabs11_of_laid {W : World} (h : laidMet Tryz.prog [("unicode/utf8.acceptRanges", Rows.laid_unicode_utf8_acceptRanges), ("trellis/schema.builtIn", Rows.laid_trellis_schema_builtIn), ("unicode/utf8.first", Rows.laid_unicode_utf8_first)] W) : Tabs W ∧ Otb W := by
  rw [acc_eq, fst_eq, bi_eq] at h
  exact ⟨utf8Tabs_of_readsT (U8Types.of196 Tryz.laysValid) ⟨by kernel_rfl, by kernel_rfl, by kernel_rfl, by kernel_rfl, by kernel_rfl, by kernel_rfl, by kernel_rfl⟩ (Lib.laidMet.reads h (.tail _ (.tail _ (.head _)))) (Lib.laidMet.reads h (.head _)), otb_of_reads (Lib.laidMet.reads h (.tail _ (.head _)))⟩
/-- The settled world, the three tables laid. -/
noncomputable def laidWorld11 (os : Os) : World :=
  let w0 := World.holding Tryz.prog os ⟨#[], #[], []⟩
  let put (h : Array Obj) (g : Nat) (cs : Array Value) : Array Obj := h.modify g fun
    | .cells _ t frozen => .cells cs t frozen
    | o => o
  let h1 := put w0.heap 1 (Lib.firstTab.map fun z => Value.int .u8 z).toArray
  let h2 := put h1 2 ((List.range 16).flatMap fun i => [Value.int .u8 (Lib.accLo i), Value.int .u8 (Lib.accHi i)]).toArray
  let h3 := put h2 0 ocs
  { w0 with heap := h3 }
theorem laid_met11 (os : Os) (args : Array Value) : laidMet Tryz.prog [("unicode/utf8.acceptRanges", Rows.laid_unicode_utf8_acceptRanges), ("trellis/schema.builtIn", Rows.laid_trellis_schema_builtIn), ("unicode/utf8.first", Rows.laid_unicode_utf8_first)] ((laidWorld11 os).forCall (fun _ _ => 0) ⟨#[], args, []⟩).memory := by
  rw [acc_eq, fst_eq]
  exact (LaidIn.of_run (l := [("unicode/utf8.acceptRanges", Lib.acceptData), ("trellis/schema.builtIn", Rows.laid_trellis_schema_builtIn), ("unicode/utf8.first", Lib.firstData)]) [2, 0, 1] 8 (by kernel_rfl) (by kernel_rfl) (by kernel_rfl) (by kernel_rfl)).met
end
end Go.Proofs.YtcmfgambfgebfaaGreatDoor

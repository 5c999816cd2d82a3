import Derived.Test.YtnkghcndaafmoaaGreatDoorJqaj
import Derived.Test.YtnkghcndaafmoaaGreatDoorJqad
import Derived.Test.YtnkghcndaafmoaaGreatDoorJqz
namespace Go.Proofs.YtnkghcndaafmoaaGreatDoor
section
open Go.RowKit Go
set_option maxRecDepth 1000000 in
theorem room13_any (w : World) (g B r : Nat) (L : List Blk) (hS : Sto w g B r L) : Calls Tryz.prog 50 #[.pointer (some ⟨g, 0, none⟩)] w fun e w' => e = .returned (.int .i64 (r : Nat)) ∧ w' = w := by
  have c0 : w.cell? ⟨g, 0, none⟩ = some (.int .i64 (r : Nat)) := blk_cell (j := 0) hS.c rfl
  clear hS
  go_enter Tryz.func50, Tryz.ntmps50
  go_wp2_with fail
  go_ret
  exact ⟨rfl, rfl⟩
theorem lksl_at {w : World} {a : Option Addr} {n cap : Nat} {ss : List Lk} (h : LkSl w (.slice a n cap) ss) {i : Nat} {l : Lk} (hl : ss[i]? = some l) : ∃ b off, a = some ⟨b, off, none⟩ ∧ Lkx l ∧ ∀ i l, ss[i]? = some l → ∀ j u, (lcs l)[j]? = some u → w.cell? ⟨b, off + i * 4 + j, none⟩ = some u := by
  obtain ⟨⟨a', cap', e, _, hc⟩, _⟩ := h
  injection e with e1 _ _
  subst e1
  rcases hc with hc | ⟨b, off, ha, hc⟩
  · rw [hc] at hl
    cases hl
  · refine ⟨b, off, ha, ?_, fun i l hi j u hu => ?_⟩
    · obtain ⟨_, ⟨_, h1⟩, _⟩ := hc i l hl
      exact h1
    · obtain ⟨_, ⟨rfl, _⟩, h2⟩ := hc i l hi
      exact h2 j u hu
theorem rsl_at {w : World} {a : Option Addr} {n cap : Nat} {xs : List (List Nat)} (h : RSl w (.slice a n cap) xs) {i : Nat} {x : List Nat} (hx : xs[i]? = some x) : ∃ b off v, a = some ⟨b, off, none⟩ ∧ w.cell? ⟨b, off + i, none⟩ = some v ∧ BSl w v x := by
  obtain ⟨⟨a', cap', e, _, hc⟩, _⟩ := h
  injection e with e1 _ _
  subst e1
  rcases hc with hc | ⟨b, off, ha, hc⟩
  · rw [hc] at hx
    cases hx
  · obtain ⟨_, ⟨v, rfl, hv⟩, h2⟩ := hc i x hx
    exact ⟨b, off, v, ha, by simpa using h2 0 v rfl, hv⟩
theorem isl_at {w : World} {a : Option Addr} {n cap : Nat} {xs : List Nat} (h : ISl w (.slice a n cap) xs) {i : Nat} {x : Nat} (hx : xs[i]? = some x) : ∃ b off, a = some ⟨b, off, none⟩ ∧ w.cell? ⟨b, off + i, none⟩ = some (.int .i64 (x : Nat)) := by
  obtain ⟨⟨a', cap', e, _, hc⟩, _⟩ := h
  injection e with e1 _ _
  subst e1
  rcases hc with hc | ⟨b, off, ha, hc⟩
  · rw [hc] at hx
    cases hx
  · obtain ⟨_, rfl, h2⟩ := hc i x hx
    exact ⟨b, off, ha, by simpa using h2 0 _ rfl⟩
theorem getr_len {L : List Blk} (hL : ∀ p ∈ L, Bgd p) {l : Lk} (hh : l.h ≠ 0) : (getr13 L l).1.length ≤ 140737488351232 := by
  unfold getr13
  split
  · try rw [if_neg hh]
    split
    · simp
    · rename_i b hb
      split
      · exact Nat.le_trans (hL _ (atB_mem hb)).n (by decide)
      · simp
  · simp
theorem srtd_hash {L : List Blk} (hL : Gok L) {ss : List Lk} (h : Srtd L ss) {l : Lk} (hl : l ∈ ss) : l.h ≠ 0 := by
  obtain ⟨p, hp, rfl⟩ := List.mem_map.1 (h.1.mem_iff.1 hl)
  have := (hL p hp).2
  omega
set_option maxRecDepth 1000000 in
set_option maxHeartbeats 4000000 in
theorem sound13_any (w : World) (g B r : Nat) (L : List Blk) (hS : Sto w g B r L) (hok : Gok L) (hcb : Cb w) {vL vB vE : Value} {z : Int} {ss : List Lk} (hsr : Srtd L ss) (h1 : LkSl w vL ss) (h2 : RSl w vB (ss.map fun l => (getr13 L l).1)) (h3 : ISl w vE (ss.map fun l => (getr13 L l).2)) :
    Calls Tryz.prog 23 #[.agg #[vL, vB, vE, .int .i64 z], .pointer (some ⟨g, 0, none⟩)] w fun e w' => e = .returned (.bool true) ∧ Below w.heap.size w w' := by
  obtain ⟨aL, cL, rfl, -⟩ := id h1.form
  obtain ⟨aB, cB, rfl, -⟩ := id h2.form
  obtain ⟨aE, cE, rfl, -⟩ := id h3.form
  have hmL := hsr.1.length_eq
  rw [List.length_map] at hmL
  have HSL : Hid (ss.length = L.length) := hmL
  have HLN : Hid (L.length ≤ r ∧ r ≤ 65536) := ⟨hS.n, hS.h.2⟩
  have HX : Hid ((w.alloc (.cells #[.slice aL ss.length cL, .slice aB ss.length cB, .slice aE ss.length cE, .int .i64 z] 49)).heap[w.heap.size]? = some (.cells #[.slice aL ss.length cL, .slice aB ss.length cB, .slice aE ss.length cE, .int .i64 z] 49 (0, 0))) := heap_alloc_new w _
  have HB : Hid (Below w.heap.size w (w.alloc (.cells #[.slice aL ss.length cL, .slice aB ss.length cB, .slice aE ss.length cE, .int .i64 z] 49))) := below_alloc4 w _
  rw [List.length_map] at h2 h3 ⊢
  rw [List.length_map]
  have H1 := hide h1
  have H2 := hide h2
  have H3 := hide h3
  have HS := hide hS
  have HND := hide hS.m.nd
  have HBG := hide hS.m.ok
  have HOK := hide hok
  have HCB := hide hcb
  have HSR := hide hsr
  clear h1 h2 h3 hS hok hcb hsr hmL
  go_enter Tryz.func23, Tryz.ntmps23
  go_upto_region 1 with fail
  generalize w.alloc (.cells #[.slice aL ss.length cL, .slice aB ss.length cB, .slice aE ss.length cE, .int .i64 z] 49) = w0 at *
  go_upto_region 2 with fail
  go_loopw [5] (fun ii wx => ∃ i : Nat, i ≤ ss.length ∧ ii = .int .i64 (i : Nat) ∧ Hid (Below w0.heap.size w0 wx)) (fun ii _ => ss.length - (intOf ii).toNat)
  case atStart => exact ⟨0, by omega, rfl, Below.refl _ _⟩
  case round =>
    obtain ⟨i, hi, rfl, HBw⟩ := hrel
    have h65 : (ss.length : Int) ≤ 65536 := by have h1 := HLN.out; have h2 := HSL.out; omega
    have HBX : Hid (Below w.heap.size w wr) := HB.out.trans (HBw.out.mono HB.out.size)
    have r0 : wr.cell? ⟨w.heap.size, 0, none⟩ = some (.slice aL ss.length cL) := keep_below HBw.out _ _ (blk_cell (j := 0) HX.out rfl)
    by_cases hlt : i < ss.length
    · have g1 : (i : Int) < (ss.length : Int) := by omega
      obtain ⟨l, hl⟩ : ∃ l, ss[i]? = some l := ⟨_, List.getElem?_eq_getElem hlt⟩
      have HLI := hide hl
      obtain ⟨bL, oL, rfl, hlx, hcL⟩ := lksl_at H1.out hl
      obtain ⟨bB, oB, vb, rfl, hcB, hvb⟩ := rsl_at H2.out (i := i) (x := (getr13 L l).1) (by rw [List.getElem?_map, hl]; rfl)
      obtain ⟨bE, oE, rfl, hcE⟩ := isl_at H3.out (i := i) (x := (getr13 L l).2) (by rw [List.getElem?_map, hl]; rfl)
      have HCL := hide hcL
      have HLX := hide hlx
      have HVB := hide hvb
      have hgt := srtd_get HOK.out HND.out HSR.out (List.mem_of_getElem? hl)
      have HIS := hide hgt.1
      have HGT := hide hgt.2
      have f0 : ∀ t : Ext wr, t.w'.cell? ⟨w.heap.size, 0, none⟩ = some (.slice (some ⟨bL, oL, none⟩) ss.length cL) := fun t => keep_below t.h _ _ r0
      have f1 : ∀ t : Ext wr, t.w'.cell? ⟨w.heap.size, 1, none⟩ = some (.slice (some ⟨bB, oB, none⟩) ss.length cB) := fun t => keep_below t.h _ _ (keep_below HBw.out _ _ (blk_cell (j := 1) HX.out rfl))
      have f2 : ∀ t : Ext wr, t.w'.cell? ⟨w.heap.size, 2, none⟩ = some (.slice (some ⟨bE, oE, none⟩) ss.length cE) := fun t => keep_below t.h _ _ (keep_below HBw.out _ _ (blk_cell (j := 2) HX.out rfl))
      have f3 : ∀ t : Ext wr, t.w'.cell? ⟨bB, oB + i, none⟩ = some vb := fun t => keep_below t.h _ _ (keep_below HBX.out _ _ hcB)
      have f4 : ∀ t : Ext wr, t.w'.cell? ⟨bE, oE + i, none⟩ = some (.int .i64 ((getr13 L l).2 : Nat)) := fun t => keep_below t.h _ _ (keep_below HBX.out _ _ hcE)
      have HQ1 : Hid (∀ w', (∃ t : Ext wr, w' = t.w') → ∀ k u, (lcs l)[k]? = some u → w'.cell? ⟨bL, oL + i * 4 + k, none⟩ = some u) := fun w' ⟨t, e⟩ k u h => by
        rw [e]
        exact keep_below t.h _ _ (keep_below HBX.out _ _ (HCL.out i l HLI.out k u h))
      clear hl hcL hcB hcE hlx hvb hgt
      have HBL := hide (getr_len HBG.out (srtd_hash HOK.out HSR.out (List.mem_of_getElem? HLI.out)))
      generalize (getr13 L l).1 = bx at *
      generalize (getr13 L l).2 = ex at *
      have HHO : Hid ((decide (lok l) && dholds l.h l.d bx) = true → ∀ t : Ext wr, Calls Tryz.prog 15 #[.agg (lcs l), vb] t.w' fun e w' => e = .returned (.bool true) ∧ ∃ t' : Ext wr, w' = t'.w') := fun he t => by
        have h := holds4_any t.w' l vb bx ((HCB.out.below HBX.out).below t.h) HLX.out.toLkb ((HVB.out.move (keep_below HBX.out)).move (keep_below t.h)) HBL.out
        rw [he] at h
        exact Calls.ext_below h
      have HNM : Hid (∀ (n : Int) (t : Ext wr), Calls Tryz.prog 8 #[.int .i64 n] t.w' fun e w' => e = .returned (.int .i64 n) ∧ ∃ t' : Ext wr, w' = t'.w') := fun n t => Calls.ext_same (num13_any t.w' n)
      go_upto_region 4 with fail
      go_cut [51] (fun v wx => v = .bool false ∧ Hid (Below wr.heap.size wr wx))
      case first =>
        obtain ⟨hlk, hgt⟩ := HGT.out
        rcases hgt with rfl | ⟨rfl, hd⟩
        · clear hlk HHO HQ1 HVB HBL
          refine region_ext (by kernel_rfl) (by kernel_rfl) ?_
          repeat (
            with_reducible refine wpQuiet_step (fun K hK => ?_)
            go_simp
            first
              | (with_reducible refine hK _ ?_; clear hK K)
              | (apply Exists.intro
                 refine ⟨fun _ => ?_, hK _ ?_⟩
                 (go_at_call 8; exact HNM.out _ _)
                 clear hK K))
          refine wpQuiet_nil ?_
          rintro _ ⟨tq, rfl⟩
          have HTQ := hide tq.h
          go_wp2_with fail
          go_meet
          case rel => exact ⟨rfl, HTQ.out⟩
        · have HH2 := hide (HHO.out (by rw [decide_eq_true hlk, hd]; rfl))
          clear hlk hd HHO HVB HBL
          refine region_ext (by kernel_rfl) (by kernel_rfl) ?_
          repeat (
            with_reducible refine wpQuiet_step (fun K hK => ?_)
            first
              | (refine qstep_lkAt rfl rfl bL (oL + i * 4) l rfl HQ1.out (hK _ ?_); clear hK K)
              | (go_simp
                 first
                   | (with_reducible refine hK _ ?_; clear hK K)
                   | (apply Exists.intro
                      refine ⟨fun _ => ?_, hK _ ?_⟩
                      (first
                        | (go_at_call 8; exact HNM.out _ _)
                        | (go_at_call 15; exact HH2.out _))
                      clear hK K)))
          refine wpQuiet_nil ?_
          rintro _ ⟨tq, rfl⟩
          have HTQ := hide tq.h
          go_wp2_with fail
          go_meet
          case rel => exact ⟨rfl, HTQ.out⟩
      case rest =>
        obtain ⟨rfl, HB5⟩ := hcut
        clear HHO HNM HVB HBL HGT HQ1 f1 f2 f3 f4
        have HB6 : Hid (Below w0.heap.size w0 wc) := HBw.out.trans (HB5.out.mono HBw.out.size)
        have HBY : Hid (Below w.heap.size w wc) := HB.out.trans (HB6.out.mono HB.out.size)
        have f0 : ∀ t : Ext wc, t.w'.cell? ⟨w.heap.size, 0, none⟩ = some (.slice (some ⟨bL, oL, none⟩) ss.length cL) := fun t => keep_below t.h _ _ (keep_below HB5.out _ _ r0)
        have HQ1 : Hid (∀ w', (∃ t : Ext wc, w' = t.w') → ∀ k u, (lcs l)[k]? = some u → w'.cell? ⟨bL, oL + i * 4 + k, none⟩ = some u) := fun w' ⟨t, e⟩ k u h => by
          rw [e]
          exact keep_below t.h _ _ (keep_below HBY.out _ _ (HCL.out i l HLI.out k u h))
        have HHS : Hid (∀ t : Ext wc, Calls Tryz.prog 20 #[.pointer (some ⟨g, 0, none⟩), .agg (lcs l)] t.w' fun e w' => e = .returned (.bool true) ∧ ∃ t' : Ext wc, w' = t'.w') := fun t => by
          have h := has13_bel t.w' g B r L ((HS.out.next HBY.out).next t.h) l HLX.out
          rw [HIS.out] at h
          exact Calls.ext_below h
        go_upto_region 6 with fail
        rcases i with _ | m
        · have HQ0 : Hid (∀ w', (∃ t : Ext wc, w' = t.w') → ∀ k u, (lcs l)[k]? = some u → w'.cell? ⟨bL, oL + k, none⟩ = some u) := fun w' h k u hu => by
            have := HQ1.out w' h k u hu
            simpa using this
          clear HQ1
          refine region_ext (by kernel_rfl) (by kernel_rfl) ?_
          repeat (
            with_reducible refine wpQuiet_step (fun K hK => ?_)
            first
              | (refine qstep_lkAt rfl rfl bL oL l rfl HQ0.out (hK _ ?_); clear hK K)
              | (go_simp
                 first
                   | (with_reducible refine hK _ ?_; clear hK K)
                   | (apply Exists.intro
                      refine ⟨fun _ => ?_, hK _ ?_⟩
                      (first
                        | (go_at_call 20; exact HHS.out _)
                      )
                      clear hK K)))
          refine wpQuiet_nil ?_
          rintro _ ⟨tq, rfl⟩
          have HTQ : Hid (Below w0.heap.size w0 tq.w') := HB6.out.trans (tq.h.mono HB6.out.size)
          go_wp2_with fail
          go_roundw
          case rel => exact ⟨1, by omega, by go_num, HTQ.out⟩
          case measure => simp [intOf]; omega
        · have HP : Hid (ss[m]? = some ss[m]!) := by show _ = _; rw [getElem!_pos ss m (by omega), List.getElem?_eq_getElem]
          have HLS : Hid (llt ss[m]! l = true) := by
            have h2 := srtd_less HOK.out HND.out HSR.out (i := m) (by omega)
            have h3 : ss[m + 1]! = l := by
              have h4 := HLI.out
              rw [List.getElem?_eq_getElem (by omega)] at h4
              rw [getElem!_pos ss (m + 1) (by omega)]
              exact Option.some.inj h4
            rw [h3] at h2
            exact h2
          have HLP : Hid (Lkx ss[m]!) := by
            obtain ⟨_, _, _, h1, _⟩ := lksl_at H1.out HP.out
            exact h1
          obtain ⟨lp, hlp⟩ : ∃ lp, ss[m]! = lp := ⟨_, rfl⟩
          rw [hlp] at HP HLS HLP
          clear hlp
          have HQ2 : Hid (∀ w', (∃ t : Ext wc, w' = t.w') → ∀ k u, (lcs lp)[k]? = some u → w'.cell? ⟨bL, oL + m * 4 + k, none⟩ = some u) := fun w' ⟨t, e⟩ k u h => by
            rw [e]
            exact keep_below t.h _ _ (keep_below HBY.out _ _ (HCL.out m lp HP.out k u h))
          have HCH : Hid (∀ t : Ext wc, Calls Tryz.prog 49 #[.agg (lcs lp), .agg (lcs l)] t.w' fun e w'' => e = .returned (.bool true) ∧ ∃ t' : Ext wc, w'' = t'.w') := fun t => by
            have h := Calls.ext_below (less4_any t.w' lp l HLP.out.toLkb HLX.out.toLkb)
            rw [HLS.out] at h
            exact h
          have gm : (m : Int) < (ss.length : Int) := by omega
          have gm1 : ((m + 1 : Nat) : Int) - 1 = (m : Int) := by omega
          have gw : IntKind.i64.wrap (m : Int) = (m : Int) := by rw [IntKind.wrap_i64]; omega
          have gm3 : (m : Int) + 1 < (ss.length : Int) := by omega
          have gm4 : ((m : Int) + 1).toNat = m + 1 := by omega
          have gm5 : (0 : Int) ≤ (m : Int) + 1 := by omega
          have gm2 : (0 : Int) < ((m + 1 : Nat) : Int) := by omega
          refine region_ext (by kernel_rfl) (by kernel_rfl) ?_
          repeat (
            with_reducible refine wpQuiet_step (fun K hK => ?_)
            first
              | (refine qstep_lkAt rfl rfl bL (oL + m * 4) lp rfl HQ2.out (hK _ ?_); clear hK K)
              | (refine qstep_lkAt rfl rfl bL (oL + (m + 1) * 4) l rfl HQ1.out (hK _ ?_); clear hK K)
              | (go_simp
                 first
                   | (with_reducible refine hK _ ?_; clear hK K)
                   | (apply Exists.intro
                      refine ⟨fun _ => ?_, hK _ ?_⟩
                      (first
                        | (go_at_call 20; exact HHS.out _)
                        | (go_at_call 49; exact HCH.out _)
                      )
                      clear hK K)))
          refine wpQuiet_nil ?_
          rintro _ ⟨tq, rfl⟩
          have HTQ : Hid (Below w0.heap.size w0 tq.w') := HB6.out.trans (tq.h.mono HB6.out.size)
          go_wp2_with fail
          go_roundw
          case rel => exact ⟨m + 1 + 1, by omega, by go_num, HTQ.out⟩
          case measure => simp [intOf]; omega
    · have g1 : ¬ (i : Int) < (ss.length : Int) := by omega
      have hi2 : i = ss.length := by omega
      subst hi2
      have HLN2 : Hid (∀ t : Ext wr, Calls Tryz.prog 31 #[.pointer (some ⟨g, 0, none⟩)] t.w' fun e w' => e = .returned (.int .i64 (ss.length : Nat)) ∧ ∃ t' : Ext wr, w' = t'.w') := fun t => by
        have h := len13_bel t.w' g B r L ((HS.out.next HBX.out).next t.h)
        rw [← HSL.out] at h
        exact Calls.ext_below h
      have HRM : Hid (∀ t : Ext wr, Calls Tryz.prog 50 #[.pointer (some ⟨g, 0, none⟩)] t.w' fun e w' => e = .returned (.int .i64 (r : Nat)) ∧ ∃ t' : Ext wr, w' = t'.w') := fun t => Calls.ext_same (room13_any t.w' g B r L ((HS.out.next HBX.out).next t.h))
      have f0 : ∀ t : Ext wr, t.w'.cell? ⟨w.heap.size, 0, none⟩ = some (.slice aL ss.length cL) := fun t => keep_below t.h _ _ r0
      have gr : (ss.length : Int) ≤ (r : Int) := by have h1 := HLN.out; have h2 := HSL.out; omega
      go_upto_region 8 with fail
      refine region_ext (by kernel_rfl) (by kernel_rfl) ?_
      repeat (
        with_reducible refine wpQuiet_step (fun K hK => ?_)
        go_simp
        first
          | (with_reducible refine hK _ ?_; clear hK K)
          | (apply Exists.intro
             refine ⟨fun _ => ?_, hK _ ?_⟩
             (first
               | (go_at_call 31; exact HLN2.out _)
               | (go_at_call 50; exact HRM.out _))
             clear hK K))
      refine wpQuiet_nil ?_
      rintro _ ⟨tq, rfl⟩
      have HTQ := hide (HBX.out.trans (tq.h.mono HBX.out.size))
      go_wp2_with fail
      go_ret
      exact ⟨rfl, HTQ.out⟩
end
end Go.Proofs.YtnkghcndaafmoaaGreatDoor

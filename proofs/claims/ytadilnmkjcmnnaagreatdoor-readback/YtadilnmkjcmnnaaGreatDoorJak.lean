import Derived.Test.YtadilnmkjcmnnaaGreatDoorJaj
namespace Go.Proofs.YtadilnmkjcmnnaaGreatDoor
section
open Go.RowKit Go
/-- What ReadBack has in hand. -/
structure Rbk (w wx : World) (vB vI : Value) : Prop where
  t : wx.heap[w.heap.size]? = some (.cells #[vB, vI] 25 (0, 0))
  l : Below w.heap.size w wx
theorem Rbk.next {w wx wy : World} {vB vI : Value} (h : Rbk w wx vB vI) (hb : Below wx.heap.size wx wy) : Rbk w wy vB vI :=
  ⟨(hb.block _ (blk_lt h.t)).trans h.t, h.l.trans (hb.mono h.l.size)⟩
theorem rows_row8 {w : World} {a : Option Addr} {len cap : Nat} (h : RowsIn w (.slice a len cap) len) (hl : 0 < len) : ∃ b off, a = some ⟨b, off, none⟩ ∧ ∀ i, i < len → ∃ u xs, w.cell? ⟨b, off + i, none⟩ = some u ∧ BSl w u xs ∧ xs.length ≤ 140737488351232 := by
  obtain ⟨⟨a', cap', hv, _, hr⟩, _⟩ := h
  injection hv with h1 h2 h3
  subst h1
  rcases hr with hr | hr
  · omega
  · exact hr
set_option maxRecDepth 1000000 in
set_option maxHeartbeats 8000000 in
theorem rback_any (w : World) (hT : Tabs w) (vB vI : Value) (nB nI : Nat) (hB : RowsIn w vB nB) (hI : IntsIn w vI nI) :
    Calls Tryz.prog 5 #[.agg #[vB, vI]] w fun e w' => e = .returned (.bool true) ∧ Below w.heap.size w w' := by
  have HTT := hide hT
  have HRB := hide hB
  have HRI := hide hI
  obtain ⟨⟨aB, cB, rfl, hq1, hq2⟩, hmB⟩ := hB
  obtain ⟨⟨aI, cI, rfl, hq3⟩, hmI⟩ := hI
  clear hq1 hq2 hq3 hT
  have HX0 : Hid (Rbk w (w.alloc (.cells #[.slice aB nB cB, .slice aI nI cI] 25)) (.slice aB nB cB) (.slice aI nI cI)) := ⟨heap_alloc_new w _, below_alloc4 w _⟩
  go_enter Tryz.func5, Tryz.ntmps5
  go_wp2_with fail
  generalize w.alloc (.cells #[.slice aB nB cB, .slice aI nI cI] 25) = w0 at *
  go_loopw [3, 4] (fun va vi wx => ∃ i A : Nat, i ≤ nB ∧ i ≤ 400 ∧ A ≤ 1048576 ∧ va = .int .i64 (A : Nat) ∧ vi = .int .i64 (i : Nat) ∧ Hid (Rbk w wx (.slice aB nB cB) (.slice aI nI cI))) (fun _ vi _ => 400 - (intOf vi).toNat)
  case atStart => exact ⟨0, 0, by omega, by omega, by omega, rfl, rfl, HX0⟩
  case round =>
    obtain ⟨i, A, hi, hi4, hA, rfl, rfl, HX⟩ := hrel
    clear HX0
    have q0 : wr.cell? ⟨w.heap.size, 0, none⟩ = some (.slice aB nB cB) := blk_cell (j := 0) HX.out.t rfl
    by_cases hil : i < nB ∧ i < 400
    case neg => as_aux_lemma =>
      by_cases h1 : i < nB
      · have g1 : (i : Int) < (nB : Int) := by omega
        have g2 : ¬ (i : Int) < 400 := by omega
        clear hil h1 hi hi4
        go_wp2_with fail
        refine (reads8_any w HTT.out wr HX.out.l).mono ?_
        rintro e w2 ⟨rfl, hb2⟩
        have HB2 : Hid (Below w.heap.size w w2) := HX.out.l.trans (hb2.mono HX.out.l.size)
        clear hb2
        go_wp2_with fail
        go_ret
        exact ⟨rfl, HB2.out⟩
      · have g1 : ¬ (i : Int) < (nB : Int) := by omega
        clear hil h1 hi hi4
        go_wp2_with fail
        refine (reads8_any w HTT.out wr HX.out.l).mono ?_
        rintro e w2 ⟨rfl, hb2⟩
        have HB2 : Hid (Below w.heap.size w w2) := HX.out.l.trans (hb2.mono HX.out.l.size)
        clear hb2
        go_wp2_with fail
        go_ret
        exact ⟨rfl, HB2.out⟩
    obtain ⟨hil, hi400⟩ := hil
    have g1 : (i : Int) < (nB : Int) := by omega
    have g2 : (i : Int) < 400 := by omega
    obtain ⟨bB, oB, rfl, hrB⟩ := rows_row8 HRB.out (by omega)
    obtain ⟨u, xs, hcu, hbu, hxl⟩ := hrB i hil
    have cu : wr.cell? ⟨bB, oB + i, none⟩ = some u := keep_below HX.out.l _ _ hcu
    have HCU := hide hcu
    have HU := hide hbu
    obtain ⟨⟨au, cu', hvu, _, _⟩, _, _⟩ := hbu
    subst hvu
    clear hrB hcu
    have e1 : IntKind.i64.wrap ((A : Int) + (xs.length : Int)) = ((A + xs.length : Nat) : Int) := by rw [IntKind.wrap_i64]; omega
    have HXL := hide hxl
    have HA := hide hA
    obtain ⟨A', hA'⟩ : ∃ A', A' = A + xs.length := ⟨_, rfl⟩
    rw [← hA'] at e1
    by_cases hbig : 1048576 < A'
    · as_aux_lemma =>
      have g3 : (1048576 : Int) < (A' : Int) := by omega
      clear hbig hA' hA hxl
      go_wp2_with fail
      refine (reads8_any w HTT.out wr HX.out.l).mono ?_
      rintro e w2 ⟨rfl, hb2⟩
      have HB2 : Hid (Below w.heap.size w w2) := HX.out.l.trans (hb2.mono HX.out.l.size)
      clear hb2
      go_wp2_with fail
      go_ret
      exact ⟨rfl, HB2.out⟩
    have g3 : ¬ (1048576 : Int) < (A' : Int) := by omega
    have HL : Hid (xs.length ≤ 1048576) := by show _ ≤ _; omega
    have HA2 : Hid (A' ≤ 1048576) := by show _ ≤ _; omega
    clear hbig hA' hA hxl
    have q1 : wr.cell? ⟨w.heap.size, 1, none⟩ = some (.slice aI nI cI) := blk_cell (j := 1) HX.out.t rfl
    have HI4 : Hid (i ≤ 1000) := by show _ ≤ _; omega
    go_wp2_with fail
    refine (depth8_any wr _ aI nI cI i (HRI.out.move (keep_below HX.out.l)) HI4.out).mono ?_
    rintro e w1 ⟨D, rfl, hb1⟩
    have HX1 := hide (HX.out.next hb1)
    clear hb1 q0 q1 cu HX g1 g2 g3 e1
    have q0 : w1.cell? ⟨w.heap.size, 0, none⟩ = some (.slice (some ⟨bB, oB, none⟩) nB cB) := blk_cell (j := 0) HX1.out.t rfl
    have cu : w1.cell? ⟨bB, oB + i, none⟩ = some (.slice au xs.length cu') := keep_below HX1.out.l _ _ HCU.out
    have g1 : (i : Int) < (nB : Int) := by omega
    go_wp2_with fail
    refine (copy_any w1 _ xs (HU.out.move (keep_below HX1.out.l)) HXL.out).mono ?_
    rintro e w2 ⟨v2, rfl, ho2, hb2⟩
    have HX2 := hide (HX1.out.next hb2)
    have HV2 := hide (BSl.own ho2 HU.out.byte)
    have HQ2 := hide (fun q (hq : v2.ownBlock = some q) => (ho2.lt q hq).2)
    clear ho2 hb2 HX1 q0 cu g1
    go_wp2_with fail
    refine (decode8_back w HTT.out w2 HX2.out.l v2 xs HV2.out HQ2.out HL.out D).mono ?_
    rintro e w3 ⟨hb3, c, E, P, v, rfl, htv, hor⟩
    have HX3 := hide (HX2.out.next hb3)
    have HTV := hide htv
    have HOR := hide hor
    clear hb3 htv hor HX2 HV2 HQ2
    have hmk := two_mk8 w3 c (fcs E P)
    have hF0 := two_new8 w3
    have HN5 := hide hF0.r
    have HN6 := hide (hF0.setR c).f
    have HI5 : Hid ((Tryz.prog.info? 62).map (·.size) = some c.size) := by show _ = _; rw [HTV.out.size13]; exact infoV
    have HZ5 : Hid (zv.size = c.size) := by show _ = _; rw [HTV.out.size13]; rfl
    have HC13 := hide HTV.out.size13
    have HA5 := hide HTV.out.all1
    have HIF : Hid ((Tryz.prog.info? 72).map (·.size) = some (fcs E P).size) := infoF8
    have HAF := hide (fcs_all E P)
    have HX5 := hide (HX3.out.next hmk.1)
    have HV5 := hide hmk.2.1
    have HG5 := hide hmk.2.2
    have HT5 := hide (HTV.out.move (keep_below hmk.1))
    clear hmk hF0 HTV
    simp only [fcs] at HX5 HV5 HG5 HT5 HIF HAF
    unfold zv zf at HX5 HV5 HG5 HT5
    go_upto_region 9 with (first
      | (refine wpList_storeRow rfl rfl w3.heap.size zv c 62 rfl rfl HN5.out HI5.out HZ5.out HA5.out ?_)
      | (refine wpList_storeRow rfl rfl (w3.heap.size + 1) zf #[.int .i64 (E : Nat), .int .i64 (P : Nat)] 72 rfl rfl HN6.out HIF.out rfl HAF.out ?_))
    (try simp only [Act.put]); (try simp only [List.setIfInBounds_toArray, List.set_cons_zero, List.set_cons_succ])
    generalize (((w3.alloc (.cells #[.int .i64 0, .bool false, .bool false, .int .u64 0, .int .u64 0, .string ⟨#[]⟩, .slice none 0 0, .int .i64 0, .int .u64 0, .int .u64 0, .string ⟨#[]⟩, .slice none 0 0, .slice none 0 0] 62)).alloc (.cells #[.int .i64 0, .int .i64 0] 72)).setRow w3.heap.size c).setRow (w3.heap.size + 1) #[.int .i64 (E : Nat), .int .i64 (P : Nat)] = w5 at *
    have HG5 : Hid (w5.heap[w3.heap.size + 1]? = some (.cells (fcs E P) 72 (0, 0))) := HG5
    clear HN5 HN6 HX3 HIF HAF HI5 HZ5 HA5
    rcases HOR.out with ⟨h0, hp0, d, hDd, hd, hrd⟩ | ⟨h80, h85, hP, hv0⟩
    case inr => as_aux_lemma =>
      have hne : (!decide (E = 0 ∧ P = 0)) = true := by simp; omega
      have HNE := hide hne
      clear hne
      go_upto_region 10 with (first
        | (refine wpList_exec rfl (exec_fltAt (g := w3.heap.size + 1) (c := fcs E P) rfl rfl rfl HG5.out) ?_)
        | (refine wpList_exec rfl (exec_neflt (e := E) (p := P) (e' := 0) (p' := 0) rfl rfl rfl) ?_; rw [HNE.out]))
      subst hv0
      have HVS : Hid (∀ wy, Below w5.heap.size w5 wy → ∀ j x, c[j]? = some x → wy.cell? ⟨w3.heap.size, 0 + j, none⟩ = some x) := fun wy hy j x hx => by rw [Nat.zero_add]; exact keep_below hy _ _ (blk_cell HV5.out hx)
      have HF0 : Hid (∀ wy, Below w5.heap.size w5 wy → wy.cell? ⟨w3.heap.size + 1, 0, none⟩ = some (.int .i64 (E : Nat))) := fun wy hy => keep_below hy _ _ (blk_cell (j := 0) HG5.out rfl)
      have HF1 : Hid (∀ wy, Below w5.heap.size w5 wy → wy.cell? ⟨w3.heap.size + 1, 1, none⟩ = some (.int .i64 (P : Nat))) := fun wy hy => keep_below hy _ _ (blk_cell (j := 1) HG5.out rfl)
      have HP0 : Hid (∀ wy, Below w5.heap.size w5 wy → wy.cell? ⟨w.heap.size, 0, none⟩ = some (.slice (some ⟨bB, oB, none⟩) nB cB)) := fun wy hy => keep_below hy _ _ (blk_cell (j := 0) HX5.out.t rfl)
      have HCC : Hid (∀ wy, Below w5.heap.size w5 wy → wy.cell? ⟨bB, oB + i, none⟩ = some (.slice au xs.length cu')) := fun wy hy => keep_below hy _ _ (keep_below HX5.out.l _ _ HCU.out)
      have g1 : (i : Int) < (nB : Int) := by omega
      have g2 : ¬ (P : Int) < 0 := by omega
      have g3 : ¬ (xs.length : Int) < (P : Int) := by omega
      have g4 : ¬ (E : Int) < 80 := by omega
      have g5 : ¬ (85 : Int) < (E : Int) := by omega
      refine heldStart (S := fun wy => Below w5.heap.size w5 wy) (by kernel_rfl) ?_
      have hS : Below w5.heap.size w5 w5.drew := (Below.refl _ _).drew
      refine heldTake 0 _ rfl (by kernel_rfl) (by kernel_rfl) (by kernel_rfl) (fun _ _ _ h => h) rfl hS (fun wy hy => exec_valAt (g := w3.heap.size) (off := 0) (cs := c) rfl rfl HC13.out (HVS.out wy hy)) ?_
      (try simp only [Act.put]); (try simp only [List.setIfInBounds_toArray, List.set_cons_zero, List.set_cons_succ])
      refine heldTake 1 _ rfl (by kernel_rfl) (by kernel_rfl) (by kernel_rfl) (fun _ _ _ h => h) rfl hS (fun wy hy => by first | (go_simp; done) | (go_simp; rfl) | rfl) ?_
      (try simp only [Act.put]); (try simp only [List.setIfInBounds_toArray, List.set_cons_zero, List.set_cons_succ])
      refine heldStep 2 rfl (by kernel_rfl) (fun K hK => ?_)
      go_simp
      refine (rd8_eq (tz8 0) _ c _ (HT5.out.move (keep_below hS)) (tz8_tis _ (fun _ => False)).tin).mono ?_
      rintro e wn ⟨rfl, hbn⟩
      refine (Hid.out hK) _ _ (hS.trans (hbn.mono hS.size)) (fun hS2 => ?_)
      clear hK K hS
      have hS := hS2
      clear hS2
      (try simp only [Act.put]); (try simp only [List.setIfInBounds_toArray, List.set_cons_zero, List.set_cons_succ])
      clear hbn
      refine heldTake 3 _ rfl (by kernel_rfl) (by kernel_rfl) (by kernel_rfl) (fun _ _ _ h => h) rfl hS (fun wy hy => by first | (go_simp; done) | (go_simp; rfl) | rfl) ?_
      (try simp only [Act.put]); (try simp only [List.setIfInBounds_toArray, List.set_cons_zero, List.set_cons_succ])
      refine heldTake 4 _ rfl (by kernel_rfl) (by kernel_rfl) (by kernel_rfl) (fun _ _ _ h => h) rfl hS (fun wy hy => by first | (go_simp; done) | (go_simp; rfl) | rfl) ?_
      (try simp only [Act.put]); (try simp only [List.setIfInBounds_toArray, List.set_cons_zero, List.set_cons_succ])
      refine heldTake 5 _ rfl (by kernel_rfl) (by kernel_rfl) (by kernel_rfl) (fun _ _ _ h => h) rfl hS (fun wy hy => by first | (go_simp; done) | (go_simp; rfl) | rfl) ?_
      (try simp only [Act.put]); (try simp only [List.setIfInBounds_toArray, List.set_cons_zero, List.set_cons_succ])
      refine heldTake 6 _ rfl (by kernel_rfl) (by kernel_rfl) (by kernel_rfl) (fun _ _ _ h => h) rfl hS (fun wy hy => by have h0 := HF1.out wy hy; first | (go_simp; done) | (go_simp; rfl) | rfl) ?_
      (try simp only [Act.put]); (try simp only [List.setIfInBounds_toArray, List.set_cons_zero, List.set_cons_succ])
      refine heldTake 7 _ rfl (by kernel_rfl) (by kernel_rfl) (by kernel_rfl) (fun _ _ _ h => h) rfl hS (fun wy hy => by first | (go_simp; done) | (go_simp; rfl) | rfl) ?_
      (try simp only [Act.put]); (try simp only [List.setIfInBounds_toArray, List.set_cons_zero, List.set_cons_succ])
      refine heldTake 8 _ rfl (by kernel_rfl) (by kernel_rfl) (by kernel_rfl) (fun _ _ _ h => h) rfl hS (fun wy hy => by first | (go_simp; done) | (go_simp; rfl) | rfl) ?_
      (try simp only [Act.put]); (try simp only [List.setIfInBounds_toArray, List.set_cons_zero, List.set_cons_succ])
      refine heldTake 9 _ rfl (by kernel_rfl) (by kernel_rfl) (by kernel_rfl) (fun _ _ _ h => h) rfl hS (fun wy hy => by first | (go_simp; done) | (go_simp; rfl) | rfl) ?_
      (try simp only [Act.put]); (try simp only [List.setIfInBounds_toArray, List.set_cons_zero, List.set_cons_succ])
      refine heldTake 10 _ rfl (by kernel_rfl) (by kernel_rfl) (by kernel_rfl) (fun _ _ _ h => h) rfl hS (fun wy hy => by first | (go_simp; done) | (go_simp; rfl) | rfl) ?_
      (try simp only [Act.put]); (try simp only [List.setIfInBounds_toArray, List.set_cons_zero, List.set_cons_succ])
      refine heldTake 11 _ rfl (by kernel_rfl) (by kernel_rfl) (by kernel_rfl) (fun _ _ _ h => h) rfl hS (fun wy hy => by have h0 := HF1.out wy hy; first | (go_simp; done) | (go_simp; rfl) | rfl) ?_
      (try simp only [Act.put]); (try simp only [List.setIfInBounds_toArray, List.set_cons_zero, List.set_cons_succ])
      refine heldTake 12 _ rfl (by kernel_rfl) (by kernel_rfl) (by kernel_rfl) (fun _ _ _ h => h) rfl hS (fun wy hy => by first | (go_simp; done) | (go_simp; rfl) | rfl) ?_
      (try simp only [Act.put]); (try simp only [List.setIfInBounds_toArray, List.set_cons_zero, List.set_cons_succ])
      refine heldTake 13 _ rfl (by kernel_rfl) (by kernel_rfl) (by kernel_rfl) (fun _ _ _ h => h) rfl hS (fun wy hy => by have h0 := HP0.out wy hy; first | (go_simp; done) | (go_simp; rfl) | rfl) ?_
      (try simp only [Act.put]); (try simp only [List.setIfInBounds_toArray, List.set_cons_zero, List.set_cons_succ])
      refine heldTake 14 _ rfl (by kernel_rfl) (by kernel_rfl) (by kernel_rfl) (fun _ _ _ h => h) rfl hS (fun wy hy => by first | (go_simp; done) | (go_simp; rfl) | rfl) ?_
      (try simp only [Act.put]); (try simp only [List.setIfInBounds_toArray, List.set_cons_zero, List.set_cons_succ])
      refine heldTake 15 _ rfl (by kernel_rfl) (by kernel_rfl) (by kernel_rfl) (fun _ _ _ h => h) rfl hS (fun wy hy => by first | (go_simp; done) | (go_simp; rfl) | rfl) ?_
      (try simp only [Act.put]); (try simp only [List.setIfInBounds_toArray, List.set_cons_zero, List.set_cons_succ])
      refine heldTake 16 _ rfl (by kernel_rfl) (by kernel_rfl) (by kernel_rfl) (fun _ _ _ h => h) rfl hS (fun wy hy => by have h0 := HCC.out wy hy; first | (go_simp; done) | (go_simp; rfl) | rfl) ?_
      (try simp only [Act.put]); (try simp only [List.setIfInBounds_toArray, List.set_cons_zero, List.set_cons_succ])
      refine heldTake 17 _ rfl (by kernel_rfl) (by kernel_rfl) (by kernel_rfl) (fun _ _ _ h => h) rfl hS (fun wy hy => by first | (go_simp; done) | (go_simp; rfl) | rfl) ?_
      (try simp only [Act.put]); (try simp only [List.setIfInBounds_toArray, List.set_cons_zero, List.set_cons_succ])
      refine heldTake 18 _ rfl (by kernel_rfl) (by kernel_rfl) (by kernel_rfl) (fun _ _ _ h => h) rfl hS (fun wy hy => by first | (go_simp; done) | (go_simp; rfl) | rfl) ?_
      (try simp only [Act.put]); (try simp only [List.setIfInBounds_toArray, List.set_cons_zero, List.set_cons_succ])
      refine heldTake 19 _ rfl (by kernel_rfl) (by kernel_rfl) (by kernel_rfl) (fun _ _ _ h => h) rfl hS (fun wy hy => by first | (go_simp; done) | (go_simp; rfl) | rfl) ?_
      (try simp only [Act.put]); (try simp only [List.setIfInBounds_toArray, List.set_cons_zero, List.set_cons_succ])
      refine heldTake 20 _ rfl (by kernel_rfl) (by kernel_rfl) (by kernel_rfl) (fun _ _ _ h => h) rfl hS (fun wy hy => by first | (go_simp; done) | (go_simp; rfl) | rfl) ?_
      (try simp only [Act.put]); (try simp only [List.setIfInBounds_toArray, List.set_cons_zero, List.set_cons_succ])
      refine heldTake 21 _ rfl (by kernel_rfl) (by kernel_rfl) (by kernel_rfl) (fun _ _ _ h => h) rfl hS (fun wy hy => by first | (go_simp; done) | (go_simp; rfl) | rfl) ?_
      (try simp only [Act.put]); (try simp only [List.setIfInBounds_toArray, List.set_cons_zero, List.set_cons_succ])
      refine heldTake 22 _ rfl (by kernel_rfl) (by kernel_rfl) (by kernel_rfl) (fun _ _ _ h => h) rfl hS (fun wy hy => by have h0 := HF0.out wy hy; first | (go_simp; done) | (go_simp; rfl) | rfl) ?_
      (try simp only [Act.put]); (try simp only [List.setIfInBounds_toArray, List.set_cons_zero, List.set_cons_succ])
      refine heldStep 23 rfl (by kernel_rfl) (fun K hK => ?_)
      go_simp
      refine (num8_any _ _).mono ?_
      rintro e wn2 ⟨rfl, rfl⟩
      refine (Hid.out hK) _ _ hS (fun hS2 => ?_)
      clear hK K hS
      have hS := hS2
      clear hS2
      (try simp only [Act.put]); (try simp only [List.setIfInBounds_toArray, List.set_cons_zero, List.set_cons_succ])
      refine heldTake 24 _ rfl (by kernel_rfl) (by kernel_rfl) (by kernel_rfl) (fun _ _ _ h => h) rfl hS (fun wy hy => by first | (go_simp; done) | (go_simp; rfl) | rfl) ?_
      (try simp only [Act.put]); (try simp only [List.setIfInBounds_toArray, List.set_cons_zero, List.set_cons_succ])
      refine heldTake 25 _ rfl (by kernel_rfl) (by kernel_rfl) (by kernel_rfl) (fun _ _ _ h => h) rfl hS (fun wy hy => by first | (go_simp; done) | (go_simp; rfl) | rfl) ?_
      (try simp only [Act.put]); (try simp only [List.setIfInBounds_toArray, List.set_cons_zero, List.set_cons_succ])
      refine heldTake 26 _ rfl (by kernel_rfl) (by kernel_rfl) (by kernel_rfl) (fun _ _ _ h => h) rfl hS (fun wy hy => by first | (go_simp; done) | (go_simp; rfl) | rfl) ?_
      (try simp only [Act.put]); (try simp only [List.setIfInBounds_toArray, List.set_cons_zero, List.set_cons_succ])
      refine heldTake 27 _ rfl (by kernel_rfl) (by kernel_rfl) (by kernel_rfl) (fun _ _ _ h => h) rfl hS (fun wy hy => by first | (go_simp; done) | (go_simp; rfl) | rfl) ?_
      (try simp only [Act.put]); (try simp only [List.setIfInBounds_toArray, List.set_cons_zero, List.set_cons_succ])
      refine heldTake 28 _ rfl (by kernel_rfl) (by kernel_rfl) (by kernel_rfl) (fun _ _ _ h => h) rfl hS (fun wy hy => by have h0 := HF0.out wy hy; first | (go_simp; done) | (go_simp; rfl) | rfl) ?_
      (try simp only [Act.put]); (try simp only [List.setIfInBounds_toArray, List.set_cons_zero, List.set_cons_succ])
      refine heldStep 29 rfl (by kernel_rfl) (fun K hK => ?_)
      go_simp
      refine (num8_any _ _).mono ?_
      rintro e wn3 ⟨rfl, rfl⟩
      refine (Hid.out hK) _ _ hS (fun hS2 => ?_)
      clear hK K hS
      have hS := hS2
      clear hS2
      (try simp only [Act.put]); (try simp only [List.setIfInBounds_toArray, List.set_cons_zero, List.set_cons_succ])
      refine heldTake 30 _ rfl (by kernel_rfl) (by kernel_rfl) (by kernel_rfl) (fun _ _ _ h => h) rfl hS (fun wy hy => by first | (go_simp; done) | (go_simp; rfl) | rfl) ?_
      (try simp only [Act.put]); (try simp only [List.setIfInBounds_toArray, List.set_cons_zero, List.set_cons_succ])
      refine heldTake 31 _ rfl (by kernel_rfl) (by kernel_rfl) (by kernel_rfl) (fun _ _ _ h => h) rfl hS (fun wy hy => by first | (go_simp; done) | (go_simp; rfl) | rfl) ?_
      (try simp only [Act.put]); (try simp only [List.setIfInBounds_toArray, List.set_cons_zero, List.set_cons_succ])
      refine heldDone (by kernel_rfl) ?_
      go_wp2_with fail
      exact ⟨⟨i + 1, A', by omega, by omega, HA2.out, rfl, by simp, HX5.out.next hS⟩, by simp [intOf]; omega⟩
    as_aux_lemma =>
      subst h0
      subst hp0
      subst hDd
      have HRD := hide hrd
      have HD4 := hide hd
      clear hrd hd HOR
      go_upto_region 12 with (first
        | (refine wpList_exec rfl (exec_fltAt (g := w3.heap.size + 1) (c := fcs 0 0) rfl rfl rfl HG5.out) ?_)
        | (refine wpList_exec rfl (exec_neflt (e := 0) (p := 0) (e' := 0) (p' := 0) rfl rfl rfl) ?_))
      have HVC : Hid (∀ j x, c[j]? = some x → w5.cell? ⟨w3.heap.size, 0 + j, none⟩ = some x) := fun j x hx => by rw [Nat.zero_add]; exact blk_cell HV5.out hx
      go_wp2_with (refine wpList_exec rfl (exec_valAt (g := w3.heap.size) (off := 0) (cs := c) rfl rfl HC13.out HVC.out) ?_)
      refine (rd8_encode HRD.out HL.out w5 c HT5.out (HTT.out.next HX5.out.l)).mono ?_
      rintro e w6 ⟨v6, rfl, ho6, hb6⟩
      have HX6 := hide (HX5.out.next hb6)
      have HV6 := hide ((hb6.block _ (blk_lt HV5.out)).trans HV5.out)
      have HT6 := hide (HT5.out.move (keep_below hb6))
      have HBV : Hid (BSl w6 v6 xs) := BSl.own (by simpa using ho6) HU.out.byte
      have HUV : Hid (BSl w6 (.slice au xs.length cu') xs) := HU.out.move (keep_below (HX5.out.next hb6).l)
      clear ho6 hb6 HVC HX5 HV5 HT5 HG5
      go_upto_region 13 with fail
      have HVS : Hid (∀ wy, Below w6.heap.size w6 wy → ∀ j x, c[j]? = some x → wy.cell? ⟨w3.heap.size, 0 + j, none⟩ = some x) := fun wy hy j x hx => by rw [Nat.zero_add]; exact keep_below hy _ _ (blk_cell HV6.out hx)
      have HP0 : Hid (∀ wy, Below w6.heap.size w6 wy → wy.cell? ⟨w.heap.size, 0, none⟩ = some (.slice (some ⟨bB, oB, none⟩) nB cB)) := fun wy hy => keep_below hy _ _ (blk_cell (j := 0) HX6.out.t rfl)
      have HCC : Hid (∀ wy, Below w6.heap.size w6 wy → wy.cell? ⟨bB, oB + i, none⟩ = some (.slice au xs.length cu')) := fun wy hy => keep_below hy _ _ (keep_below HX6.out.l _ _ HCU.out)
      have g1 : (i : Int) < (nB : Int) := by omega
      have hdd := HRD.out.d
      have g2 : ¬ (d : Int) < (tdepth v : Int) := by omega
      refine heldStart (S := fun wy => Below w6.heap.size w6 wy) (by kernel_rfl) ?_
      have hS : Below w6.heap.size w6 w6.drew := (Below.refl _ _).drew
      refine heldTake 0 _ rfl (by kernel_rfl) (by kernel_rfl) (by kernel_rfl) (fun _ _ _ h => h) rfl hS (fun wy hy => exec_valAt (g := w3.heap.size) (off := 0) (cs := c) rfl rfl HC13.out (HVS.out wy hy)) ?_
      (try simp only [Act.put]); (try simp only [List.setIfInBounds_toArray, List.set_cons_zero, List.set_cons_succ])
      refine heldStep 1 rfl (by kernel_rfl) (fun K hK => ?_)
      go_simp
      refine (rd8_check HRD.out _ c (HT6.out.move (keep_below hS)) (HTT.out.next (HX6.out.next hS).l)).mono ?_
      rintro e wn ⟨rfl, hbn⟩
      refine (Hid.out hK) _ _ (hS.trans (hbn.mono hS.size)) (fun hS2 => ?_)
      clear hK K hS
      have hS := hS2
      clear hS2
      (try simp only [Act.put]); (try simp only [List.setIfInBounds_toArray, List.set_cons_zero, List.set_cons_succ])
      clear hbn
      refine heldStep 2 rfl (by kernel_rfl) (fun K hK => ?_)
      go_simp
      refine (num8_any _ _).mono ?_
      rintro e wn2 ⟨rfl, rfl⟩
      refine (Hid.out hK) _ _ hS (fun hS2 => ?_)
      clear hK K hS
      have hS := hS2
      clear hS2
      (try simp only [Act.put]); (try simp only [List.setIfInBounds_toArray, List.set_cons_zero, List.set_cons_succ])
      refine heldTake 3 _ rfl (by kernel_rfl) (by kernel_rfl) (by kernel_rfl) (fun _ _ _ h => h) rfl hS (fun wy hy => by first | (go_simp; done) | (go_simp; rfl) | rfl) ?_
      (try simp only [Act.put]); (try simp only [List.setIfInBounds_toArray, List.set_cons_zero, List.set_cons_succ])
      refine heldTake 4 _ rfl (by kernel_rfl) (by kernel_rfl) (by kernel_rfl) (fun _ _ _ h => h) rfl hS (fun wy hy => by first | (go_simp; done) | (go_simp; rfl) | rfl) ?_
      (try simp only [Act.put]); (try simp only [List.setIfInBounds_toArray, List.set_cons_zero, List.set_cons_succ])
      refine heldTake 5 _ rfl (by kernel_rfl) (by kernel_rfl) (by kernel_rfl) (fun _ _ _ h => h) rfl hS (fun wy hy => exec_valAt (g := w3.heap.size) (off := 0) (cs := c) rfl rfl HC13.out (HVS.out wy hy)) ?_
      (try simp only [Act.put]); (try simp only [List.setIfInBounds_toArray, List.set_cons_zero, List.set_cons_succ])
      refine heldTake 7 _ rfl (by kernel_rfl) (by kernel_rfl) (by kernel_rfl) (fun _ _ _ h => h) rfl hS (fun wy hy => by first | (go_simp; done) | (go_simp; rfl) | rfl) ?_
      (try simp only [Act.put]); (try simp only [List.setIfInBounds_toArray, List.set_cons_zero, List.set_cons_succ])
      refine heldStep 6 rfl (by kernel_rfl) (fun K hK => ?_)
      go_simp
      refine (rd8_depth HRD.out HD4.out _ c (HT6.out.move (keep_below hS))).mono ?_
      rintro e wn3 ⟨rfl, hbn⟩
      refine (Hid.out hK) _ _ (hS.trans (hbn.mono hS.size)) (fun hS2 => ?_)
      clear hK K hS
      have hS := hS2
      clear hS2
      (try simp only [Act.put]); (try simp only [List.setIfInBounds_toArray, List.set_cons_zero, List.set_cons_succ])
      clear hbn
      refine heldTake 8 _ rfl (by kernel_rfl) (by kernel_rfl) (by kernel_rfl) (fun _ _ _ h => h) rfl hS (fun wy hy => by first | (go_simp; done) | (go_simp; rfl) | rfl) ?_
      (try simp only [Act.put]); (try simp only [List.setIfInBounds_toArray, List.set_cons_zero, List.set_cons_succ])
      refine heldTake 9 _ rfl (by kernel_rfl) (by kernel_rfl) (by kernel_rfl) (fun _ _ _ h => h) rfl hS (fun wy hy => by first | (go_simp; done) | (go_simp; rfl) | rfl) ?_
      (try simp only [Act.put]); (try simp only [List.setIfInBounds_toArray, List.set_cons_zero, List.set_cons_succ])
      refine heldTake 10 _ rfl (by kernel_rfl) (by kernel_rfl) (by kernel_rfl) (fun _ _ _ h => h) rfl hS (fun wy hy => by first | (go_simp; done) | (go_simp; rfl) | rfl) ?_
      (try simp only [Act.put]); (try simp only [List.setIfInBounds_toArray, List.set_cons_zero, List.set_cons_succ])
      refine heldTake 11 _ rfl (by kernel_rfl) (by kernel_rfl) (by kernel_rfl) (fun _ _ _ h => h) rfl hS (fun wy hy => by first | (go_simp; done) | (go_simp; rfl) | rfl) ?_
      (try simp only [Act.put]); (try simp only [List.setIfInBounds_toArray, List.set_cons_zero, List.set_cons_succ])
      refine heldStep 12 rfl (by kernel_rfl) (fun K hK => ?_)
      go_simp
      refine (num8_any _ _).mono ?_
      rintro e wn4 ⟨rfl, rfl⟩
      refine (Hid.out hK) _ _ hS (fun hS2 => ?_)
      clear hK K hS
      have hS := hS2
      clear hS2
      (try simp only [Act.put]); (try simp only [List.setIfInBounds_toArray, List.set_cons_zero, List.set_cons_succ])
      refine heldTake 13 _ rfl (by kernel_rfl) (by kernel_rfl) (by kernel_rfl) (fun _ _ _ h => h) rfl hS (fun wy hy => by first | (go_simp; done) | (go_simp; rfl) | rfl) ?_
      (try simp only [Act.put]); (try simp only [List.setIfInBounds_toArray, List.set_cons_zero, List.set_cons_succ])
      refine heldTake 14 _ rfl (by kernel_rfl) (by kernel_rfl) (by kernel_rfl) (fun _ _ _ h => h) rfl hS (fun wy hy => by first | (go_simp; done) | (go_simp; rfl) | rfl) ?_
      (try simp only [Act.put]); (try simp only [List.setIfInBounds_toArray, List.set_cons_zero, List.set_cons_succ])
      refine heldTake 15 _ rfl (by kernel_rfl) (by kernel_rfl) (by kernel_rfl) (fun _ _ _ h => h) rfl hS (fun wy hy => by first | (go_simp; done) | (go_simp; rfl) | rfl) ?_
      (try simp only [Act.put]); (try simp only [List.setIfInBounds_toArray, List.set_cons_zero, List.set_cons_succ])
      refine heldTake 16 _ rfl (by kernel_rfl) (by kernel_rfl) (by kernel_rfl) (fun _ _ _ h => h) rfl hS (fun wy hy => by first | (go_simp; done) | (go_simp; rfl) | rfl) ?_
      (try simp only [Act.put]); (try simp only [List.setIfInBounds_toArray, List.set_cons_zero, List.set_cons_succ])
      refine heldTake 17 _ rfl (by kernel_rfl) (by kernel_rfl) (by kernel_rfl) (fun _ _ _ h => h) rfl hS (fun wy hy => by have h0 := (HBV.out.move (keep_below hy)).text; first | (go_simp; done) | (go_simp; rfl) | rfl) ?_
      (try simp only [Act.put]); (try simp only [List.setIfInBounds_toArray, List.set_cons_zero, List.set_cons_succ])
      refine heldTake 18 _ rfl (by kernel_rfl) (by kernel_rfl) (by kernel_rfl) (fun _ _ _ h => h) rfl hS (fun wy hy => by first | (go_simp; done) | (go_simp; rfl) | rfl) ?_
      (try simp only [Act.put]); (try simp only [List.setIfInBounds_toArray, List.set_cons_zero, List.set_cons_succ])
      refine heldTake 19 _ rfl (by kernel_rfl) (by kernel_rfl) (by kernel_rfl) (fun _ _ _ h => h) rfl hS (fun wy hy => by have h0 := HP0.out wy hy; first | (go_simp; done) | (go_simp; rfl) | rfl) ?_
      (try simp only [Act.put]); (try simp only [List.setIfInBounds_toArray, List.set_cons_zero, List.set_cons_succ])
      refine heldTake 20 _ rfl (by kernel_rfl) (by kernel_rfl) (by kernel_rfl) (fun _ _ _ h => h) rfl hS (fun wy hy => by first | (go_simp; done) | (go_simp; rfl) | rfl) ?_
      (try simp only [Act.put]); (try simp only [List.setIfInBounds_toArray, List.set_cons_zero, List.set_cons_succ])
      refine heldTake 21 _ rfl (by kernel_rfl) (by kernel_rfl) (by kernel_rfl) (fun _ _ _ h => h) rfl hS (fun wy hy => by first | (go_simp; done) | (go_simp; rfl) | rfl) ?_
      (try simp only [Act.put]); (try simp only [List.setIfInBounds_toArray, List.set_cons_zero, List.set_cons_succ])
      refine heldTake 22 _ rfl (by kernel_rfl) (by kernel_rfl) (by kernel_rfl) (fun _ _ _ h => h) rfl hS (fun wy hy => by have h0 := HCC.out wy hy; first | (go_simp; done) | (go_simp; rfl) | rfl) ?_
      (try simp only [Act.put]); (try simp only [List.setIfInBounds_toArray, List.set_cons_zero, List.set_cons_succ])
      refine heldTake 23 _ rfl (by kernel_rfl) (by kernel_rfl) (by kernel_rfl) (fun _ _ _ h => h) rfl hS (fun wy hy => by have h0 := (HUV.out.move (keep_below hy)).text; first | (go_simp; done) | (go_simp; rfl) | rfl) ?_
      (try simp only [Act.put]); (try simp only [List.setIfInBounds_toArray, List.set_cons_zero, List.set_cons_succ])
      refine heldTake 24 _ rfl (by kernel_rfl) (by kernel_rfl) (by kernel_rfl) (fun _ _ _ h => h) rfl hS (fun wy hy => by first | (go_simp; done) | (go_simp; rfl) | rfl) ?_
      (try simp only [Act.put]); (try simp only [List.setIfInBounds_toArray, List.set_cons_zero, List.set_cons_succ])
      refine heldTake 25 _ rfl (by kernel_rfl) (by kernel_rfl) (by kernel_rfl) (fun _ _ _ h => h) rfl hS (fun wy hy => by first | (go_simp; done) | (go_simp; rfl) | rfl) ?_
      (try simp only [Act.put]); (try simp only [List.setIfInBounds_toArray, List.set_cons_zero, List.set_cons_succ])
      refine heldTake 26 _ rfl (by kernel_rfl) (by kernel_rfl) (by kernel_rfl) (fun _ _ _ h => h) rfl hS (fun wy hy => by first | (go_simp; done) | (go_simp; rfl) | rfl) ?_
      (try simp only [Act.put]); (try simp only [List.setIfInBounds_toArray, List.set_cons_zero, List.set_cons_succ])
      refine heldTake 27 _ rfl (by kernel_rfl) (by kernel_rfl) (by kernel_rfl) (fun _ _ _ h => h) rfl hS (fun wy hy => exec_valAt (g := w3.heap.size) (off := 0) (cs := c) rfl rfl HC13.out (HVS.out wy hy)) ?_
      (try simp only [Act.put]); (try simp only [List.setIfInBounds_toArray, List.set_cons_zero, List.set_cons_succ])
      refine heldTake 28 _ rfl (by kernel_rfl) (by kernel_rfl) (by kernel_rfl) (fun _ _ _ h => h) rfl hS (fun wy hy => exec_valAt (g := w3.heap.size) (off := 0) (cs := c) rfl rfl HC13.out (HVS.out wy hy)) ?_
      (try simp only [Act.put]); (try simp only [List.setIfInBounds_toArray, List.set_cons_zero, List.set_cons_succ])
      refine heldStep 29 rfl (by kernel_rfl) (fun K hK => ?_)
      go_simp
      refine (rd8_sorted HRD.out _ c (HT6.out.move (keep_below hS))).mono ?_
      rintro e wn5 ⟨c5, rfl, ht5, hbn⟩
      have HT5 := hide ht5
      refine (Hid.out hK) _ _ (hS.trans (hbn.mono hS.size)) (fun hS2 => ?_)
      clear hK K hS
      have hS := hS2
      clear hS2
      (try simp only [Act.put]); (try simp only [List.setIfInBounds_toArray, List.set_cons_zero, List.set_cons_succ])
      clear hbn ht5
      refine heldStep 30 rfl (by kernel_rfl) (fun K hK => ?_)
      go_simp
      refine (rd8_eq v _ c c5 (HT6.out.move (keep_below hS)) HT5.out).mono ?_
      rintro e wn6 ⟨rfl, hbn⟩
      refine (Hid.out hK) _ _ (hS.trans (hbn.mono hS.size)) (fun hS2 => ?_)
      clear hK K hS
      have hS := hS2
      clear hS2
      (try simp only [Act.put]); (try simp only [List.setIfInBounds_toArray, List.set_cons_zero, List.set_cons_succ])
      clear hbn
      refine heldTake 31 _ rfl (by kernel_rfl) (by kernel_rfl) (by kernel_rfl) (fun _ _ _ h => h) rfl hS (fun wy hy => by first | (go_simp; done) | (go_simp; rfl) | rfl) ?_
      (try simp only [Act.put]); (try simp only [List.setIfInBounds_toArray, List.set_cons_zero, List.set_cons_succ])
      refine heldTake 32 _ rfl (by kernel_rfl) (by kernel_rfl) (by kernel_rfl) (fun _ _ _ h => h) rfl hS (fun wy hy => by first | (go_simp; done) | (go_simp; rfl) | rfl) ?_
      (try simp only [Act.put]); (try simp only [List.setIfInBounds_toArray, List.set_cons_zero, List.set_cons_succ])
      refine heldDone (by kernel_rfl) ?_
      go_wp2_with fail
      exact ⟨⟨i + 1, A', by omega, by omega, HA2.out, rfl, by simp, HX6.out.next hS⟩, by simp [intOf]; omega⟩
end
end Go.Proofs.YtadilnmkjcmnnaaGreatDoor

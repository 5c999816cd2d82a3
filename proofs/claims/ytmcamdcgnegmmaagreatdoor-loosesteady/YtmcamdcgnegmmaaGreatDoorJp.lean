import Derived.Test.YtmcamdcgnegmmaaGreatDoorJo
import Derived.Test.YtmcamdcgnegmmaaGreatDoorJb
import Derived.Test.YtmcamdcgnegmmaaGreatDoorJe
import Derived.Test.YtmcamdcgnegmmaaGreatDoorJa
import Derived.Test.YtmcamdcgnegmmaaGreatDoorJj
set_option maxRecDepth 1000000
set_option maxHeartbeats 16000000
namespace Go.Proofs.YtmcamdcgnegmmaaGreatDoor
section
open Go.RowKit Go
structure Lsd (w wx : World) (vB vI : Value) : Prop where
  t : wx.heap[w.heap.size]? = some (.cells #[vB, vI] 25 (0, 0))
  l : Below w.heap.size w wx
theorem Lsd.next {w wx wy : World} {vB vI : Value} (h : Lsd w wx vB vI) (hb : Below wx.heap.size wx wy) : Lsd w wy vB vI :=
  ⟨(hb.block _ (blk_lt h.t)).trans h.t, h.l.trans (hb.mono h.l.size)⟩
theorem par_fault {w w' : World} {b : List Nat} {d : Int} {J : Nat} {e : Ending} (hJ : b.length + 1 ≤ J) (h : ParP w (lpars b d J) e w') : Below w.heap.size w w' ∧ ∃ c a n cp r, e = .returned (.tuple #[.agg c, .slice a n cp, flt9 r]) ∧ one13 c ∧ (r = lwhole b d J ∨ (lwhole b d J = (0, 0) ∧ r.1 = 95 ∧ r.2 < b.length)) := by
  obtain ⟨hb, ⟨x, c, vn, D, hx, rfl, hN, -, ho⟩ | ⟨f, hx, rfl⟩⟩ := h
  · obtain ⟨a, cp, hv, -⟩ := own_formG ho
    subst hv
    refine ⟨hb, c, _, _, _, (0, 0), rfl, hN.one, .inl ?_⟩
    unfold lpars at hx
    by_cases h0 : lwhole b d J = (0, 0)
    · exact h0.symm
    · rw [if_pos h0] at hx
      cases hx
  · refine ⟨hb, vz9, _, _, _, f, rfl, ⟨rfl, by simp [vz9, Value.oneCell']⟩, ?_⟩
    by_cases h0 : lwhole b d J = (0, 0)
    · rcases (pars_steady hJ).2 h0 with ⟨x, h1⟩ | ⟨q, h1, h2⟩
      · rw [h1] at hx
        cases hx
      · rw [h1] at hx
        injection hx with hx
        subst hx
        exact .inr ⟨h0, rfl, h2⟩
    · have h1 := (pars_steady hJ).1 h0
      rw [h1] at hx
      injection hx with hx
      exact .inl hx.symm
theorem whole_zero {b : List Nat} {d : Int} {J : Nat} (hJ : b.length + 1 ≤ J) (h : (lwhole b d J).1 = 0) : lwhole b d J = (0, 0) := by
  unfold lwhole at h ⊢
  by_cases hd : d < 0 ∨ 1024 < d
  · rw [if_pos hd] at h
    cases h
  · rw [if_neg hd] at h ⊢
    cases hs : lskip b d.toNat J (d.toNat + 1) 0 0 with
    | ok q =>
      rw [hs] at h
      dsimp only at h ⊢
      by_cases hq : q < b.length
      · rw [if_pos hq] at h
        cases h
      · rw [if_neg hq]
    | error e =>
      obtain ⟨c, q⟩ := e
      have h2 := (skip_ris b d.toNat J hJ (d.toNat + 1) 0 0 (Nat.zero_le _) (by omega) (Nat.zero_le _)).bad c q hs
      rw [hs] at h
      have h3 : c = 0 := h
      omega
theorem exec_nefltE9 {o : Oper} {a : Act} {x y : Operand} {T2 : TypeId} {e p : Nat} {w : World} (ho : o.op = .binOp .neq 31 x y T2) (hx : a.eval x = .agg (fcsL e p)) (hy : a.eval y = .agg (fcsL e p)) : (execOp a.eval o).run Tryz.prog w = .ok (.value (.bool false)) w := by
  have h := exec_nefltL (w := w) ho hx hy
  simpa using h
theorem exec_nefltT9 {o : Oper} {a : Act} {x y : Operand} {T2 : TypeId} {p : Nat} {w : World} (ho : o.op = .binOp .neq 31 x y T2) (hx : a.eval x = .agg (fcsL 95 p)) (hy : a.eval y = .agg (fcsL 0 0)) : (execOp a.eval o).run Tryz.prog w = .ok (.value (.bool true)) w := by
  have h := exec_nefltL (w := w) ho hx hy
  simpa using h
theorem lsteady_any (w : World) (hT : Tabs w) (vB vI : Value) (nB nI : Nat) (hB : RowsIn w vB nB) (hI : IntsIn w vI nI) (hRD : ∀ w1, Below w.heap.size w w1 → Calls Tryz.prog 10 #[] w1 fun e w' => e = .returned (.bool true) ∧ Below w1.heap.size w1 w') :
    Calls Tryz.prog 3 #[.agg #[vB, vI]] w fun e w' => e = .returned (.bool true) ∧ Below w.heap.size w w' := by
  have HTT := hide hT
  have HRB := hide hB
  have HRI := hide hI
  have HRD := hide hRD
  obtain ⟨⟨aB, cB, rfl, hq1, hq2⟩, hmB⟩ := hB
  obtain ⟨⟨aI, cI, rfl, hq3⟩, hmI⟩ := hI
  clear hq1 hq2 hq3 hT hRD
  have HX0 : Hid (Lsd w (w.alloc (.cells #[.slice aB nB cB, .slice aI nI cI] 25)) (.slice aB nB cB) (.slice aI nI cI)) := ⟨heap_alloc_new w _, below_alloc4 w _⟩
  go_enter Tryz.func3, Tryz.ntmps3
  go_upto_region 3 with fail
  generalize w.alloc (.cells #[.slice aB nB cB, .slice aI nI cI] 25) = w0 at *
  go_loopw [3, 4] (fun va vi wx => ∃ i A : Nat, i ≤ nB ∧ i ≤ 400 ∧ A ≤ 262144 ∧ va = .int .i64 (A : Nat) ∧ vi = .int .i64 (i : Nat) ∧ Hid (Lsd w wx (.slice aB nB cB) (.slice aI nI cI))) (fun _ vi _ => 400 - (intOf vi).toNat)
  case atStart => exact ⟨0, 0, by omega, by omega, by omega, rfl, rfl, HX0⟩
  case round =>
    obtain ⟨i, A, hi, hi4, hA, rfl, rfl, HX⟩ := hrel
    clear HX0
    have q0 : wr.cell? ⟨w.heap.size, 0, none⟩ = some (.slice aB nB cB) := blk_cell (j := 0) HX.out.t rfl
    have e0 : IntKind.i64.wrap ((i : Int) + 1) = (i : Int) + 1 := by rw [IntKind.wrap_i64]; omega
    by_cases hil : i + 1 < nB ∧ i < 400
    case neg => as_aux_lemma =>
      by_cases h1 : i + 1 < nB
      · have g1 : (i : Int) + 1 < (nB : Int) := by omega
        have g2 : ¬ (i : Int) < 400 := by omega
        clear hil h1 hi hi4
        go_wp2_with fail
        refine (HRD.out wr HX.out.l).mono ?_
        rintro e w2 ⟨rfl, hb2⟩
        have HB2 : Hid (Below w.heap.size w w2) := HX.out.l.trans (hb2.mono HX.out.l.size)
        clear hb2
        go_wp2_with fail
        go_ret
        exact ⟨rfl, HB2.out⟩
      · have g1 : ¬ (i : Int) + 1 < (nB : Int) := by omega
        clear hil h1 hi hi4
        go_wp2_with fail
        refine (HRD.out wr HX.out.l).mono ?_
        rintro e w2 ⟨rfl, hb2⟩
        have HB2 : Hid (Below w.heap.size w w2) := HX.out.l.trans (hb2.mono HX.out.l.size)
        clear hb2
        go_wp2_with fail
        go_ret
        exact ⟨rfl, HB2.out⟩
    obtain ⟨hil, hi400⟩ := hil
    have g1 : (i : Int) + 1 < (nB : Int) := by omega
    have g2 : (i : Int) < 400 := by omega
    have g4 : (i : Int) < (nB : Int) := by omega
    obtain ⟨bB, oB, rfl, hrB⟩ := rows_rowL HRB.out (by omega)
    obtain ⟨u, xs, hcu, hbu, hxl⟩ := hrB i (by omega)
    obtain ⟨u2, ys, hcu2, hbu2, hyl⟩ := hrB (i + 1) hil
    have cu : wr.cell? ⟨bB, oB + i, none⟩ = some u := keep_below HX.out.l _ _ hcu
    have cu2 : wr.cell? ⟨bB, oB + (i + 1), none⟩ = some u2 := keep_below HX.out.l _ _ hcu2
    have HCU := hide hcu
    have HCU2 := hide hcu2
    have HU := hide hbu
    have HU2 := hide hbu2
    obtain ⟨⟨au, cu', hvu, _, _⟩, _, _⟩ := hbu
    obtain ⟨⟨au2, cu2', hvu2, _, _⟩, _, _⟩ := hbu2
    subst hvu hvu2
    clear hrB hcu hcu2
    obtain ⟨A1, hA1⟩ : ∃ A1, A1 = A + xs.length := ⟨_, rfl⟩
    obtain ⟨A2, hA2⟩ : ∃ A2, A2 = A1 + ys.length := ⟨_, rfl⟩
    have e1 : IntKind.i64.wrap ((A : Int) + (xs.length : Int)) = (A1 : Int) := by rw [IntKind.wrap_i64]; omega
    have e2 : IntKind.i64.wrap ((A1 : Int) + (ys.length : Int)) = (A2 : Int) := by rw [IntKind.wrap_i64]; omega
    by_cases hbig : 262144 < A2
    · as_aux_lemma =>
      have g3 : (262144 : Int) < (A2 : Int) := by omega
      clear hbig hA1 hA2 hA hxl hyl
      go_wp2_with fail
      refine (HRD.out wr HX.out.l).mono ?_
      rintro e w2 ⟨rfl, hb2⟩
      have HB2 : Hid (Below w.heap.size w w2) := HX.out.l.trans (hb2.mono HX.out.l.size)
      clear hb2
      go_wp2_with fail
      go_ret
      exact ⟨rfl, HB2.out⟩
    have g3 : ¬ (262144 : Int) < (A2 : Int) := by omega
    have HL : Hid (xs.length + ys.length ≤ 262144) := by show _ ≤ _; omega
    have HA2 : Hid (A2 ≤ 262144) := by show _ ≤ _; omega
    clear hbig hA1 hA2 hA hxl hyl
    have q1 : wr.cell? ⟨w.heap.size, 1, none⟩ = some (.slice aI nI cI) := blk_cell (j := 1) HX.out.t rfl
    have HI4 : Hid (i ≤ 1000) := by show _ ≤ _; omega
    go_wp2_with fail
    refine (depth_anyL wr _ aI nI cI i (HRI.out.move (keep_below HX.out.l)) HI4.out).mono ?_
    rintro e w1 ⟨D, rfl, hb1⟩
    have HX1 := hide (HX.out.next hb1)
    clear hb1 q0 q1 cu cu2 HX g1 g2 g3 e1 e2 g4
    go_wp2_with fail
    refine (within_anyL D 1025 (by decide) (by decide) w1).mono ?_
    rintro e w1' ⟨d, hd, rfl, hww⟩
    have hww := hww.symm
    subst hww
    have HD := hide hd
    clear hd
    go_wp2_with fail
    refine (copy_any w1 _ xs (HU.out.move (keep_below HX1.out.l)) (by have := HL.out; omega)).mono ?_
    rintro e w2 ⟨v2, rfl, ho2, hb2⟩
    have HX2 := hide (HX1.out.next hb2)
    obtain ⟨J, hJ⟩ : ∃ J, J = (xs ++ ys).length + 1 := ⟨_, rfl⟩
    have HJ : Hid (J = (xs ++ ys).length + 1 ∧ xs.length + 1 ≤ J) := ⟨hJ, by rw [hJ, List.length_append]; omega⟩
    have HC2 := hide (whole9_any w2 v2 xs (BSl.own ho2 HU.out.byte) (by have := HL.out; omega) (d : Int) (by have := HD.out; omega) J HJ.out.2)
    clear ho2 hb2 HX1 hJ
    go_wp2_with fail
    refine HC2.out.mono ?_
    rintro e w3 ⟨rfl, hb3⟩
    have HX3 := hide (HX2.out.next hb3)
    obtain ⟨⟨fe, fp⟩, hf⟩ : ∃ f : Nat × Nat, lwhole xs d J = f := ⟨_, rfl⟩
    have HF := hide hf
    rw [hf, flt_fcs]
    dsimp only
    clear hb3 HX2 HC2 hf
    have hmk := one_mkL w3 (fcsL fe fp)
    have HN4 := hide (heap_alloc_new w3 (.cells zfL 31))
    have HI5 : Hid ((Tryz.prog.info? 31).map (·.size) = some (fcsL fe fp).size) := infoFL
    have HA4 := hide (fcs_allL fe fp)
    have HX4 := hide (HX3.out.next hmk.1)
    have HF4 := hide hmk.2
    clear hmk HX3
    go_upto_region 10 with (refine wpList_storeRow rfl rfl w3.heap.size zfL (fcsL fe fp) 31 rfl rfl HN4.out HI5.out rfl HA4.out ?_)
    (try simp only [Act.put]); (try simp only [LsA, Ls0, LsS])
    unfold zfL at HX4 HF4
    generalize (w3.alloc (.cells #[.int .i64 0, .int .i64 0] 31)).setRow w3.heap.size (fcsL fe fp) = w4 at *
    clear HN4 HI5 HA4
    have hbd : Below w4.heap.size w4 w4.drew := by
      refine Below.drew ?_
      exact Below.refl _ _
    have HX5 := hide (HX4.out.next hbd)
    have HF5 : Hid (w4.drew.heap[w3.heap.size]? = some (.cells (fcsL fe fp) 31 (0, 0))) := HF4
    refine heldStart (S := fun wy => wy.heap[w.heap.size]? = some (.cells #[.slice (some ⟨bB, oB, none⟩) nB cB, .slice aI nI cI] 25 (0, 0)) ∧ wy.cell? ⟨bB, oB + (i + 1), none⟩ = some (.slice au2 ys.length cu2')) (by kernel_rfl) ?_
    have hS : (w4.drew.heap[w.heap.size]? = some (.cells #[.slice (some ⟨bB, oB, none⟩) nB cB, .slice aI nI cI] 25 (0, 0)) ∧ w4.drew.cell? ⟨bB, oB + (i + 1), none⟩ = some (.slice au2 ys.length cu2')) := ⟨HX5.out.t, keep_below HX5.out.l _ _ HCU2.out⟩
    clear hbd HX4 HF4
    generalize w4.drew = w5 at *
    have g1 : (i : Int) + 1 < (nB : Int) := by omega
    have g5 : (0 : Int) ≤ (i : Int) + 1 := by omega
    refine heldTake 0 _ rfl (by kernel_rfl) (by kernel_rfl) (by kernel_rfl) (fun _ _ _ h => h) rfl hS (fun wy hy => by first | (go_simp; done) | (go_simp; rfl) | rfl) ?_
    (try simp only [Act.put]); (try simp only [LsA, Ls0, LsS])
    refine heldTake 2 _ rfl (by kernel_rfl) (by kernel_rfl) (by kernel_rfl) (fun _ _ _ h => h) rfl hS (fun wy hy => by first | (go_simp; done) | (go_simp; rfl) | rfl) ?_
    (try simp only [Act.put]); (try simp only [LsA, Ls0, LsS])
    refine heldTake 3 _ rfl (by kernel_rfl) (by kernel_rfl) (by kernel_rfl) (fun _ _ _ h => h) rfl hS (fun wy hy => by have h0 := blk_cell (j := 0) (v := .slice (some ⟨bB, oB, none⟩) nB cB) hy.1 rfl; first | (go_simp; done) | (go_simp; rfl) | rfl) ?_
    (try simp only [Act.put]); (try simp only [LsA, Ls0, LsS])
    refine heldTake 4 _ rfl (by kernel_rfl) (by kernel_rfl) (by kernel_rfl) (fun _ _ _ h => h) rfl hS (fun wy hy => by first | (go_simp; done) | (go_simp; rfl) | rfl) ?_
    (try simp only [Act.put]); (try simp only [LsA, Ls0, LsS])
    refine heldTake 5 _ rfl (by kernel_rfl) (by kernel_rfl) (by kernel_rfl) (fun _ _ _ h => h) rfl hS (fun wy hy => by first | (go_simp; done) | (go_simp; rfl) | rfl) ?_
    (try simp only [Act.put]); (try simp only [LsA, Ls0, LsS])
    refine heldTake 6 _ rfl (by kernel_rfl) (by kernel_rfl) (by kernel_rfl) (fun _ _ _ h => h) rfl hS (fun wy hy => by first | (go_simp; done) | (go_simp; rfl) | rfl) ?_
    (try simp only [Act.put]); (try simp only [LsA, Ls0, LsS])
    refine heldTake 7 _ rfl (by kernel_rfl) (by kernel_rfl) (by kernel_rfl) (fun _ _ _ h => h) rfl hS (fun wy hy => by have h0 := hy.2; first | (go_simp; done) | (go_simp; rfl) | rfl) ?_
    (try simp only [Act.put]); (try simp only [LsA, Ls0, LsS])
    refine heldStep 1 rfl (by kernel_rfl) (fun K1 hK1 => ?_)
    go_simp
    refine (copy_any w5 _ xs (HU.out.move (keep_below HX5.out.l)) (by have := HL.out; omega)).mono ?_
    rintro e w6 ⟨v6, rfl, ho6, hb6⟩
    have hX6 := HX5.out.next hb6
    have hS1 : (w6.heap[w.heap.size]? = some (.cells #[.slice (some ⟨bB, oB, none⟩) nB cB, .slice aI nI cI] 25 (0, 0)) ∧ w6.cell? ⟨bB, oB + (i + 1), none⟩ = some (.slice au2 ys.length cu2')) := ⟨hX6.t, keep_below hX6.l _ _ HCU2.out⟩
    refine (Hid.out hK1) _ _ hS1 (fun hS2 => ?_)
    clear hK1 K1 hS
    have hS := hS2
    clear hS2
    (try simp only [Act.put]); (try simp only [LsA, Ls0, LsS])
    clear hS1
    have HX6 := hide hX6
    have HF6 : Hid (w6.heap[w3.heap.size]? = some (.cells (fcsL fe fp) 31 (0, 0))) := (hb6.block _ (blk_lt HF5.out)).trans HF5.out
    have HO6 := hide ho6
    have HB6 := hide hb6
    clear hX6 ho6 hb6
    refine heldStep 8 rfl (by kernel_rfl) (fun K hK => ?_)
    refine step_append_bsl rfl (.tmp 53) (.tmp 59) rfl w5.heap.size _ xs.length xs rfl HO6.out _ ys rfl (HU2.out.move (keep_below HX6.out.l)) (by have := HL.out; omega) HB6.out.size ?_
    intro v7 w7 ho7 hg7
    have hb57 : Below w5.heap.size w5 w7 := HB6.out.grown hg7 HB6.out.size (fun q hq => (HO6.out.lt q hq).1)
    have hX7 := HX5.out.next hb57
    refine (Hid.out hK) _ _ ⟨hX7.t, keep_below hX7.l _ _ HCU2.out⟩ (fun hS2 => ?_)
    clear hK K hS hg7
    (try simp only [Act.put]); (try simp only [LsA, Ls0, LsS])
    refine heldTake 9 _ rfl (by kernel_rfl) (by kernel_rfl) (by kernel_rfl) (fun _ _ _ h => h) rfl hS2 (fun wy hy => by first | (go_simp; done) | (go_simp; rfl) | rfl) ?_
    (try simp only [Act.put]); (try simp only [LsA, Ls0, LsS])
    refine heldDone (by kernel_rfl) ?_
    clear hS2
    have HX7 := hide hX7
    have HF7 : Hid (w7.heap[w3.heap.size]? = some (.cells (fcsL fe fp) 31 (0, 0))) := (hb57.block _ (blk_lt HF5.out)).trans HF5.out
    have HAB : Hid (∀ x ∈ xs ++ ys, x < 256) := fun x hx => by
      rcases List.mem_append.1 hx with h | h
      · exact HU.out.byte x h
      · exact HU2.out.byte x h
    have HLL : Hid ((xs ++ ys).length ≤ 262144) := by show _ ≤ _; rw [List.length_append]; exact HL.out
    have HC7 := hide (whole9_any w7 v7 (xs ++ ys) (BSl.own ho7 HAB.out) (by have := HLL.out; omega) (d : Int) (by have := HD.out; omega) J (by have := HJ.out; omega))
    have HST := hide (whole_more xs ys (d : Int) J (by have := HJ.out; omega))
    clear hX7 hb57 ho7 HX5 HF5 HX6 HF6 HO6 HB6
    go_wp2_with fail
    refine HC7.out.mono ?_
    rintro e w8 ⟨rfl, hb8⟩
    have HX8 := hide (HX7.out.next hb8)
    have HF8 : Hid (w8.heap[w3.heap.size]? = some (.cells (fcsL fe fp) 31 (0, 0))) := (hb8.block _ (blk_lt HF7.out)).trans HF7.out
    obtain ⟨⟨ge, gp⟩, hg⟩ : ∃ f : Nat × Nat, lwhole (xs ++ ys) d J = f := ⟨_, rfl⟩
    have HSX : Hid ((fe = 0 → fp = 0 ∧ (ys ≠ [] → ge = 94 ∧ gp = xs.length)) ∧ (fe = 92 → ge ≠ 0 → fp ≤ gp) ∧ (fe ≠ 0 → fe ≠ 92 → ge = fe ∧ gp = fp)) := by
      have h := HST.out
      have hz := whole_zero (b := xs) (d := (d : Int)) HJ.out.2
      rw [HF.out, hg] at h
      rw [HF.out] at hz
      refine ⟨fun h1 => ?_, h.2.1, fun h1 h2 => ?_⟩
      · have h3 := hz h1
        injection h3 with h3 h4
        refine ⟨h4, fun hne => ?_⟩
        have h5 := h.1 (by rw [h3, h4]) hne
        injection h5 with h5 h6
        exact ⟨h5, h6⟩
      · have h3 := h.2.2 h1 h2
        injection h3 with h3 h4
        exact ⟨h3, h4⟩
    rw [hg, flt_fcs]
    dsimp only
    clear hb8 HX7 HF7 HC7 HST hg
    have hmk := one_mkL w8 (fcsL ge gp)
    have HN8 := hide (heap_alloc_new w8 (.cells zfL 31))
    have HI8 : Hid ((Tryz.prog.info? 31).map (·.size) = some (fcsL ge gp).size) := infoFL
    have HA8 := hide (fcs_allL ge gp)
    have HX9 := hide (HX8.out.next hmk.1)
    have HF9 := hide ((hmk.1.block _ (blk_lt HF8.out)).trans HF8.out)
    have HG9 := hide hmk.2
    clear hmk HX8 HF8
    go_upto_region 12 with (refine wpList_storeRow rfl rfl w8.heap.size zfL (fcsL ge gp) 31 rfl rfl HN8.out HI8.out rfl HA8.out ?_)
    (try simp only [Act.put]); (try simp only [LsA, Ls0, LsS])
    unfold zfL at HX9 HF9 HG9
    generalize (w8.alloc (.cells #[.int .i64 0, .int .i64 0] 31)).setRow w8.heap.size (fcsL ge gp) = w9 at *
    clear HN8 HI8 HA8
    have c70 : w9.cell? ⟨w3.heap.size, 0, none⟩ = some (.int .i64 (fe : Nat)) := blk_cell (j := 0) HF9.out rfl
    have c71 : w9.cell? ⟨w3.heap.size, 1, none⟩ = some (.int .i64 (fp : Nat)) := blk_cell (j := 1) HF9.out rfl
    have c90 : w9.cell? ⟨w8.heap.size, 0, none⟩ = some (.int .i64 (ge : Nat)) := blk_cell (j := 0) HG9.out rfl
    have c91 : w9.cell? ⟨w8.heap.size, 1, none⟩ = some (.int .i64 (gp : Nat)) := blk_cell (j := 1) HG9.out rfl
    have p0 : w9.cell? ⟨w.heap.size, 0, none⟩ = some (.slice (some ⟨bB, oB, none⟩) nB cB) := blk_cell (j := 0) HX9.out.t rfl
    have cy : w9.cell? ⟨bB, oB + (i + 1), none⟩ = some (.slice au2 ys.length cu2') := keep_below HX9.out.l _ _ HCU2.out
    go_wp2_with fail
    refine (num_anyL w9 _).mono ?_
    rintro e w9 ⟨rfl, rfl⟩
    simp only []
    go_step
    go_step
    go_step
    go_step
    go_cut [] from 67 to 99 (fun wx => wx = w9)
    case first =>
      by_cases h0 : fe = 0
      · as_aux_lemma =>
        have g0 : ((fe : Int) == 0) = true := beq_iff_eq.2 (by omega)
        by_cases ht : ys = []
        · as_aux_lemma =>
          have gt : ¬ (0 : Int) < (ys.length : Int) := by rw [ht]; decide
          have gt2 : decide (0 < ys.length) = false := by rw [ht]; rfl
          clear ht h0
          go_wp2_with fail
          go_meet
          case rel => rfl
        · as_aux_lemma =>
          obtain ⟨q1, q2⟩ := (HSX.out.1 h0).2 ht
          subst q1
          subst q2
          have htl : 0 < ys.length := List.length_pos_iff.2 ht
          have gt : (0 : Int) < (ys.length : Int) := by omega
          have gt2 : decide (0 < ys.length) = true := decide_eq_true htl
          clear ht h0 htl
          go_wp2_with (first
            | (refine wpList_execWL rfl (exec_fltAtL (g := w8.heap.size) (c := fcsL 94 xs.length) rfl rfl rfl HG9.out) ?_)
            | (refine wpList_execWL rfl (exec_nefltL (e := 94) (p := xs.length) (e' := 94) (p' := xs.length) rfl rfl rfl) ?_))
          go_meet
          case rel => rfl
      have g0 : ((fe : Int) == 0) = false := beq_eq_false_iff_ne.2 (by omega)
      by_cases h92 : fe = 92
      · have g92 : ((fe : Int) == 92) = true := beq_iff_eq.2 (by omega)
        by_cases hg0 : ge = 0
        · as_aux_lemma =>
          have gg : ((ge : Int) != 0) = false := by rw [bne_eq_false_iff_eq]; omega
          clear h92 h0 hg0
          go_wp2_with fail
          refine (num_anyL w9 _).mono ?_
          rintro e w9' ⟨rfl, hw9⟩
          have hw9 := hw9.symm
          subst hw9
          go_wp2_with fail
          go_meet
          case rel => rfl
        · as_aux_lemma =>
          have gg : ((ge : Int) != 0) = true := by rw [bne_iff_ne]; omega
          have hle := HSX.out.2.1 h92 hg0
          have gl : ¬ (gp : Int) < (fp : Int) := by omega
          have gl2 : decide (gp < fp) = false := decide_eq_false (by omega)
          clear h92 h0 hg0 hle
          go_wp2_with fail
          refine (num_anyL w9 _).mono ?_
          rintro e w9' ⟨rfl, hw9⟩
          have hw9 := hw9.symm
          subst hw9
          go_wp2_with fail
          go_meet
          case rel => rfl
      · as_aux_lemma =>
        have g92 : ((fe : Int) == 92) = false := beq_eq_false_iff_ne.2 (by omega)
        obtain ⟨q1, q2⟩ := HSX.out.2.2 h0 h92
        subst q1
        subst q2
        clear h0 h92
        go_wp2_with (first
          | (refine wpList_execWL rfl (exec_fltAtL (g := w8.heap.size) (c := fcsL ge gp) rfl rfl rfl HG9.out) ?_)
          | (refine wpList_execWL rfl (exec_fltAtL (g := w3.heap.size) (c := fcsL ge gp) rfl rfl rfl HF9.out) ?_)
          | (refine wpList_execWL rfl (exec_nefltL (e := ge) (p := gp) (e' := ge) (p' := gp) rfl rfl rfl) ?_))
        go_meet
        case rel => rfl
    have hcut := hcut.symm
    subst hcut
    clear HG9 c90 c91 c70 c71 p0 cy
    go_wp2_with fail
    refine (copy_any w9 _ xs (HU.out.move (keep_below HX9.out.l)) (by have := HL.out; omega)).mono ?_
    rintro e w10 ⟨v10, rfl, ho10, hb10⟩
    have HX10 := hide (HX9.out.next hb10)
    have HF10 : Hid (w10.heap[w3.heap.size]? = some (.cells (fcsL fe fp) 31 (0, 0))) := (hb10.block _ (blk_lt HF9.out)).trans HF9.out
    have HC10 := hide (parse9_any w10 v10 xs (BSl.own ho10 HU.out.byte) (HTT.out.next HX10.out.l) (by have := HL.out; omega) (d : Int) (by have := HD.out; omega) J HJ.out.2)
    clear ho10 hb10 HX9 HF9
    go_wp2_with fail
    refine HC10.out.mono ?_
    intro e w11 hP
    obtain ⟨hb11, c, an, nn, cn, ⟨he, hp⟩, rfl, h13, hr⟩ := par_fault HJ.out.2 hP
    have HRR : Hid ((he = fe ∧ hp = fp) ∨ (fe = 0 ∧ fp = 0 ∧ he = 95 ∧ hp < xs.length)) := by
      rw [HF.out] at hr
      rcases hr with hr | ⟨h1, h2, h3⟩
      · injection hr with h1 h2
        exact .inl ⟨h1, h2⟩
      · injection h1 with h4 h5
        exact .inr ⟨h4, h5, h2, h3⟩
    have HX11 := hide (HX10.out.next hb11)
    have HF11 : Hid (w11.heap[w3.heap.size]? = some (.cells (fcsL fe fp) 31 (0, 0))) := (hb11.block _ (blk_lt HF10.out)).trans HF10.out
    have HC13 := hide h13
    rw [flt_fcs]
    dsimp only
    clear hP hb11 h13 hr HX10 HF10 HC10
    have hgA := heap_alloc_new w11 (.cells #[.int .i64 0, .bool false, .bool false, .int .u64 0, .int .u64 0, .string ⟨#[]⟩, .slice none 0 0, .int .i64 0, .int .u64 0, .int .u64 0, .string ⟨#[]⟩, .slice none 0 0, .slice none 0 0] 41)
    obtain ⟨wA, hwA⟩ : ∃ wA, wA = w11.alloc (.cells #[.int .i64 0, .bool false, .bool false, .int .u64 0, .int .u64 0, .string ⟨#[]⟩, .slice none 0 0, .int .i64 0, .int .u64 0, .int .u64 0, .string ⟨#[]⟩, .slice none 0 0, .slice none 0 0] 41) := ⟨_, rfl⟩
    rw [← hwA] at hgA
    have hbA : Below w11.heap.size w11 wA := hwA ▸ below_alloc4 w11 _
    have hzA : wA.heap.size = w11.heap.size + 1 := by rw [hwA]; simp
    have hgB := heap_alloc_new wA (.cells zfL 31)
    obtain ⟨wB, hwB⟩ : ∃ wB, wB = wA.alloc (.cells zfL 31) := ⟨_, rfl⟩
    rw [← hwB, hzA] at hgB
    have hbB : Below wA.heap.size wA wB := hwB ▸ below_alloc4 wA _
    have HNV := hide ((hbB.block _ (blk_lt hgA)).trans hgA)
    have hkV := row_kp wB w11.heap.size c
    have HNF := hide ((hkV.block _ (blk_lt hgB) (by omega)).trans hgB)
    have hbW : Below w11.heap.size w11 ((wB.setRow w11.heap.size c).setRow (w11.heap.size + 1) (fcsL he hp)) := by
      have h1 := hbA.trans (hbB.mono hbA.size)
      have h2 := h1.trans (hkV.below h1.size (fun q e => by omega))
      exact h2.trans ((row_kp _ _ _).below h2.size (fun q e => by omega))
    have HX12 := hide (HX11.out.next hbW)
    have HF12 := hide ((hbW.block _ (blk_lt HF11.out)).trans HF11.out)
    have HG12 := hide (row_same (cs := fcsL he hp) HNF.out)
    have HIV : Hid ((Tryz.prog.info? 41).map (·.size) = some c.size) := by show _ = _; rw [HC13.out.1]; exact infoV13
    have HCA : Hid (c.all (·.oneCell') = true) := Array.all_eq_true.2 (fun i h => HC13.out.2 _ (by simp))
    have HCS : Hid ((#[.int .i64 0, .bool false, .bool false, .int .u64 0, .int .u64 0, .string ⟨#[]⟩, .slice none 0 0, .int .i64 0, .int .u64 0, .int .u64 0, .string ⟨#[]⟩, .slice none 0 0, .slice none 0 0] : Array Value).size = c.size) := by show _ = _; rw [HC13.out.1]; rfl
    have HIF : Hid ((Tryz.prog.info? 31).map (·.size) = some (fcsL he hp).size) := infoFL
    have HAF := hide (fcs_allL he hp)
    clear hgA hbA hzA hgB hbB hkV hbW HX11 HF11
    rw [hwA] at hwB
    subst hwB
    unfold zfL at HNV HNF HX12 HF12 HG12
    go_upto_region 22 with (first
      | (refine wpList_storeRow rfl rfl w11.heap.size #[.int .i64 0, .bool false, .bool false, .int .u64 0, .int .u64 0, .string ⟨#[]⟩, .slice none 0 0, .int .i64 0, .int .u64 0, .int .u64 0, .string ⟨#[]⟩, .slice none 0 0, .slice none 0 0] c 41 rfl rfl HNV.out HIV.out HCS.out HCA.out ?_)
      | (refine wpList_storeRow rfl rfl (w11.heap.size + 1) #[.int .i64 0, .int .i64 0] (fcsL he hp) 31 rfl rfl HNF.out HIF.out rfl HAF.out ?_))
    (try simp only [Act.put]); (try simp only [LsA, Ls0, LsS])
    generalize (((w11.alloc (.cells #[.int .i64 0, .bool false, .bool false, .int .u64 0, .int .u64 0, .string ⟨#[]⟩, .slice none 0 0, .int .i64 0, .int .u64 0, .int .u64 0, .string ⟨#[]⟩, .slice none 0 0, .slice none 0 0] 41)).alloc (.cells #[.int .i64 0, .int .i64 0] 31)).setRow w11.heap.size c).setRow (w11.heap.size + 1) (fcsL he hp) = w12 at *
    clear HNV HNF HIV HCA HCS HIF HAF hwA
    rcases HRR.out with ⟨h1, h2⟩ | ⟨h1, h2, h3, h4⟩
    · subst h1
      subst h2
      iterate 6 (first
        | go_skip
        | (go_big_may; (first
          | (refine wpList_execWL rfl (exec_fltAtL (g := w11.heap.size + 1) (c := fcsL he hp) rfl rfl rfl HG12.out) ?_)
          | (refine wpList_execWL rfl (exec_fltAtL (g := w3.heap.size) (c := fcsL he hp) rfl rfl rfl HF12.out) ?_)
          | (refine wpList_execWL rfl (exec_nefltE9 (e := he) (p := hp) rfl rfl rfl) ?_)))
        | go_values | go_guarded | go_step | go_upon | go_back)
      rename_i KZ hKZ
      with_reducible refine hKZ _ _ ?_
      clear hKZ KZ
      iterate 21 (with_reducible refine wpList_skip ?hw ?_; (case hw => kernel_rfl); (simp only [Act.put]); (simp only [LsA, Ls0, LsS]))
      go_wp2_with fail
      exact ⟨⟨i + 1, A2, by omega, by omega, HA2.out, rfl, by simp, HX12.out⟩, by simp [intOf]; omega⟩
    · subst h1
      subst h2
      subst h3
      have c120 : w12.cell? ⟨w11.heap.size + 1, 0, none⟩ = some (.int .i64 ((95 : Nat) : Int)) := blk_cell (j := 0) HG12.out rfl
      have c121 : w12.cell? ⟨w11.heap.size + 1, 1, none⟩ = some (.int .i64 (hp : Nat)) := blk_cell (j := 1) HG12.out rfl
      have gq : ¬ ((xs.length : Int) ≤ (hp : Int)) := by omega
      have gq2 : ¬ ((hp : Int) < 0) := by omega
      have gq3 : ¬ (xs.length ≤ hp) := by omega
      clear h4
      go_wp2_with (first
        | (refine wpList_execWL rfl (exec_fltAtL (g := w11.heap.size + 1) (c := fcsL 95 hp) rfl rfl rfl HG12.out) ?_)
        | (refine wpList_execWL rfl (exec_fltAtL (g := w3.heap.size) (c := fcsL 0 0) rfl rfl rfl HF12.out) ?_)
        | (refine wpList_execWL rfl (exec_nefltT9 (p := hp) rfl rfl rfl) ?_)
        | (refine wpList_execWL rfl (exec_nefltE9 (e := 0) (p := 0) rfl rfl rfl) ?_))
      refine (num_anyL w12 _).mono ?_
      rintro e w12' ⟨rfl, hw12⟩
      have hw12 := hw12.symm
      subst hw12
      go_wp2_with fail
      exact ⟨⟨i + 1, A2, by omega, by omega, HA2.out, rfl, by simp, HX12.out⟩, by simp [intOf]; omega⟩
end
section
open Go.RowKit Go
theorem bad6_any (s : ByteArray) (w : World) (hs : s.size ≤ 140737488351232) (hT : Tabs w) : Calls Tryz.prog 130 #[.string s] w fun e w' => e = .returned (.bool (badb s)) ∧ Below w.heap.size w w' := by
  have cV : Calls Tryz.prog 145 #[.string s] w fun e w' => e = .returned (.bool (Lib.validD s.data.toList)) ∧ Below w.heap.size w w' := Any.utf8_ValidString Tryz.laysValid s w (by omega) hT
  have HV := hide cV
  unfold badb
  clear cV hT
  generalize Lib.validD s.data.toList = V at *
  go_enter Tryz.func130, Tryz.ntmps130
  go_wp2_with fail
  refine (Hid.out HV).mono ?_
  rintro e w1 ⟨rfl, hb1⟩
  have HB1 := hide hb1
  clear hb1 HV
  go_wp2_with fail
  go_ret
  exact ⟨rfl, HB1.out⟩
theorem indexFunc_any (w : World) (v : Value) (ks : List ByteArray) (hv : SSl w v ks) (hT : Tabs w) : Calls Tryz.prog 146 #[v, .func (.func 130) #[] #[]] w fun e w' => ∃ r : Int, e = .returned (.int .i64 r) ∧ decide (0 ≤ r) = ks.any badb ∧ Below w.heap.size w w' := by
  have HSZ := hide hv.size
  have HT := hide hT
  obtain ⟨⟨a, cap, rfl, _, hc⟩, hmax, _⟩ := hv
  have HC := hide hc
  clear hc hT
  go_enter Tryz.func146, Tryz.ntmps146
  go_wp2_with fail
  go_loopw [8] (fun ii wx => ∃ i : Nat, i ≤ ks.length ∧ ii = .int .i64 (i : Nat) ∧ Hid (∀ j s, j < i → ks[j]? = some s → badb s = false) ∧ Hid (Below w.heap.size w wx)) (fun ii _ => ks.length - (intOf ii).toNat)
  case atStart => exact ⟨0, by omega, rfl, fun j s hj => absurd hj (by omega), Below.refl _ _⟩
  case round =>
    obtain ⟨i, hi, rfl, HI, HBw⟩ := hrel
    by_cases hlt : i < ks.length
    · as_aux_lemma =>
      have g1 : (i : Int) < (ks.length : Int) := by omega
      obtain ⟨s, hs⟩ : ∃ s, ks[i]? = some s := ⟨ks[i], List.getElem?_eq_getElem hlt⟩
      obtain ⟨b, off, rfl, hcc⟩ := HC.out.resolve_left (fun h => by rw [h] at hlt; simp at hlt)
      have c1 := keep_below HBw.out _ _ (hcc i s hs)
      have HCA := hide (bad6_any s wr (HSZ.out s (List.mem_of_getElem? hs)) (HT.out.next HBw.out))
      have HS1 := hide hs
      clear hcc hs HC
      go_wp2_with fail
      refine HCA.out.mono ?_
      rintro e w1 ⟨rfl, hb1⟩
      have HB1 : Hid (Below w.heap.size w w1) := HBw.out.trans (hb1.mono HBw.out.size)
      clear hb1 HCA c1
      rcases Bool.eq_false_or_eq_true (badb s) with hr | hr
      · have HA : Hid (ks.any badb = true) := List.any_eq_true.2 ⟨s, List.mem_of_getElem? HS1.out, hr⟩
        rw [hr]
        go_wp2_with fail
        go_ret
        exact ⟨_, rfl, by rw [HA.out, decide_eq_true (by omega)], HB1.out⟩
      · have HI2 : Hid (∀ j s, j < i + 1 → ks[j]? = some s → badb s = false) := fun j s' hj h1 => by
          by_cases hji : j = i
          · subst hji
            rw [HS1.out] at h1
            injection h1 with h1
            rw [← h1]
            exact hr
          · exact HI.out j s' (by omega) h1
        rw [hr]
        clear hr HS1 HI
        go_wp2_with fail
        go_roundw
        case rel => exact ⟨i + 1, by omega, by go_num, HI2, HB1⟩
        case measure => simp [intOf]; omega
    · as_aux_lemma =>
      have g1 : ¬ (i : Int) < (ks.length : Int) := by omega
      have HA : Hid (ks.any badb = false) := by
        show _ = _
        rw [List.any_eq_false]
        intro s hs
        obtain ⟨j, hj, e⟩ := List.getElem_of_mem hs
        have h := HI.out j s (by omega) (by rw [List.getElem?_eq_getElem hj, e])
        rw [h]
        simp
      go_wp2_with fail
      go_ret
      exact ⟨_, rfl, by rw [HA.out]; rfl, HBw.out⟩
theorem containsFunc_any (w : World) (v : Value) (ks : List ByteArray) (hv : SSl w v ks) (hT : Tabs w) : Calls Tryz.prog 131 #[v, .func (.func 130) #[] #[]] w fun e w' => e = .returned (.bool (ks.any badb)) ∧ Below w.heap.size w w' := by
  have HX := hide (indexFunc_any w v ks hv hT)
  obtain ⟨⟨a, cap, rfl, _, hc⟩, hmax, _⟩ := hv
  clear hc hT
  go_enter Tryz.func131, Tryz.ntmps131
  go_wp2_with fail
  refine HX.out.mono ?_
  rintro e w1 ⟨r, rfl, hr, hb1⟩
  have HR := hide hr
  have HB1 := hide hb1
  clear hr hb1 HX
  go_wp2_with fail
  go_ret
  exact ⟨by rw [← HR.out]; rfl, HB1.out⟩
end
section
open Go.RowKit Go
theorem tmuchL_mem : ∀ {l : List Tv} {t : Tv}, t ∈ l → tmuch t ≤ tmuchL l
  | [], _, h => by cases h
  | u :: r, t, h => by
    rw [tmuchL]
    rcases List.mem_cons.1 h with h | h
    · subst h
      omega
    · have := tmuchL_mem h
      omega
theorem tmuchL_len : ∀ l : List Tv, l.length ≤ tmuchL l
  | [] => by simp
  | u :: r => by
    have := tmuchL_len r
    have := tmuch_eq u
    rw [tmuchL, List.length_cons]
    omega
end
section
open Go.RowKit Go
theorem setv (t : Tv) (vy vk vi x : Value) : (vcs t vy vk vi).setIfInBounds 6 x = vcs t x vk vi ∧ (vcs t vy vk vi).setIfInBounds 11 x = vcs t vy x vi ∧ (vcs t vy vk vi).setIfInBounds 12 x = vcs t vy vk x := ⟨rfl, rfl, rfl⟩
end
section
open Go.RowKit Go
theorem Tin.all1 {w : World} {t : Tv} {c : Array Value} (h : Tin w t c) : c.all (·.oneCell') = true := by
  obtain ⟨vy, vk, vi, rfl, hy, hk, hv, _⟩ := h.parts
  obtain ⟨⟨ay, cy, rfl, _, _⟩, _⟩ := hy
  obtain ⟨⟨ak, ck, rfl, _, _⟩, _, _⟩ := hk
  obtain ⟨⟨ai, ci, rfl, _, _⟩, _⟩ := hv
  kernel_rfl
theorem Tin.size13 {w : World} {t : Tv} {c : Array Value} (h : Tin w t c) : c.size = 13 := by
  obtain ⟨vy, vk, vi, rfl, _⟩ := h.parts
  rfl
structure Itm (w wi : World) (c : Array Value) : Prop where
  b : Below w.heap.size w wi
  r : wi.heap[w.heap.size]? = some (.cells c 41 (0, 0))
  z : wi.heap.size = w.heap.size + 1
theorem itm_mk (w : World) (c : Array Value) : Itm w ((w.alloc (.cells zv 41)).setRow w.heap.size c) c := by
  have h0 := heap_alloc_new w (.cells zv 41)
  have hk := row_kp (w.alloc (.cells zv 41)) w.heap.size c
  refine ⟨(below_alloc4 w _).trans (hk.below (by simp) (fun q e => by omega)), row_same h0, ?_⟩
  simp [World.setRow]
theorem Itm.cells {w wi : World} {c : Array Value} (h : Itm w wi c) : ∀ j u, c[j]? = some u → wi.cell? ⟨w.heap.size, 0 + j, none⟩ = some u := fun j u hu => by
  rw [Nat.zero_add]
  exact blk_cell h.r hu

theorem nests_any (t : Tv) (w : World) (cs : Array Value) (ht : Tin w t cs) : Calls Tryz.prog 128 #[.agg cs] w fun e w' => e = .returned (.bool (decide (t.k = 8 ∨ t.k = 9))) ∧ Below w.heap.size w w' := by
  obtain ⟨vy, vk, vi, rfl, hy, hk, hv, hb⟩ := ht.parts
  obtain ⟨⟨ay, cy, rfl, _, _⟩, _⟩ := hy
  obtain ⟨⟨ak, ck, rfl, _, _⟩, _, _⟩ := hk
  obtain ⟨⟨ai, ci, rfl, _, _⟩, _⟩ := hv
  clear ht hb
  unfold vcs
  have HB0 := hide (below_alloc4 w (.cells #[.int .i64 t.k, .bool t.f, .bool t.g, .int .u64 (t.n : Nat), .int .u64 (t.b : Nat), .string t.s, .slice ay t.y.length cy, .int .i64 t.l.v, .int .u64 (t.l.c : Nat), .int .u64 (t.l.h : Nat), .string (nstr t.l.d), .slice ak t.ks.length ck, .slice ai t.is.length ci] 41))
  go_enter Tryz.func128, Tryz.ntmps128
  by_cases h8 : t.k = 8
  · as_aux_lemma =>
    have g8 : (t.k == 8) = true := by rw [h8]; rfl
    have HR : Hid (decide (t.k = 8 ∨ t.k = 9) = true) := decide_eq_true (.inl h8)
    clear h8
    go_wp2_with fail
    go_ret
    exact ⟨by rw [HR.out]; rfl, HB0.out⟩
  · have g8 : (t.k == 8) = false := by simpa using h8
    by_cases h9 : t.k = 9
    · as_aux_lemma =>
      have g9 : (t.k == 9) = true := by rw [h9]; rfl
      have HR : Hid (decide (t.k = 8 ∨ t.k = 9) = true) := decide_eq_true (.inr h9)
      clear h8 h9
      go_wp2_with fail
      go_ret
      exact ⟨by rw [HR.out]; rfl, HB0.out⟩
    · as_aux_lemma =>
      have g9 : (t.k == 9) = false := by simpa using h9
      have HR : Hid (decide (t.k = 8 ∨ t.k = 9) = false) := decide_eq_false (fun h => h.elim h8 h9)
      clear h8 h9
      go_wp2_with fail
      go_ret
      exact ⟨by rw [HR.out]; rfl, HB0.out⟩
end
section
open Go.RowKit Go
theorem lk_in {w : World} {g : Nat} {t : Tv} {vy vk vi : Value} (h : w.heap[g]? = some (.cells (vcs t vy vk vi) 41 (0, 0))) {j : Nat} {u : Value} (hu : (lcs t.l)[j]? = some u) : w.cell? ⟨g, 7 + j, none⟩ = some u := by
  refine blk_cell h ?_
  match j, hu with
  | 0, hu => exact hu
  | 1, hu => exact hu
  | 2, hu => exact hu
  | 3, hu => exact hu
  | j + 4, hu => simp [lcs] at hu
end
section
open Go.RowKit Go

end
section
open Go.RowKit Go

end
section
open Go.RowKit Go
theorem nstr_eq {xs : List Nat} {S : ByteArray} (h : ∀ x ∈ xs, x < 256) : ((nstr xs).toList == S.toList) = decide (xs = sl S) := by
  by_cases e : xs = sl S
  · rw [e, nstr_sl]
    simp
  · rw [decide_eq_false e]
    refine beq_eq_false_iff_ne.2 fun h2 => e (nstr_inj h (sl_byte S) ?_)
    rw [nstr_sl]
    exact h2
end
section
open Go.RowKit Go
theorem str_bne (s t : ByteArray) : (s.toList != t.toList) = !decide (s = t) := by
  have h := nstr_eq (S := t) (sl_byte s)
  rw [nstr_sl] at h
  unfold bne
  rw [h]
  congr 1
  by_cases e : s = t
  · rw [e]; simp
  · have e2 : sl s ≠ sl t := fun h2 => e (by rw [← nstr_sl s, h2, nstr_sl])
    simp [e, e2]
end
section
open Go.RowKit Go

end
section
open Go.RowKit Go
theorem str_beq_no {s t : ByteArray} (he : s ≠ t) : (s.toList == t.toList) = false := by
  have h := str_bne s t
  simp [he] at h
  exact beq_eq_false_iff_ne.2 h
end
section
open Go.RowKit Go
def Tv.zr (t : Tv) : Tv :=
  if t.k = 2 then .mk t.k false t.g t.n t.b t.s t.y t.l t.ks t.is
  else if t.k = 3 then .mk t.k t.f false 0 t.b t.s t.y t.l t.ks t.is
  else if t.k = 4 then .mk t.k t.f t.g t.n 0 t.s t.y t.l t.ks t.is
  else if t.k = 5 then .mk t.k t.f t.g t.n t.b ⟨#[]⟩ t.y t.l t.ks t.is
  else if t.k = 6 then .mk t.k t.f t.g t.n t.b t.s [] t.l t.ks t.is
  else if t.k = 7 then .mk t.k t.f t.g t.n t.b t.s t.y ⟨0, 0, 0, []⟩ t.ks t.is
  else if t.k = 8 then .mk t.k t.f t.g t.n t.b t.s t.y t.l t.ks []
  else if t.k = 9 then .mk t.k t.f t.g t.n t.b t.s t.y t.l [] []
  else t
def Tv.cl (t : Tv) : Bool := !t.f && (!t.g && (decide (t.n = 0) && (decide (t.b = 0) && (decide (t.s = ⟨#[]⟩) && (decide (t.l = ⟨0, 0, 0, []⟩) && (decide (t.y = []) && (decide (t.ks = []) && t.is.isEmpty)))))))
def tidyf (t : Tv) : Bool := decide (1 ≤ t.k ∧ t.k ≤ 9) && t.zr.cl
def onef (t : Tv) (a : Nat) : Nat :=
  if (t.k = 8 ∨ t.k = 9) ∧ 1024 ≤ a then 60
  else if tidyf t = false then 61
  else if finb t.b = false then 62
  else if (badb t.s || t.ks.any badb) = true then 63
  else if t.k = 7 ∧ ¬ lok t.l then 64
  else if t.k = 9 ∧ ¬ (t.ks.length = t.is.length ∧ t.ks.Nodup) then 65
  else 0
mutual
def chkf : Tv → Nat → Nat
  | .mk k f g n b s y l ks is, a => if onef (.mk k f g n b s y l ks is) a = 0 then chkL is (a + 1) else onef (.mk k f g n b s y l ks is) a
def chkL : List Tv → Nat → Nat
  | [], _ => 0
  | t :: r, a => if chkf t a = 0 then chkL r a else chkf t a
end
theorem chkf_eq (t : Tv) (a : Nat) : chkf t a = if onef t a = 0 then chkL t.is (a + 1) else onef t a := by
  obtain ⟨k, f, g, n, b, s, y, l, ks, is⟩ := t
  rw [chkf]
  rfl
theorem chkL_none : ∀ {l : List Tv} {a : Nat}, (∀ u ∈ l, chkf u a = 0) → chkL l a = 0
  | [], _, _ => by rw [chkL]
  | t :: r, a, h => by
    rw [chkL, if_pos (h t (List.mem_cons_self ..))]
    exact chkL_none (fun u hu => h u (List.mem_cons_of_mem _ hu))
theorem chkL_at : ∀ {l : List Tv} {a i : Nat} {u : Tv}, (∀ j v, j < i → l[j]? = some v → chkf v a = 0) → l[i]? = some u → chkf u a ≠ 0 → chkL l a = chkf u a
  | [], _, _, _, _, h, _ => by simp at h
  | t :: r, a, 0, u, _, h, hn => by
    simp at h
    subst h
    rw [chkL, if_neg hn]
  | t :: r, a, i + 1, u, h0, h, hn => by
    rw [chkL, if_pos (h0 0 t (by omega) rfl)]
    exact chkL_at (i := i) (fun j v hj hv => h0 (j + 1) v (by omega) (by simpa using hv)) (by simpa using h) hn
end
end Go.Proofs.YtmcamdcgnegmmaaGreatDoor

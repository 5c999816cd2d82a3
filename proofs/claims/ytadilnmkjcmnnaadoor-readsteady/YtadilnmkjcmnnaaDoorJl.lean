import Derived.Test.YtadilnmkjcmnnaaDoorJk
import Derived.SliceStrings
import Derived.Lib.SmallJoins
import Derived.Test.YtadilnmkjcmnnaaDoorRows
import Derived.Lib.LaidU8T
import Derived.Lib.LaidIn
namespace Go.Proofs.YtadilnmkjcmnnaaDoor
section
open Go.RowKit Go
/-- Where ReadSteady stands: its argument. -/
structure Std8 (w wx : World) (vB vT : Value) (D E : Int) : Prop where
  b : Below w.heap.size w wx
  p : wx.heap[w.heap.size]? = some (.cells #[vB, vT, .int .i64 D, .int .i64 E] 24 (0, 0))
theorem Std8.next {w wx wy : World} {vB vT : Value} {D E : Int} (h : Std8 w wx vB vT D E) (hb : Below wx.heap.size wx wy) : Std8 w wy vB vT D E :=
  ⟨h.b.trans (hb.mono h.b.size), (hb.block _ (blk_lt h.p)).trans h.p⟩
theorem drop_nd (b : List Nat) (hb : ∀ x ∈ b, x < 256) (p : Nat) : (hrd (b.drop p)).n < 18446744073709551616 := (hrd_bd _ (fun x hx => hb x (List.mem_of_mem_drop hx))).1
theorem mrun_some (b : List Nat) (hb : ∀ x ∈ b, x < 256) (d : Nat) : ∃ r, mrun b d (mmu b m0 + 1) m0 = some r := mrun_ends (drop_nd b hb) _ (Inv8.start b d) (Nat.lt_succ_self _)
theorem own_bq {w : World} {B n : Nat} {v : Value} {xs : List Nat} (h : w.ownsRow B 5 1 v n (bv xs)) (q : Nat) (hq : v.ownBlock = some q) : q < w.heap.size := (h.lt q hq).2
theorem own_empty8 (w : World) : (w.alloc (.cells #[] 5)).ownsRow w.heap.size 5 1 (.slice (some ⟨w.heap.size, 0, none⟩) 0 0) 0 (bv []) :=
  ⟨rfl, .inr ⟨w.heap.size, 0, _, rfl, Nat.le_refl _, heap_alloc_new w _, Nat.le_refl _, by decide, rfl, rfl⟩⟩
set_option maxRecDepth 1000000 in
set_option maxHeartbeats 8000000 in
theorem rsteady_any (w : World) (hT : Tabs w) (vB vT : Value) (bs ts : List Nat) (D E : Int) (hB : BSl w vB bs) (hTl : BSl w vT ts) (hbl : bs.length ≤ 140737488351232) (htl : ts.length ≤ 140737488351232) :
    Calls Tryd.prog 3 #[.agg #[vB, vT, .int .i64 D, .int .i64 E]] w fun e w' => e = .returned (.bool true) ∧ Below w.heap.size w w' := by
  have HT := hide hT
  have HB := hide hB
  have HTL := hide hTl
  have HBb := hide hB.byte
  have HTb := hide hTl.byte
  have HS1 : Hid (Std8 w (w.alloc (.cells #[vB, vT, .int .i64 D, .int .i64 E] 24)) vB vT D E) := ⟨below_alloc4 w _, heap_alloc_new w _⟩
  obtain ⟨⟨aB, cB, hvB, _, _⟩, _, _⟩ := hB
  obtain ⟨⟨aT, cT, hvT, _, _⟩, _, _⟩ := hTl
  subst hvB
  subst hvT
  have e1 : IntKind.i64.wrap ((bs.length : Int) + (ts.length : Int)) = (bs.length : Int) + (ts.length : Int) := by rw [IntKind.wrap_i64]; omega
  clear hT
  go_enter Tryd.func3, Tryd.ntmps3
  go_upto_region 1 with fail
  generalize w.alloc (.cells #[.slice aB bs.length cB, .slice aT ts.length cT, .int .i64 D, .int .i64 E] 24) = w1 at *
  have c0 : w1.cell? ⟨w.heap.size, 0, none⟩ = some (.slice aB bs.length cB) := blk_cell (j := 0) HS1.out.p rfl
  have c1 : w1.cell? ⟨w.heap.size, 1, none⟩ = some (.slice aT ts.length cT) := blk_cell (j := 1) HS1.out.p rfl
  by_cases hbig : 1048576 < bs.length + ts.length
  · as_aux_lemma =>
    have g1 : (1048576 : Int) < (bs.length : Int) + (ts.length : Int) := by omega
    clear hbig
    go_wp2_with fail
    refine (reads8_any w HT.out w1 HS1.out.b).mono ?_
    rintro e w2 ⟨rfl, hb2⟩
    have HB2 : Hid (Below w.heap.size w w2) := HS1.out.b.trans (hb2.mono HS1.out.b.size)
    clear hb2 c0 c1
    go_wp2_with fail
    go_ret
    exact ⟨rfl, HB2.out⟩
  have g1 : ¬ (1048576 : Int) < (bs.length : Int) + (ts.length : Int) := by omega
  have c2 : w1.cell? ⟨w.heap.size, 2, none⟩ = some (.int .i64 D) := blk_cell (j := 2) HS1.out.p rfl
  have HLB : Hid (bs.length ≤ 1048576) := by show _ ≤ _; omega
  have HLT : Hid (ts.length ≤ 1048576) := by show _ ≤ _; omega
  clear hbig hbl htl
  go_wp2_with fail
  refine (within8_any D 1025 (by decide) (by decide) w1).mono ?_
  rintro e w1' ⟨d, hd, rfl, hww⟩
  have hww := hww.symm
  subst hww
  have HD := hide hd
  clear hd g1 e1 c2
  go_wp2_with fail
  refine (copy_any w1 _ bs (HB.out.move (keep_below HS1.out.b)) (by have := HLB.out; omega)).mono ?_
  rintro e w2 ⟨v2, rfl, ho2, hb2⟩
  have HS2 := hide (HS1.out.next hb2)
  obtain ⟨R, hR⟩ := mrun_some bs HBb.out d
  have HR := hide hR
  have HC2 := hide (check8_any w HT.out w2 HS2.out.b v2 bs (BSl.own ho2 HBb.out) (own_bq ho2) (by have := HLB.out; omega) d (by have := HD.out; omega) _ R hR)
  clear ho2 hb2 hR HS1 c0 c1
  go_wp2_with fail
  refine HC2.out.mono ?_
  rintro e w3 ⟨hb3, rfl⟩
  have HS3 := hide (HS2.out.next hb3)
  obtain ⟨⟨fe, fp⟩, hf⟩ : ∃ f : Nat × Nat, dflt bs R = f := ⟨_, rfl⟩
  have HF := hide hf
  rw [hf]
  simp only
  clear hb3 HS2 HC2 hf
  have hmk := one_mk8 w3 (fcs fe fp)
  have HN4 := hide (heap_alloc_new w3 (.cells zf 29))
  have HI4 : Hid ((Tryd.prog.info? 29).map (·.size) = some (fcs fe fp).size) := infoF8
  have HA4 := hide (fcs_all fe fp)
  have HS4 := hide (HS3.out.next hmk.1)
  have HF4 := hide hmk.2
  clear hmk HS3
  go_upto_region 5 with (refine wpList_storeRow rfl rfl w3.heap.size zf (fcs fe fp) 29 rfl rfl HN4.out HI4.out rfl HA4.out ?_)
  (try simp only [Act.put]); (try simp only [List.setIfInBounds_toArray, List.set_cons_zero, List.set_cons_succ])
  unfold zf at HS4 HF4
  generalize (w3.alloc (.cells #[.int .i64 0, .int .i64 0] 29)).setRow w3.heap.size (fcs fe fp) = w4 at *
  clear HN4 HI4 HA4
  refine heldStart (S := fun wy => wy.heap[w.heap.size]? = some (.cells #[.slice aB bs.length cB, .slice aT ts.length cT, .int .i64 D, .int .i64 E] 24 (0, 0))) (by kernel_rfl) ?_
  have hS : w4.drew.heap[w.heap.size]? = some (.cells #[.slice aB bs.length cB, .slice aT ts.length cT, .int .i64 D, .int .i64 E] 24 (0, 0)) := HS4.out.p
  refine heldTake 1 _ rfl (by kernel_rfl) (by kernel_rfl) (by kernel_rfl) (fun _ _ _ h => h) rfl hS (fun wy hy => by first | (go_simp; done) | (go_simp; rfl) | rfl) ?_
  (try simp only [Act.put]); (try simp only [List.setIfInBounds_toArray, List.set_cons_zero, List.set_cons_succ])
  refine heldTake 2 _ rfl (by kernel_rfl) (by kernel_rfl) (by kernel_rfl) (fun _ _ _ h => h) rfl hS (fun wy hy => by have h0 := blk_cell (j := 0) (v := .slice aB bs.length cB) hy rfl; first | (go_simp; done) | (go_simp; rfl) | rfl) ?_
  (try simp only [Act.put]); (try simp only [List.setIfInBounds_toArray, List.set_cons_zero, List.set_cons_succ])
  refine heldTake 4 _ rfl (by kernel_rfl) (by kernel_rfl) (by kernel_rfl) (fun _ _ _ h => h) rfl hS (fun wy hy => by first | (go_simp; done) | (go_simp; rfl) | rfl) ?_
  (try simp only [Act.put]); (try simp only [List.setIfInBounds_toArray, List.set_cons_zero, List.set_cons_succ])
  refine heldTake 5 _ rfl (by kernel_rfl) (by kernel_rfl) (by kernel_rfl) (fun _ _ _ h => h) rfl hS (fun wy hy => by have h0 := blk_cell (j := 1) (v := .slice aT ts.length cT) hy rfl; first | (go_simp; done) | (go_simp; rfl) | rfl) ?_
  (try simp only [Act.put]); (try simp only [List.setIfInBounds_toArray, List.set_cons_zero, List.set_cons_succ])
  refine heldStep 0 rfl (by kernel_rfl) (fun K hK => ?_)
  go_simp
  refine (Hid.out hK) _ _ (blk_alloc _ hS) (fun hS2 => ?_)
  clear hK K hS
  (try simp only [Act.put]); (try simp only [List.setIfInBounds_toArray, List.set_cons_zero, List.set_cons_succ])
  have hb45 : Below w4.heap.size w4 (w4.drew.alloc (.cells #[] 5)) := by
    have h1 : Below w4.heap.size w4 w4.drew := by refine Below.drew ?_; exact Below.refl _ _
    exact h1.trans (below_alloc4 w4.drew (.cells #[] 5))
  have hb1w := HS4.out.b.trans (hb45.mono HS4.out.b.size)
  refine heldStep 3 rfl (by kernel_rfl) (fun K hK => ?_)
  refine step_append_bsl rfl (.tmp 26) (.tmp 28) rfl w4.heap.size _ 0 [] rfl (own_empty8 w4.drew) _ bs rfl (HB.out.move (keep_below hb1w)) (by have := HLB.out; omega) hb45.size ?_
  intro v5 w5 ho5 hg5
  rw [Nat.zero_add, List.nil_append] at ho5
  have hb5 : Below w4.heap.size w4 w5 := hb45.grown hg5 hb45.size (fun q hq => Nat.le_of_eq (Option.some.inj (show some w4.heap.size = some q from hq)))
  refine (Hid.out hK) _ _ ((hb5.block _ (blk_lt HS4.out.p)).trans HS4.out.p) (fun hS3 => ?_)
  clear hK K hS2 hg5 hb1w hb45
  (try simp only [Act.put]); (try simp only [List.setIfInBounds_toArray, List.set_cons_zero, List.set_cons_succ])
  refine heldStep 6 rfl (by kernel_rfl) (fun K hK => ?_)
  refine step_append_bsl rfl (.tmp 29) (.tmp 31) rfl w4.heap.size _ bs.length bs rfl ho5 _ ts rfl (HTL.out.move (keep_below (HS4.out.b.trans (hb5.mono HS4.out.b.size)))) (by have := HLB.out; have := HLT.out; omega) hb5.size ?_
  intro v6 w6 ho6 hg6
  have hb6 : Below w4.heap.size w4 w6 := hb5.grown hg6 hb5.size (fun q hq => (ho5.lt q hq).1)
  refine (Hid.out hK) _ _ ((hb6.block _ (blk_lt HS4.out.p)).trans HS4.out.p) (fun hS4 => ?_)
  clear hK K hS3 hg6
  (try simp only [Act.put]); (try simp only [List.setIfInBounds_toArray, List.set_cons_zero, List.set_cons_succ])
  refine heldTake 7 _ rfl (by kernel_rfl) (by kernel_rfl) (by kernel_rfl) (fun _ _ _ h => h) rfl hS4 (fun wy hy => by first | (go_simp; done) | (go_simp; rfl) | rfl) ?_
  (try simp only [Act.put]); (try simp only [List.setIfInBounds_toArray, List.set_cons_zero, List.set_cons_succ])
  refine heldDone (by kernel_rfl) ?_
  clear hS4
  have HS6 := hide (HS4.out.next hb6)
  have HF6 : Hid (w6.heap[w3.heap.size]? = some (.cells (fcs fe fp) 29 (0, 0))) := (hb6.block _ (blk_lt HF4.out)).trans HF4.out
  have HAB : Hid (∀ x ∈ bs ++ ts, x < 256) := fun x hx => by
    rcases List.mem_append.1 hx with h | h
    · exact HBb.out x h
    · exact HTb.out x h
  obtain ⟨G, hG⟩ := mrun_some (bs ++ ts) HAB.out d
  have HST := hide (steady_tail HR.out hG)
  have HC6 := hide (check8_any w HT.out w6 HS6.out.b v6 (bs ++ ts) (BSl.own ho6 HAB.out) (own_bq ho6) (by rw [List.length_append]; have := HLB.out; have := HLT.out; omega) d (by have := HD.out; omega) _ G hG)
  clear ho5 hb5 ho6 hb6 hG HS4 HF4
  go_wp2_with fail
  refine HC6.out.mono ?_
  rintro e w7 ⟨hb7, rfl⟩
  have HS7 := hide (HS6.out.next hb7)
  have HF7 : Hid (w7.heap[w3.heap.size]? = some (.cells (fcs fe fp) 29 (0, 0))) := (hb7.block _ (blk_lt HF6.out)).trans HF6.out
  have HGD : Hid (∃ g : Nat × Nat, dflt (bs ++ ts) G = g) := ⟨_, rfl⟩
  obtain ⟨⟨ge, gp⟩, hg⟩ := HGD.out
  have HGE := hide hg
  rw [hg]
  simp only
  clear hb7 HS6 HC6 hg HF6 HGD
  have hmk := one_mk8 w7 (fcs ge gp)
  have HN8 := hide (heap_alloc_new w7 (.cells zf 29))
  have HI8 : Hid ((Tryd.prog.info? 29).map (·.size) = some (fcs ge gp).size) := infoF8
  have HA8 := hide (fcs_all ge gp)
  have HS8 := hide (HS7.out.next hmk.1)
  have HF8 := hide ((hmk.1.block _ (blk_lt HF7.out)).trans HF7.out)
  have HG8 := hide hmk.2
  clear hmk HS7 HF7
  go_upto_region 7 with (refine wpList_storeRow rfl rfl w7.heap.size zf (fcs ge gp) 29 rfl rfl HN8.out HI8.out rfl HA8.out ?_)
  (try simp only [Act.put]); (try simp only [List.setIfInBounds_toArray, List.set_cons_zero, List.set_cons_succ])
  unfold zf at HS8 HF8 HG8
  generalize (w7.alloc (.cells #[.int .i64 0, .int .i64 0] 29)).setRow w7.heap.size (fcs ge gp) = w8 at *
  clear HN8 HI8 HA8
  have c40 : w8.cell? ⟨w3.heap.size, 0, none⟩ = some (.int .i64 (fe : Nat)) := blk_cell (j := 0) HF8.out rfl
  have c41 : w8.cell? ⟨w3.heap.size, 1, none⟩ = some (.int .i64 (fp : Nat)) := blk_cell (j := 1) HF8.out rfl
  have c60 : w8.cell? ⟨w7.heap.size, 0, none⟩ = some (.int .i64 (ge : Nat)) := blk_cell (j := 0) HG8.out rfl
  have c61 : w8.cell? ⟨w7.heap.size, 1, none⟩ = some (.int .i64 (gp : Nat)) := blk_cell (j := 1) HG8.out rfl
  have p0 : w8.cell? ⟨w.heap.size, 0, none⟩ = some (.slice aB bs.length cB) := blk_cell (j := 0) HS8.out.p rfl
  have p1 : w8.cell? ⟨w.heap.size, 1, none⟩ = some (.slice aT ts.length cT) := blk_cell (j := 1) HS8.out.p rfl
  have HS' : Hid ((fe = 0 → ts ≠ [] → ge = 85 ∧ gp = bs.length) ∧ (fe = 82 → ge ≠ 0 → fp ≤ gp) ∧ (fe ≠ 0 → fe ≠ 82 → ge = fe ∧ gp = fp)) := by
    have h := HST.out
    rw [HF.out, HGE.out] at h
    refine ⟨fun h1 h2 => ?_, h.2.1, fun h1 h2 => ?_⟩
    · have h3 := h.1 h1 h2
      injection h3 with h3 h4
      exact ⟨h3, h4⟩
    · have h3 := h.2.2 h1 h2
      injection h3 with h3 h4
      exact ⟨h3, h4⟩
  clear HST HGE
  go_wp2_with fail
  refine (num8_any w8 _).mono ?_
  rintro e w9 ⟨rfl, hw9⟩
  have hw9 := hw9.symm
  subst hw9
  simp only []
  go_step
  go_step
  go_step
  go_step
  go_cut [] from 36 to 69 (fun wx => wx = w8)
  case first =>
    by_cases h0 : fe = 0
    · as_aux_lemma =>
      have g0 : ((fe : Int) == 0) = true := beq_iff_eq.2 (by omega)
      by_cases ht : ts = []
      · as_aux_lemma =>
        have gt : ¬ (0 : Int) < (ts.length : Int) := by rw [ht]; decide
        have gt2 : decide (0 < ts.length) = false := by rw [ht]; rfl
        clear ht h0
        go_wp2_with fail
        go_meet
        case rel => rfl
      · as_aux_lemma =>
        obtain ⟨q1, q2⟩ := HS'.out.1 h0 ht
        subst q1
        subst q2
        have htl : 0 < ts.length := List.length_pos_iff.2 ht
        have gt : (0 : Int) < (ts.length : Int) := by omega
        have gt2 : decide (0 < ts.length) = true := decide_eq_true htl
        clear ht h0 htl
        go_wp2_with (first
          | (refine wpList_execW rfl (exec_fltAt (g := w7.heap.size) (c := fcs 85 bs.length) rfl rfl rfl HG8.out) ?_)
          | (refine wpList_execW rfl (exec_neflt (e := 85) (p := bs.length) (e' := 85) (p' := bs.length) rfl rfl rfl) ?_))
        go_meet
        case rel => rfl
    have g0 : ((fe : Int) == 0) = false := beq_eq_false_iff_ne.2 (by omega)
    by_cases h82 : fe = 82
    · as_aux_lemma =>
      have g82 : ((fe : Int) == 82) = true := beq_iff_eq.2 (by omega)
      by_cases hg0 : ge = 0
      · as_aux_lemma =>
        have gg : ((ge : Int) != 0) = false := by rw [bne_eq_false_iff_eq]; omega
        clear h82 h0 hg0
        go_wp2_with fail
        refine (num8_any w8 _).mono ?_
        rintro e w9 ⟨rfl, hw9⟩
        have hw9 := hw9.symm
        subst hw9
        go_wp2_with fail
        go_meet
        case rel => rfl
      · as_aux_lemma =>
        have gg : ((ge : Int) != 0) = true := by rw [bne_iff_ne]; omega
        have hle := HS'.out.2.1 h82 hg0
        have gl : ¬ (gp : Int) < (fp : Int) := by omega
        have gl2 : decide (gp < fp) = false := decide_eq_false (by omega)
        clear h82 h0 hg0 hle
        go_wp2_with fail
        refine (num8_any w8 _).mono ?_
        rintro e w9 ⟨rfl, hw9⟩
        have hw9 := hw9.symm
        subst hw9
        go_wp2_with fail
        go_meet
        case rel => rfl
    · as_aux_lemma =>
      have g82 : ((fe : Int) == 82) = false := beq_eq_false_iff_ne.2 (by omega)
      obtain ⟨q1, q2⟩ := HS'.out.2.2 h0 h82
      subst q1
      subst q2
      clear h0 h82
      go_wp2_with (first
        | (refine wpList_execW rfl (exec_fltAt (g := w7.heap.size) (c := fcs ge gp) rfl rfl rfl HG8.out) ?_)
        | (refine wpList_execW rfl (exec_fltAt (g := w3.heap.size) (c := fcs ge gp) rfl rfl rfl HF8.out) ?_)
        | (refine wpList_execW rfl (exec_neflt (e := ge) (p := gp) (e' := ge) (p' := gp) rfl rfl rfl) ?_))
      go_meet
      case rel => rfl
  have hcut := hcut.symm
  subst hcut
  have p3 : w8.cell? ⟨w.heap.size, 3, none⟩ = some (.int .i64 E) := blk_cell (j := 3) HS8.out.p rfl
  have hdl := HD.out
  have e2 : IntKind.i64.wrap (1025 - (d : Int)) = ((1025 - d : Nat) : Int) := by rw [IntKind.wrap_i64]; omega
  clear HS' HG8 c60 c61 c41 c40 hdl hw9 hww p1
  go_wp2_with fail
  refine (within8_any E (1025 - d) (by have := HD.out; omega) (by omega) w8).mono ?_
  rintro e w9 ⟨k, hk, rfl, hw9⟩
  have hw9 := hw9.symm
  subst hw9
  have HK := hide hk
  have e3 : IntKind.i64.wrap ((d : Int) + (k : Int)) = ((d + k : Nat) : Int) := by have := HD.out; rw [IntKind.wrap_i64]; omega
  have HDK : Hid (d + k ≤ 1024) := by show _ ≤ _; have := HD.out; omega
  clear hk e2 p3
  go_upto_region 17 with fail
  clear e3
  obtain ⟨dk, hdk⟩ : ∃ dk : Nat, dk = d + k := ⟨_, rfl⟩
  have e4 : (d : Int) + (k : Int) = (dk : Int) := by omega
  rw [e4]
  have HDE := hide hdk
  clear hdk e4
  go_wp2_with fail
  refine (copy_any w8 _ bs (HB.out.move (keep_below HS8.out.b)) (by have := HLB.out; omega)).mono ?_
  rintro e wa ⟨va, rfl, hoa, hba⟩
  have HSa := hide (HS8.out.next hba)
  have HFa : Hid (wa.heap[w3.heap.size]? = some (.cells (fcs fe fp) 29 (0, 0))) := (hba.block _ (blk_lt HF8.out)).trans HF8.out
  obtain ⟨H, hH⟩ := mrun_some bs HBb.out dk
  have HSD := hide (steady_deep (by have := HDE.out; omega : d ≤ dk) HR.out hH)
  have HCa := hide (check8_any w HT.out wa HSa.out.b va bs (BSl.own hoa HBb.out) (own_bq hoa) (by have := HLB.out; omega) dk (by have := HDE.out; have := HDK.out; omega) _ H hH)
  clear hoa hba hH HS8 HF8 p0
  go_wp2_with fail
  refine HCa.out.mono ?_
  rintro e wb ⟨hbb, rfl⟩
  have HSb := hide (HSa.out.next hbb)
  have HFb : Hid (wb.heap[w3.heap.size]? = some (.cells (fcs fe fp) 29 (0, 0))) := (hbb.block _ (blk_lt HFa.out)).trans HFa.out
  obtain ⟨⟨he, hp⟩, hh⟩ : ∃ g : Nat × Nat, dflt bs H = g := ⟨_, rfl⟩
  have HHE := hide hh
  rw [hh]
  simp only
  clear hbb HSa HCa hh HFa
  have hmk := one_mk8 wb (fcs he hp)
  have HNc := hide (heap_alloc_new wb (.cells zf 29))
  have HIc : Hid ((Tryd.prog.info? 29).map (·.size) = some (fcs he hp).size) := infoF8
  have HAc := hide (fcs_all he hp)
  have HSc := hide (HSb.out.next hmk.1)
  have HFc := hide ((hmk.1.block _ (blk_lt HFb.out)).trans HFb.out)
  have HGc := hide hmk.2
  clear hmk HSb HFb
  go_upto_region 18 with (refine wpList_storeRow rfl rfl wb.heap.size zf (fcs he hp) 29 rfl rfl HNc.out HIc.out rfl HAc.out ?_)
  (try simp only [Act.put]); (try simp only [List.setIfInBounds_toArray, List.set_cons_zero, List.set_cons_succ])
  unfold zf at HSc HFc HGc
  generalize (wb.alloc (.cells #[.int .i64 0, .int .i64 0] 29)).setRow wb.heap.size (fcs he hp) = wc at *
  clear HNc HIc HAc
  have c40 : wc.cell? ⟨w3.heap.size, 0, none⟩ = some (.int .i64 (fe : Nat)) := blk_cell (j := 0) HFc.out rfl
  have c41 : wc.cell? ⟨w3.heap.size, 1, none⟩ = some (.int .i64 (fp : Nat)) := blk_cell (j := 1) HFc.out rfl
  have c80 : wc.cell? ⟨wb.heap.size, 0, none⟩ = some (.int .i64 (he : Nat)) := blk_cell (j := 0) HGc.out rfl
  have c81 : wc.cell? ⟨wb.heap.size, 1, none⟩ = some (.int .i64 (hp : Nat)) := blk_cell (j := 1) HGc.out rfl
  have HSE : Hid ((fe ≠ 81 → he = fe ∧ hp = fp) ∧ (fe = 81 → he ≠ 0 → fp ≤ hp)) := by
    have h := HSD.out
    rw [HF.out, HHE.out] at h
    refine ⟨fun h1 => ?_, h.2⟩
    have h3 := h.1 h1
    injection h3 with h3 h4
    exact ⟨h3, h4⟩
  clear HSD HHE
  go_wp2_with fail
  refine (num8_any wc _).mono ?_
  rintro e w9 ⟨rfl, hw9⟩
  have hw9 := hw9.symm
  subst hw9
  by_cases h81 : fe = 81
  case neg => as_aux_lemma =>
    have g81 : ((fe : Int) != 81) = true := by rw [bne_iff_ne]; omega
    obtain ⟨q1, q2⟩ := HSE.out.1 h81
    subst q1
    subst q2
    clear h81
    go_wp2_with (first
      | (refine wpList_execW rfl (exec_fltAt (g := wb.heap.size) (c := fcs he hp) rfl rfl rfl HGc.out) ?_)
      | (refine wpList_execW rfl (exec_fltAt (g := w3.heap.size) (c := fcs he hp) rfl rfl rfl HFc.out) ?_)
      | (refine wpList_execW rfl (exec_neflt (e := he) (p := hp) (e' := he) (p' := hp) rfl rfl rfl) ?_)
      | (go_at_call 8; refine (num8_any wc _).mono ?_; rintro e w9 ⟨rfl, hw9⟩; have hw9 := hw9.symm; subst hw9; simp only [])
      | (go_at_call 4; refine (reads8_any w HT.out wc HSc.out.b).mono ?_; rintro e wd ⟨rfl, hbd⟩; have HBD := hide hbd; clear hbd; simp only []))
    all_goals go_ret
    all_goals exact ⟨rfl, HSc.out.b.trans (HBD.out.mono HSc.out.b.size)⟩
  have g81 : ((fe : Int) != 81) = false := by rw [bne_eq_false_iff_eq]; omega
  by_cases h0 : he = 0
  · as_aux_lemma =>
    have g0 : ((he : Int) == 0) = true := beq_iff_eq.2 (by omega)
    clear h0 h81
    go_wp2_with (first
      | (go_at_call 8; refine (num8_any wc _).mono ?_; rintro e w9 ⟨rfl, hw9⟩; have hw9 := hw9.symm; subst hw9; simp only [])
      | (go_at_call 4; refine (reads8_any w HT.out wc HSc.out.b).mono ?_; rintro e wd ⟨rfl, hbd⟩; have HBD := hide hbd; clear hbd; simp only []))
    all_goals go_ret
    all_goals exact ⟨rfl, HSc.out.b.trans (HBD.out.mono HSc.out.b.size)⟩
  · as_aux_lemma =>
    have g0 : ((he : Int) == 0) = false := beq_eq_false_iff_ne.2 (by omega)
    have hle := HSE.out.2 h81 h0
    have gge : (fp : Int) ≤ (hp : Int) := by omega
    have gge2 : decide (fp ≤ hp) = true := decide_eq_true hle
    clear h0 h81 hle
    go_wp2_with (first
      | (go_at_call 8; refine (num8_any wc _).mono ?_; rintro e w9 ⟨rfl, hw9⟩; have hw9 := hw9.symm; subst hw9; simp only [])
      | (go_at_call 4; refine (reads8_any w HT.out wc HSc.out.b).mono ?_; rintro e wd ⟨rfl, hbd⟩; have HBD := hide hbd; clear hbd; simp only []))
    all_goals go_ret
    all_goals exact ⟨rfl, HSc.out.b.trans (HBD.out.mono HSc.out.b.size)⟩
end
section
open Go.ChangeShapes Go.WideShapes Go.ChangeAt Go.RowKit Go.Deep Go.Joins Go
/-- A slice of links. -/
structure LinksIn (w : World) (v : Value) (len : Nat) : Prop where
  form : ∃ a cap, v = .slice a len cap ∧ (len = 0 ∨ ∃ b off, a = some ⟨b, off, none⟩ ∧ ∀ i, i < len → ∃ l : Lk, Lkb l ∧ ∀ j u, (lcs l)[j]? = some u → w.cell? ⟨b, off + i * 4 + j, none⟩ = some u)
  max : len ≤ 9223372036854775807
/-- A slice of strings. -/
structure StrsIn (w : World) (v : Value) (len : Nat) : Prop where
  form : ∃ a cap, v = .slice a len cap ∧ (len = 0 ∨ ∃ b off, a = some ⟨b, off, none⟩ ∧ ∀ i, i < len → ∃ s : ByteArray, s.size ≤ 9223372036854775807 ∧ w.cell? ⟨b, off + i, none⟩ = some (.string s))
  max : len ≤ 9223372036854775807
theorem Tryd.cellsLink : Tryd.prog.cellsOf 36 = 4 := by kernel_rfl
theorem Tryd.cells_int : Tryd.prog.cellsOf 3 = 1 := by kernel_rfl
theorem Tryd.cells_u64 : Tryd.prog.cellsOf 34 = 1 := by kernel_rfl
theorem Tryd.cells_str : Tryd.prog.cellsOf 9 = 1 := by kernel_rfl
theorem strs_open {H : Type} {enc : TypeId × Value → H} {w : World} {base fuel : Nat} {held : Bool} {v : Value} {x : DataW H × List MemPlace} (h : DataW.trod enc Tryd.prog w base (fun _ => true) held fuel 37 [v] = some x) : ∃ len, StrsIn w v len := by
  rcases open_strings Tryd.underlying37 Tryd.underlying9 Tryd.cells_str h with ⟨hcs, _⟩ | ⟨a, len, cap, ss, hcs, _, hl, hm, hmm, hx, hel, hsz⟩
  · injection hcs with hcs _
    subst hcs
    exact ⟨0, ⟨none, 0, rfl, .inl rfl⟩, by omega⟩
  · injection hcs with hcs _
    subst hcs
    simp only [if_true] at hmm
    refine ⟨len, ⟨some a, cap, rfl, ?_⟩, by unfold maxLen at hm; omega⟩
    by_cases hz : len = 0
    · exact .inl hz
    · obtain ⟨b, off, spot⟩ := a
      have hspot : spot = none := by
        have := hel 0 (by omega)
        simpa [Addr.add] using World.cell?_spot this
      subst hspot
      refine .inr ⟨b, off, rfl, fun i hi => ?_⟩
      have h1 := hel i (by omega)
      rw [addr_add] at h1
      refine ⟨_, ?_, h1⟩
      have hi2 : i < ss.length := by omega
      rw [List.getD_eq_getElem?_getD, List.getElem?_eq_getElem hi2]
      have := hsz _ (List.getElem_mem hi2)
      unfold maxLen at this
      exact this
section
variable {H : Type} {enc : TypeId × Value → H} {P : Program} {w : World} {base : Nat} {spare : Nat → Bool} {held : Bool}
/-- A struct of five fields of one cell. -/
theorem open_agg5 {r : Reach} {b0 : Nat} {t : TypeId} {f0 f1 f2 f3 f4 : Field} {v : Value} {d : DataW H} {p : List MemPlace} (hs : P.underlying t = some (.struct #[f0, f1, f2, f3, f4])) (hone : oneCellFields P #[f0, f1, f2, f3, f4] = true) (hC : P.cellsOf t = 5)
    (hv : Value.okWide P w r b0 t v) (h : DataW.Trod enc P w base spare held t v d p) :
    ∃ (v0 v1 v2 v3 v4 : Value) (y0 y1 y2 y3 y4 : DataW H × List MemPlace) (n : Nat), v = .agg #[v0, v1, v2, v3, v4] ∧ d = .agg [y0.1, y1.1, y2.1, y3.1, y4.1] ∧
      DataW.trod enc P w base spare held n f0.type [v0] = some y0 ∧ DataW.trod enc P w base spare held n f1.type [v1] = some y1 ∧ DataW.trod enc P w base spare held n f2.type [v2] = some y2 ∧ DataW.trod enc P w base spare held n f3.type [v3] = some y3 ∧ DataW.trod enc P w base spare held n f4.type [v4] = some y4 := by
  obtain ⟨cs, rfl, hsz⟩ := okWide_struct hs hv
  obtain ⟨l⟩ := cs
  match l, hsz.trans hC with
  | [c0, c1, c2, c3, c4], _ =>
    obtain ⟨fuel, hf⟩ := h
    obtain ⟨xs, n, _, hx, hl, hlen, hff⟩ := DataW.trod_struct hs hf
    match xs, hlen with
    | [y0, y1, y2, y3, y4], _ =>
      obtain ⟨o0, k0⟩ := hone_of hone 0 f0 rfl
      obtain ⟨o1, k1⟩ := hone_of hone 1 f1 rfl
      obtain ⟨o2, k2⟩ := hone_of hone 2 f2 rfl
      obtain ⟨o3, k3⟩ := hone_of hone 3 f3 rfl
      obtain ⟨o4, k4⟩ := hone_of hone 4 f4 rfl
      have h0 := hff 0 f0 rfl
      have h1 := hff 1 f1 rfl
      have h2 := hff 2 f2 rfl
      have h3 := hff 3 f3 rfl
      have h4 := hff 4 f4 rfl
      simp only [Prod.mk.injEq] at hx
      exact ⟨c0, c1, c2, c3, c4, y0, y1, y2, y3, y4, n, rfl, by simpa using hx.1, by simpa [Value.cells, o0, k0] using h0, by simpa [Value.cells, o1, k1] using h1, by simpa [Value.cells, o2, k2] using h2, by simpa [Value.cells, o3, k3] using h3, by simpa [Value.cells, o4, k4] using h4⟩
end
end
section
open Go.ChangeShapes Go.WideShapes Go.ChangeAt Go.RowKit Go.Deep Go.Joins Go
theorem weight_le {H : Type} {t : TypeId} {d : DataW H} (h : (d.weights Tryd.prog t).all (· ≤ reachBytes) = true) {n : Nat} (hn : n ∈ d.weights Tryd.prog t) : n ≤ 140737488351232 := by
  have := List.all_eq_true.1 h n hn
  unfold reachBytes at this
  simpa using this
theorem weight_each {H : Type} {ts : List TypeId} {ds : List (DataW H)} (h : (DataW.weightsEach Tryd.prog ts ds).all (· ≤ reachBytes) = true) {j : Nat} {t : TypeId} {d : DataW H} (ht : ts[j]? = some t) (hd : ds[j]? = some d) : (d.weights Tryd.prog t).all (· ≤ reachBytes) = true :=
  List.all_eq_true.2 fun n hn => List.all_eq_true.1 h n (DataW.weights_mem_each ht hd n hn)
theorem bsl_open6 {H : Type} {enc : TypeId × Value → H} {w : World} {base fuel : Nat} {held : Bool} {v : Value} {x : DataW H × List MemPlace} (h : DataW.trod enc Tryd.prog w base (fun _ => true) held fuel 22 [v] = some x) (hW : (x.1.weights Tryd.prog 22).all (· ≤ reachBytes) = true) : ∃ xs, BSl w v xs ∧ xs.length ≤ 140737488351232 := by
  rcases open_ints Tryd.underlying22 Tryd.underlying5 Tryd.cells5 h with ⟨hcs, _⟩ | ⟨a, len, cap, zs, hcs, _, hl, hm, hz, hx, hcell, hwz⟩
  · injection hcs with hcs _
    subst hcs
    exact ⟨_, bsl_of_row none 0 0 [] (Nat.le_refl _) (Nat.zero_le _) rfl (by simp) (fun _ => rfl) (fun _ hh => by cases hh), by simp⟩
  · injection hcs with hcs _
    subst hcs
    simp only [if_true] at hz
    refine ⟨_, bsl_of_row (some a) len cap zs hl hm hz hwz (fun hh => by cases hh) (fun a' hh c hc => by cases hh; exact hcell c (by omega)), ?_⟩
    have h1 := weight_le hW (n := cap) (by rw [hx]; exact row_weight a len cap zs hz)
    have hlen : ((zs.take len).map Int.toNat).length = len := by simp; omega
    omega
theorem Tryd.bytesStr : Tryd.prog.bytesOf 9 = 16 := by kernel_rfl
theorem Tryd.bytesValue : Tryd.prog.bytesOf 40 = 160 := by kernel_rfl
theorem ssl_open {H : Type} {enc : TypeId × Value → H} {w : World} {base fuel : Nat} {held : Bool} {v : Value} {x : DataW H × List MemPlace} (h : DataW.trod enc Tryd.prog w base (fun _ => true) held fuel 37 [v] = some x) (hW : (x.1.weights Tryd.prog 37).all (· ≤ reachBytes) = true) : ∃ ks, SSl w v ks := by
  rcases open_strings Tryd.underlying37 Tryd.underlying9 Tryd.cells_str h with ⟨hcs, _⟩ | ⟨a, len, cap, ss, hcs, _, hl, hm, hmm, hx, hel, hsz⟩
  · injection hcs with hcs _
    subst hcs
    exact ⟨[], ⟨none, 0, rfl, ⟨by simp, fun _ => rfl⟩, .inl rfl⟩, by simp, by simp⟩
  · injection hcs with hcs _
    subst hcs
    simp only [if_true] at hmm
    have hlen : (ss.take len).length = len := by rw [List.length_take]; omega
    unfold maxLen at hm
    have hw1 : len ≤ 140737488351232 := by
      have h1 := weight_le hW (n := ((strs (H := H) (ss.take len)).length + (strs (H := H) (ss.drop len)).length) * Tryd.prog.bytesOf 9) (by rw [hx]; simp only [DataW.weights, Tryd.underlying37]; exact List.mem_cons_self ..)
      rw [Tryd.bytesStr] at h1
      have h2 : (strs (H := H) (ss.take len)).length = len := by simp [strs]; omega
      omega
    have hw2 : ∀ s ∈ ss.take len, s.size ≤ 140737488351232 := fun s hs => by
      refine weight_le hW ?_
      rw [hx]
      simp only [DataW.weights, Tryd.underlying37]
      refine List.mem_cons.2 (.inr (List.mem_append.2 (.inl (weights_all (d := .lit (.string s.data.toList)) (List.mem_map.2 ⟨s, hs, rfl⟩) _ ?_))))
      simp only [DataW.weights, List.mem_singleton]
      rfl
    refine ⟨ss.take len, ⟨some a, cap, by rw [hlen], ⟨by rw [hlen]; exact hl, fun h => by cases h⟩, ?_⟩, by rw [hlen]; exact hw1, hw2⟩
    by_cases hz : len = 0
    · exact .inl (by rw [hz]; rfl)
    · obtain ⟨b, off, spot⟩ := a
      have hspot : spot = none := by
        have := hel 0 (by omega)
        simpa [Addr.add] using World.cell?_spot this
      subst hspot
      refine .inr ⟨b, off, rfl, fun j s hj => ?_⟩
      have hjl : j < len := by
        have := (List.getElem?_eq_some_iff.1 hj).1
        omega
      have h1 := hel j (by omega)
      rw [addr_add] at h1
      rw [h1]
      rw [List.getElem?_take_of_lt hjl] at hj
      rw [List.getD_eq_getElem?_getD, hj]
      rfl
theorem vsl_of {w : World} {a : Addr} {len cap : Nat} (hl : len ≤ cap) (hm : len ≤ 140737488351232) (each : ∀ i, i < len → ∃ t cs', Tin w t cs' ∧ ∀ j u, cs'[j]? = some u → w.cell? ((a.add (i * 13)).add j) = some u) : ∃ is, VSl w (.slice (some a) len cap) is := by
  have hch : ∀ i, ∃ t : Tv, i < len → ∃ cs', Tin w t cs' ∧ ∀ j u, cs'[j]? = some u → w.cell? ((a.add (i * 13)).add j) = some u := fun i => by
    by_cases hi : i < len
    · obtain ⟨t, h⟩ := each i hi
      exact ⟨t, fun _ => h⟩
    · exact ⟨.mk 0 false false 0 0 ByteArray.empty [] ⟨0, 0, 0, []⟩ [] [], fun h => absurd h hi⟩
  obtain ⟨f, hf⟩ := Classical.axiomOfChoice hch
  have hln : ((List.range len).map f).length = len := by simp
  refine ⟨(List.range len).map f, ⟨some a, cap, by rw [hln], ⟨by rw [hln]; exact hl, fun h => by cases h⟩, ?_⟩, by rw [hln]; omega⟩
  by_cases hz : len = 0
  · exact .inl (by rw [hz]; rfl)
  · obtain ⟨b, off, spot⟩ := a
    have hspot : spot = none := by
      obtain ⟨t, cs', ht, hc⟩ := each 0 (by omega)
      obtain ⟨vy, vk, vi, he, _⟩ := ht.parts
      have := hc 0 (.int .i64 t.k) (by rw [he]; rfl)
      simpa [Addr.add] using World.cell?_spot this
    subst hspot
    refine .inr ⟨b, off, rfl, fun i t hi => ?_⟩
    have hil : i < len := by
      have := (List.getElem?_eq_some_iff.1 hi).1
      omega
    rw [List.getElem?_map, List.getElem?_range hil] at hi
    injection hi with hi
    subst hi
    obtain ⟨cs', h1, h2⟩ := hf i hil
    refine ⟨cs', h1, fun j u hu => ?_⟩
    have := h2 j u hu
    rw [addr_add, addr_add] at this
    exact this
theorem Tryd.cellsValue : Tryd.prog.cellsOf 40 = 13 := by kernel_rfl
theorem Tryd.cells_bool : Tryd.prog.cellsOf 4 = 1 := by kernel_rfl
theorem Tryd.cells_strs : Tryd.prog.cellsOf 37 = 1 := by kernel_rfl
theorem Tryd.cells_values : Tryd.prog.cellsOf 38 = 1 := by kernel_rfl
theorem Tryd.cells_bytes6 : Tryd.prog.cellsOf 22 = 1 := by kernel_rfl
set_option maxRecDepth 100000 in
/-- A value opened. -/
theorem value_open {H : Type} {enc : TypeId × Value → H} {w : World} {base : Nat} {held : Bool} : ∀ (fuel : Nat) (cs : List Value) (x : DataW H × List MemPlace), DataW.trod enc Tryd.prog w base (fun _ => true) held fuel 40 cs = some x → (x.1.weights Tryd.prog 40).all (· ≤ reachBytes) = true → ∃ t, Tin w t cs.toArray := by
  intro fuel
  induction fuel using Nat.strongRecOn with
  | _ fuel ih =>
    intro cs x h hW
    obtain ⟨xs, n, hfu, hx, hlen, hxl, hf⟩ := DataW.trod_struct Tryd.underlying40 h
    rw [Tryd.cellsValue] at hlen
    match cs, hlen, xs, hxl with
    | [c0, c1, c2, c3, c4, c5, c6, c7, c8, c9, c10, c11, c12], _, [y0, y1, y2, y3, y4, y5, y6, y7, y8, y9], _ =>
      have g0 : DataW.trod enc Tryd.prog w base (fun _ => true) held n 3 [c0] = some y0 := by simpa [Tryd.cells_int] using hf 0 _ rfl
      have g1 : DataW.trod enc Tryd.prog w base (fun _ => true) held n 4 [c1] = some y1 := by simpa [Tryd.cells_bool] using hf 1 _ rfl
      have g2 : DataW.trod enc Tryd.prog w base (fun _ => true) held n 4 [c2] = some y2 := by simpa [Tryd.cells_bool] using hf 2 _ rfl
      have g3 : DataW.trod enc Tryd.prog w base (fun _ => true) held n 34 [c3] = some y3 := by simpa [Tryd.cells_u64] using hf 3 _ rfl
      have g4 : DataW.trod enc Tryd.prog w base (fun _ => true) held n 34 [c4] = some y4 := by simpa [Tryd.cells_u64] using hf 4 _ rfl
      have g5 : DataW.trod enc Tryd.prog w base (fun _ => true) held n 9 [c5] = some y5 := by simpa [Tryd.cells_str] using hf 5 _ rfl
      have g6 : DataW.trod enc Tryd.prog w base (fun _ => true) held n 22 [c6] = some y6 := by simpa [Tryd.cells_bytes6] using hf 6 _ rfl
      have g7 : DataW.trod enc Tryd.prog w base (fun _ => true) held n 36 [c7, c8, c9, c10] = some y7 := by simpa [Tryd.cellsLink] using hf 7 _ rfl
      have g8 : DataW.trod enc Tryd.prog w base (fun _ => true) held n 37 [c11] = some y8 := by simpa [Tryd.cells_strs] using hf 8 _ rfl
      have g9 : DataW.trod enc Tryd.prog w base (fun _ => true) held n 38 [c12] = some y9 := by simpa [Tryd.cells_values] using hf 9 _ rfl
      have hWE : (DataW.weightsEach Tryd.prog [3, 4, 4, 34, 34, 9, 22, 36, 37, 38] [y0.1, y1.1, y2.1, y3.1, y4.1, y5.1, y6.1, y7.1, y8.1, y9.1]).all (· ≤ reachBytes) = true := by
        rw [hx] at hW
        simp only [DataW.weights, Tryd.underlying40] at hW
        exact hW
      obtain ⟨n0, f0, _, _⟩ := DataW.trod_int (fuel := n) (cs := [c0]) Tryd.underlying3 g0
      obtain ⟨b1, f1, _⟩ := DataW.trod_bool (fuel := n) (cs := [c1]) Tryd.underlying4 g1
      obtain ⟨b2, f2, _⟩ := DataW.trod_bool (fuel := n) (cs := [c2]) Tryd.underlying4 g2
      obtain ⟨n3, f3, _, w3⟩ := DataW.trod_int (fuel := n) (cs := [c3]) Tryd.underlying34 g3
      obtain ⟨n4, f4, _, w4⟩ := DataW.trod_int (fuel := n) (cs := [c4]) Tryd.underlying34 g4
      obtain ⟨s5, f5, hx5, hs5⟩ := DataW.trod_string (fuel := n) (cs := [c5]) Tryd.underlying9 g5
      obtain ⟨y, hy, hyl⟩ := bsl_open6 g6 (weight_each hWE (j := 6) rfl rfl)
      obtain ⟨z0, z1, z2, z3, k, hx7, _, e0, e1, e2, e3⟩ := trod_struct4 Tryd.underlying36 g7
      obtain ⟨m0, f7, _, _⟩ := DataW.trod_int (fuel := k) (cs := [c7]) Tryd.underlying3 (by simpa [Tryd.cells_int] using e0)
      obtain ⟨m1, f8, _, w8⟩ := DataW.trod_int (fuel := k) (cs := [c8]) Tryd.underlying34 (by simpa [Tryd.cells_u64] using e1)
      obtain ⟨m2, f9, _, w9⟩ := DataW.trod_int (fuel := k) (cs := [c9]) Tryd.underlying34 (by simpa [Tryd.cells_u64] using e2)
      obtain ⟨s10, f10, hx10, hs10⟩ := DataW.trod_string (fuel := k) (cs := [c10]) Tryd.underlying9 (by simpa [Tryd.cells_str] using e3)
      obtain ⟨ks, hk⟩ := ssl_open g8 (weight_each hWE (j := 8) rfl rfl)
      injection f0 with f0 _
      injection f1 with f1 _
      injection f2 with f2 _
      injection f3 with f3 _
      injection f4 with f4 _
      injection f5 with f5 _
      injection f7 with f7 _
      injection f8 with f8 _
      injection f9 with f9 _
      injection f10 with f10 _
      subst f0 f1 f2 f3 f4 f5 f7 f8 f9 f10
      have b3 := bounds_u64 w3
      have b4 := bounds_u64 w4
      have b8 := bounds_u64 w8
      have b9 := bounds_u64 w9
      have hs5 : s5.size ≤ 140737488351232 := weight_le (weight_each hWE (j := 5) (t := 9) rfl rfl) (by rw [hx5]; simp only [DataW.weights, List.mem_singleton]; rfl)
      have hW7 := weight_each hWE (j := 7) (t := 36) rfl rfl
      have hs10 : s10.size ≤ 140737488351232 := by
        rw [hx7] at hW7
        simp only [DataW.weights, Tryd.underlying36] at hW7
        exact weight_le (weight_each hW7 (j := 3) (t := 9) rfl rfl) (by rw [hx10]; simp only [DataW.weights, List.mem_singleton]; rfl)
      have hW9 := weight_each hWE (j := 9) (t := 38) rfl rfl
      have hv : ∃ is, VSl w c12 is := by
        rcases DataW.trod_slice Tryd.underlying38 g9 with ⟨hcs, _⟩ | ⟨a, len, cap, elems, rest, m, hfm, hcs, hx9, hb, hl, hm, hlen2, hel, _, _⟩
        · injection hcs with hcs _
          subst hcs
          exact ⟨[], ⟨none, 0, rfl, ⟨by simp, fun _ => rfl⟩, .inl rfl⟩, by simp⟩
        · injection hcs with hcs _
          subst hcs
          have hm2 : len ≤ 140737488351232 := by
            have h1 := weight_le hW9 (n := ((elems.map (·.1)).length + (rest.map (·.1)).length) * Tryd.prog.bytesOf 40) (by rw [hx9]; simp only [DataW.weights, Tryd.underlying38]; exact List.mem_cons_self ..)
            rw [Tryd.bytesValue, List.length_map] at h1
            omega
          have hwe : ∀ (i : Nat) (z : DataW H × List MemPlace), elems[i]? = some z → (z.1.weights Tryd.prog 40).all (· ≤ reachBytes) = true := fun i z hz => List.all_eq_true.2 fun n hn => by
            refine List.all_eq_true.1 hW9 n ?_
            rw [hx9]
            simp only [DataW.weights, Tryd.underlying38]
            exact List.mem_cons.2 (.inr (List.mem_append.2 (.inl (weights_all (List.mem_map.2 ⟨z, List.mem_of_getElem? hz, rfl⟩) n hn))))
          have each : ∀ i, i < len → ∃ t cs', Tin w t cs' ∧ ∀ j u, cs'[j]? = some u → w.cell? ((a.add (i * 13)).add j) = some u := by
            intro i hi
            have h1 := hel i hi
            rw [Tryd.cellsValue] at h1
            have h2 : ∃ z, elems[i]? = some z := ⟨elems[i]'(by omega), List.getElem?_eq_getElem (by omega)⟩
            obtain ⟨z, hz⟩ := h2
            rw [hz] at h1
            obtain ⟨cs', h3, h4⟩ := Option.bind_eq_some_iff.1 h1
            obtain ⟨t, ht⟩ := ih m (by omega) cs' z h4 (hwe i z hz)
            obtain ⟨_, hln, hcell⟩ := World.cells?_some h3
            refine ⟨t, cs'.toArray, ht, fun j u hu => ?_⟩
            rw [List.getElem?_toArray] at hu
            have hj : j < 13 := by
              have := (List.getElem?_eq_some_iff.1 hu).1
              omega
            rw [hcell j hj]
            exact hu
          exact vsl_of hl hm2 each
      obtain ⟨is, hi⟩ := hv
      refine ⟨.mk n0 b1 b2 n3.toNat n4.toNat s5 y ⟨m0, m1.toNat, m2.toNat, sl s10⟩ ks is, ?_⟩
      have q3 : ((n3.toNat : Nat) : Int) = n3 := by omega
      have q4 : ((n4.toNat : Nat) : Int) = n4 := by omega
      have q8 : ((m1.toNat : Nat) : Int) = m1 := by omega
      have q9 : ((m2.toNat : Nat) : Int) = m2 := by omega
      have hT := Tin.of (t := .mk n0 b1 b2 n3.toNat n4.toNat s5 y ⟨m0, m1.toNat, m2.toNat, sl s10⟩ ks is) (vy := c6) (vk := c11) (vi := c12) hy hk hi ⟨by show n3.toNat < _; omega, by show n4.toNat < _; omega, hs5, hyl, ⟨by show m1.toNat < _; omega, by show m2.toNat < _; omega, sl_byte s10, by show (sl s10).length ≤ _; rw [sl_len]; omega⟩, by show (sl s10).length ≤ _; rw [sl_len]; exact hs10⟩
      have e : vcs (.mk n0 b1 b2 n3.toNat n4.toNat s5 y ⟨m0, m1.toNat, m2.toNat, sl s10⟩ ks is) c6 c11 c12 = [.int .i64 n0, .bool b1, .bool b2, .int .u64 n3, .int .u64 n4, .string s5, c6, .int .i64 m0, .int .u64 m1, .int .u64 m2, .string s10, c11, c12].toArray := by
        simp only [vcs, Tv.k, Tv.f, Tv.g, Tv.n, Tv.b, Tv.s, Tv.l, nstr_sl, q3, q4, q8, q9]
      rw [e] at hT
      exact hT
/-- A slice of values opened. -/
theorem values_open {H : Type} {enc : TypeId × Value → H} {w : World} {base fuel : Nat} {held : Bool} {v : Value} {x : DataW H × List MemPlace} (h : DataW.trod enc Tryd.prog w base (fun _ => true) held fuel 38 [v] = some x) (hW : (x.1.weights Tryd.prog 38).all (· ≤ reachBytes) = true) : ∃ is, VSl w v is := by
  rcases DataW.trod_slice Tryd.underlying38 h with ⟨hcs, _⟩ | ⟨a, len, cap, elems, rest, m, hfm, hcs, hx9, hb, hl, hm, hlen2, hel, _, _⟩
  · injection hcs with hcs _
    subst hcs
    exact ⟨[], ⟨none, 0, rfl, ⟨by simp, fun _ => rfl⟩, .inl rfl⟩, by simp⟩
  · injection hcs with hcs _
    subst hcs
    have hm2 : len ≤ 140737488351232 := by
      have h1 := weight_le hW (n := ((elems.map (·.1)).length + (rest.map (·.1)).length) * Tryd.prog.bytesOf 40) (by rw [hx9]; simp only [DataW.weights, Tryd.underlying38]; exact List.mem_cons_self ..)
      rw [Tryd.bytesValue, List.length_map] at h1
      omega
    have hwe : ∀ (i : Nat) (z : DataW H × List MemPlace), elems[i]? = some z → (z.1.weights Tryd.prog 40).all (· ≤ reachBytes) = true := fun i z hz => List.all_eq_true.2 fun n hn => by
      refine List.all_eq_true.1 hW n ?_
      rw [hx9]
      simp only [DataW.weights, Tryd.underlying38]
      exact List.mem_cons.2 (.inr (List.mem_append.2 (.inl (weights_all (List.mem_map.2 ⟨z, List.mem_of_getElem? hz, rfl⟩) n hn))))
    refine vsl_of hl hm2 fun i hi => ?_
    have h1 := hel i hi
    rw [Tryd.cellsValue] at h1
    have h2 : ∃ z, elems[i]? = some z := ⟨elems[i]'(by omega), List.getElem?_eq_getElem (by omega)⟩
    obtain ⟨z, hz⟩ := h2
    rw [hz] at h1
    obtain ⟨cs', h3, h4⟩ := Option.bind_eq_some_iff.1 h1
    obtain ⟨t, ht⟩ := value_open m cs' z h4 (hwe i z hz)
    obtain ⟨_, hln, hcell⟩ := World.cells?_some h3
    refine ⟨t, cs'.toArray, ht, fun j u hu => ?_⟩
    rw [List.getElem?_toArray] at hu
    have hj : j < 13 := by
      have := (List.getElem?_eq_some_iff.1 hu).1
      omega
    rw [hcell j hj]
    exact hu
end
section
open Go.ChangeShapes Go.WideShapes Go.ChangeAt Go.RowKit Go.Deep Go.Joins Go
theorem Tryd.cellsSteady : Tryd.prog.cellsOf 24 = 4 := by kernel_rfl
set_option maxRecDepth 100000 in
theorem steady_open {H : Type} {enc : TypeId × Value → H} {w : World} {base b0 : Nat} {r : Reach} {held : Bool} {v : Value} {d : DataW H} {p : List MemPlace} (hv : Value.okWide Tryd.prog w r b0 24 v) (h : DataW.Trod enc Tryd.prog w base (fun _ => true) held 24 v d p) (hW : (d.weights Tryd.prog 24).all (· ≤ reachBytes) = true) :
    ∃ (vB vT : Value) (bs ts : List Nat) (D E : Int), v = .agg #[vB, vT, .int .i64 D, .int .i64 E] ∧ BSl w vB bs ∧ BSl w vT ts ∧ bs.length ≤ 140737488351232 ∧ ts.length ≤ 140737488351232 := by
  obtain ⟨c0, c1, c2, c3, y0, y1, y2, y3, m, rfl, hd, hp, hy0, hy1, hy2, hy3⟩ := open_agg4 Tryd.underlying24 (by kernel_rfl) Tryd.cellsSteady hv h
  subst hd
  have hs2 : (DataW.weightsEach Tryd.prog [22, 22, 3, 3] [y0.1, y1.1, y2.1, y3.1]).all (· ≤ reachBytes) = true := by
    simp only [DataW.weights, Tryd.underlying24] at hW
    exact hW
  obtain ⟨bs, h1, h2⟩ := bsl_open6 hy0 (weight_each hs2 (j := 0) rfl rfl)
  obtain ⟨ts, h3, h4⟩ := bsl_open6 hy1 (weight_each hs2 (j := 1) rfl rfl)
  obtain ⟨n0, f0, _, _⟩ := DataW.trod_int (fuel := m) (cs := [c2]) Tryd.underlying3 hy2
  obtain ⟨n1, f1, _, _⟩ := DataW.trod_int (fuel := m) (cs := [c3]) Tryd.underlying3 hy3
  simp at f0 f1
  subst f0
  subst f1
  exact ⟨c0, c1, bs, ts, _, _, rfl, h1, h3, h2, h4⟩
end
section
open Go.RowKit Go
theorem acc_eq : (Rows.laid_unicode_utf8_acceptRanges : DataW Unit) = Lib.acceptData := by kernel_rfl
theorem fst_eq : Rows.laid_unicode_utf8_first = Lib.firstData := by kernel_rfl
theorem tabs_of_laid {W : World} (h : laidMet Tryd.prog [("unicode/utf8.acceptRanges", Rows.laid_unicode_utf8_acceptRanges), ("unicode/utf8.first", Rows.laid_unicode_utf8_first)] W) : Tabs W := by
  rw [acc_eq, fst_eq] at h
  exact utf8Tabs_of_readsT (U8Types.of196 Tryd.laysValid) ⟨by kernel_rfl, by kernel_rfl, by kernel_rfl, by kernel_rfl, by kernel_rfl, by kernel_rfl, by kernel_rfl⟩ (Lib.laidMet.reads h (.tail _ (.head _))) (Lib.laidMet.reads h (.head _))
/-- The settled world, the tables laid. -/
noncomputable def laidWorld6 (os : Os) : World :=
  let w0 := World.holding Tryd.prog os ⟨#[], #[], []⟩
  let put (h : Array Obj) (g : Nat) (cs : Array Value) : Array Obj := h.modify g fun
    | .cells _ t frozen => .cells cs t frozen
    | o => o
  let h1 := put w0.heap 0 (Lib.firstTab.map fun z => Value.int .u8 z).toArray
  let h2 := put h1 1 ((List.range 16).flatMap fun i => [Value.int .u8 (Lib.accLo i), Value.int .u8 (Lib.accHi i)]).toArray
  { w0 with heap := h2 }
theorem laid_met6 (os : Os) (args : Array Value) : laidMet Tryd.prog [("unicode/utf8.acceptRanges", Rows.laid_unicode_utf8_acceptRanges), ("unicode/utf8.first", Rows.laid_unicode_utf8_first)] ((laidWorld6 os).forCall (fun _ _ => 0) ⟨#[], args, []⟩).memory := by
  rw [acc_eq, fst_eq]
  exact (LaidIn.of_run (l := [("unicode/utf8.acceptRanges", Lib.acceptData), ("unicode/utf8.first", Lib.firstData)]) [1, 0] 8 (by kernel_rfl) (by kernel_rfl) (by kernel_rfl) (by kernel_rfl)).met
end
end Go.Proofs.YtadilnmkjcmnnaaDoor

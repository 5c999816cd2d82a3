import Derived.Test.YtadilnmkjcmnnaaGreatDoorJy
namespace Go.Proofs.YtadilnmkjcmnnaaGreatDoor
section
open Go.RowKit Go
/-- What Decode tells. -/
def DecP (w : World) (b : List Nat) (r : Res) (e : Ending) (w' : World) : Prop := Below w.heap.size w w' ∧ ∃ c, e = .returned (.tuple #[.agg c, .agg (fcs (dflt b r).1 (dflt b r).2)]) ∧ Tis w' (fun q => q < w.heap.size) (if (dflt b r).1 = 0 then r.v else tz8 0) c
theorem DecP.mk {w w' : World} {b : List Nat} {r : Res} {c f : Array Value} {v : Tv} (hf : f = fcs (dflt b r).1 (dflt b r).2) (hv : v = if (dflt b r).1 = 0 then r.v else tz8 0) (hb : Below w.heap.size w w') (ht : Tis w' (fun q => q < w.heap.size) v c) : DecP w b r (.returned (.tuple #[.agg c, .agg f])) w' := by
  subst hf
  subst hv
  exact ⟨hb, c, rfl, ht⟩
/-- Two new blocks, written. -/
theorem two_mk8 (w : World) (c f : Array Value) : Below w.heap.size w ((((w.alloc (.cells zv 62)).alloc (.cells zf 72)).setRow w.heap.size c).setRow (w.heap.size + 1) f) ∧ ((((w.alloc (.cells zv 62)).alloc (.cells zf 72)).setRow w.heap.size c).setRow (w.heap.size + 1) f).heap[w.heap.size]? = some (.cells c 62 (0, 0)) ∧ ((((w.alloc (.cells zv 62)).alloc (.cells zf 72)).setRow w.heap.size c).setRow (w.heap.size + 1) f).heap[w.heap.size + 1]? = some (.cells f 72 (0, 0)) := by
  have hb0 := below_alloc4 w (.cells zv 62)
  have hb1 := below_alloc4 (w.alloc (.cells zv 62)) (.cells zf 72)
  have hs1 : (w.alloc (.cells zv 62)).heap.size = w.heap.size + 1 := by simp
  have hF : Fst8 w ((w.alloc (.cells zv 62)).alloc (.cells zf 72)) zv zf := by
    refine ⟨hb0.trans (hb1.mono hb0.size), ?_, ?_⟩
    · have h := heap_alloc_new w (.cells zv 62)
      exact (hb1.block _ (blk_lt h)).trans h
    · have h := heap_alloc_new (w.alloc (.cells zv 62)) (.cells zf 72)
      rw [hs1] at h
      exact h
  have h2 := (hF.setR c).setF f
  exact ⟨h2.b, h2.r, h2.f⟩
theorem two_new8 (w : World) : Fst8 w ((w.alloc (.cells zv 62)).alloc (.cells zf 72)) zv zf := by
  have hb0 := below_alloc4 w (.cells zv 62)
  have hb1 := below_alloc4 (w.alloc (.cells zv 62)) (.cells zf 72)
  have hs1 : (w.alloc (.cells zv 62)).heap.size = w.heap.size + 1 := by simp
  refine ⟨hb0.trans (hb1.mono hb0.size), ?_, ?_⟩
  · have h := heap_alloc_new w (.cells zv 62)
    exact (hb1.block _ (blk_lt h)).trans h
  · have h := heap_alloc_new (w.alloc (.cells zv 62)) (.cells zf 72)
    rw [hs1] at h
    exact h
set_option maxRecDepth 1000000 in
set_option maxHeartbeats 4000000 in
/-- Decode, as First tells. -/
theorem decode8_from (w : World) (vB : Value) (b : List Nat) (hB : BSl w vB b) (hbl : b.length ≤ 8388608) (D : Int) (R : Res) (hE : R.e ≠ 0 → R.v = tz8 0) (hP : R.p ≤ b.length)
    (hF : Calls Tryz.prog 24 #[vB, .int .i64 D] ((w.alloc (.cells zv 62)).alloc (.cells zf 72)) (FirstP ((w.alloc (.cells zv 62)).alloc (.cells zf 72)) R)) :
    Calls Tryz.prog 20 #[vB, .int .i64 D] w (DecP w b R) := by
  have HF2 := hide (two_new8 w)
  have hs2 : ((w.alloc (.cells zv 62)).alloc (.cells zf 72)).heap.size = w.heap.size + 2 := by simp
  have HFC := hide hF
  have HS2 := hide hs2
  have HEB : Hid (R.e ≠ 0 → R.v = tz8 0) := hE
  have HPL := hide hP
  have HBL := hide hbl
  obtain ⟨⟨aB, cB, hvB, _, _⟩, _, _⟩ := hB
  subst hvB
  clear hbl hs2 hE hP hF
  unfold zv zf at HF2 HS2 HFC
  go_enter Tryz.func20, Tryz.ntmps20
  go_wp2_with fail
  generalize (w.alloc (.cells #[.int .i64 0, .bool false, .bool false, .int .u64 0, .int .u64 0, .string ⟨#[]⟩, .slice none 0 0, .int .i64 0, .int .u64 0, .int .u64 0, .string ⟨#[]⟩, .slice none 0 0, .slice none 0 0] 62)).alloc (.cells #[.int .i64 0, .int .i64 0] 72) = w2 at *
  have HF2 : Hid (Fst8 w w2 zv zf) := HF2
  refine HFC.out.mono ?_
  rintro e w3 ⟨hb3, c, rfl, ht3⟩
  have HF3 := hide (HF2.out.next (hb3.mono (by have := HS2.out; omega)))
  have HW3 : Hid (w.heap.size + 2 ≤ w3.heap.size) := by show _ ≤ _; have := hb3.size; have := HS2.out; omega
  have HTR : Hid (Tis w3 (fun q => q < w.heap.size + 2) R.v c) := ht3.mono (fun q hq => by have := HS2.out; omega)
  clear hb3 ht3 HF2 HFC HS2
  obtain ⟨re, rp, rv⟩ := R
  simp only at HPL HTR HEB
  generalize hnu : (if re = 0 then rp else 0) = nu at *
  generalize hfa : (if re = 0 then 0 else rp) = fa at *
  have HNU := hide hnu
  have HFA := hide hfa
  have hmk := two_mk8 w3 c (fcs re fa)
  have hF0 := two_new8 w3
  have HN5 := hide hF0.r
  have HN6 := hide (hF0.setR c).f
  have HI5 : Hid ((Tryz.prog.info? 62).map (·.size) = some c.size) := by show _ = _; rw [HTR.out.tin.size13]; exact infoV
  have HZ5 : Hid (zv.size = c.size) := by show _ = _; rw [HTR.out.tin.size13]; rfl
  have HC13 := hide HTR.out.tin.size13
  have HA5 := hide HTR.out.tin.all1
  have HIF : Hid ((Tryz.prog.info? 72).map (·.size) = some (fcs re fa).size) := infoF8
  have HAF := hide (fcs_all re fa)
  have HF5 := hide (HF3.out.next (hmk.1.mono (by have := HW3.out; omega)))
  have HV5 := hide hmk.2.1
  have HG5 := hide hmk.2.2
  have HT5 := hide (HTR.out.kp (Kp.of_below hmk.1))
  clear hmk hnu hfa HTR hF0
  simp only [fcs] at HF5 HV5 HG5 HT5 HIF HAF
  unfold zv zf at HF5 HV5 HG5 HT5
  go_upto_region 2 with (first
    | (refine wpList_storeRow rfl rfl w3.heap.size zv c 62 rfl rfl HN5.out HI5.out HZ5.out HA5.out ?_)
    | (refine wpList_storeRow rfl rfl (w3.heap.size + 1) zf #[.int .i64 (re : Nat), .int .i64 (fa : Nat)] 72 rfl rfl HN6.out HIF.out rfl HAF.out ?_))
  (try simp only [Act.put]); (try simp only [List.setIfInBounds_toArray, List.set_cons_zero, List.set_cons_succ])
  generalize (((w3.alloc (.cells #[.int .i64 0, .bool false, .bool false, .int .u64 0, .int .u64 0, .string ⟨#[]⟩, .slice none 0 0, .int .i64 0, .int .u64 0, .int .u64 0, .string ⟨#[]⟩, .slice none 0 0, .slice none 0 0] 62)).alloc (.cells #[.int .i64 0, .int .i64 0] 72)).setRow w3.heap.size c).setRow (w3.heap.size + 1) #[.int .i64 (re : Nat), .int .i64 (fa : Nat)] = w5 at *
  have HF5 : Hid (Fst8 w w5 zv zf) := HF5
  have HG5 : Hid (w5.heap[w3.heap.size + 1]? = some (.cells (fcs re fa) 72 (0, 0))) := HG5
  have HIF : Hid ((Tryz.prog.info? 72).map (·.size) = some (fcs re fa).size) := infoF8
  have HAF := hide (fcs_all re fa)
  have HIR : Hid ((Tryz.prog.info? 62).map (·.size) = some zv.size) := infoV
  have HZA := hide zv_all8
  have HR5 := hide HF5.out.r
  clear HN5 HN6 HF3
  have c0 : w5.cell? ⟨w3.heap.size + 1, 0, none⟩ = some (.int .i64 (re : Nat)) := blk_cell (j := 0) HG5.out rfl
  by_cases h5 : re = 0 ∧ rp < b.length
  · as_aux_lemma =>
    obtain ⟨h0, hl⟩ := h5
    have gk : ((re : Int) == 0) = true := beq_iff_eq.2 (by omega)
    have hnu : nu = rp := by rw [← HNU.out, if_pos h0]
    subst hnu
    have gl : decide (nu < b.length) = true := decide_eq_true hl
    have gl2 : (nu : Int) < (b.length : Int) := by omega
    have HDF : Hid (fcs 85 nu = fcs (dflt b ⟨re, nu, rv⟩).1 (dflt b ⟨re, nu, rv⟩).2) := by show _ = _; unfold dflt; rw [if_pos h0, if_pos hl]
    have HDV : Hid (tz8 0 = if (dflt b ⟨re, nu, rv⟩).1 = 0 then rv else tz8 0) := by show _ = _; unfold dflt; rw [if_pos h0, if_pos hl]; rfl
    have HFF := hide (HF5.out.setR zv).f
    have HI85 : Hid ((Tryz.prog.info? 72).map (·.size) = some (fcs 85 nu).size) := infoF8
    have HA85 := hide (fcs_all 85 nu)
    clear h0 hl
    go_wp2_with (first
      | (refine wpList_storeRow rfl rfl w.heap.size zv zv 62 rfl rfl HR5.out HIR.out rfl HZA.out ?_)
      | (refine wpList_storeRow rfl rfl (w.heap.size + 1) zf (fcs 85 nu) 72 rfl rfl HFF.out HI85.out rfl HA85.out ?_))
    have hFE := (HF5.out.setR zv).setF (fcs 85 nu)
    exact bodyPost_ret (end_decode rfl hFE.r rfl hFE.f rfl rfl) rfl (DecP.mk HDF.out HDV.out hFE.b (tz8_tis _ _))
  have HDF : Hid (fcs re fa = fcs (dflt b ⟨re, rp, rv⟩).1 (dflt b ⟨re, rp, rv⟩).2) := by
    show _ = _
    unfold dflt
    by_cases h0 : re = 0
    · rw [if_pos h0, if_neg (fun h => h5 ⟨h0, h⟩), h0, ← HFA.out, if_pos h0]
    · rw [if_neg h0, ← HFA.out, if_neg h0]
  have HDV : Hid (rv = if (dflt b ⟨re, rp, rv⟩).1 = 0 then rv else tz8 0) := by
    show _ = _
    unfold dflt
    by_cases h0 : re = 0
    · rw [if_pos h0, if_neg (fun h => h5 ⟨h0, h⟩)]; rfl
    · rw [if_neg h0, if_neg h0]
      exact HEB.out h0
  go_cut [24] from 9 to 25 (fun vv wx => vv = .bool false ∧ wx = w5)
  case first =>
    by_cases h0 : re = 0
    · as_aux_lemma =>
      have gk : ((re : Int) == 0) = true := beq_iff_eq.2 (by omega)
      have hnu : nu = rp := by rw [← HNU.out, if_pos h0]
      subst hnu
      have gl : decide (nu < b.length) = false := decide_eq_false (fun h => h5 ⟨h0, h⟩)
      have gl2 : ¬ (nu : Int) < (b.length : Int) := fun h => h5 ⟨h0, by omega⟩
      clear h0 h5
      go_wp2_with fail
      go_meet
      case rel => exact ⟨rfl, rfl⟩
    · as_aux_lemma =>
      have gk : ((re : Int) == 0) = false := beq_eq_false_iff_ne.2 (by omega)
      clear h0 h5
      go_wp2_with fail
      go_meet
      case rel => exact ⟨rfl, rfl⟩
  obtain ⟨rfl, hww⟩ := hcut
  have hww := hww.symm
  subst hww
  clear h5 c0
  have HFF := hide (HF5.out.setR c).f
  go_upto_region 4 with fail
  refine heldStart (S := fun wy => wy.heap[w3.heap.size]? = some (.cells c 62 (0, 0)) ∧ wy.heap[w3.heap.size + 1]? = some (.cells (fcs re fa) 72 (0, 0))) (by kernel_rfl) ?_
  have hS : w5.drew.heap[w3.heap.size]? = some (.cells c 62 (0, 0)) ∧ w5.drew.heap[w3.heap.size + 1]? = some (.cells (fcs re fa) 72 (0, 0)) := ⟨HV5.out, HG5.out⟩
  refine heldTake 0 (.agg c) rfl (by kernel_rfl) (by kernel_rfl) (by kernel_rfl) (fun _ _ _ h => h) rfl hS (fun wy hy => exec_valAt (g := w3.heap.size) (off := 0) (cs := c) rfl rfl HC13.out (fun j u hu => by rw [Nat.zero_add]; exact blk_cell hy.1 hu)) ?_
  (try simp only [Act.put]); (try simp only [List.setIfInBounds_toArray, List.set_cons_zero, List.set_cons_succ])
  refine heldTake 1 (.agg (fcs re fa)) rfl (by kernel_rfl) (by kernel_rfl) (by kernel_rfl) (fun _ _ _ h => h) rfl hS (fun wy hy => exec_fltAt (g := w3.heap.size + 1) rfl rfl rfl hy.2) ?_
  (try simp only [Act.put]); (try simp only [List.setIfInBounds_toArray, List.set_cons_zero, List.set_cons_succ])
  refine heldStep 2 rfl (by kernel_rfl) (fun K hK => ?_)
  refine step_storeRow rfl rfl w.heap.size zv c 62 rfl rfl HR5.out HI5.out HZ5.out HA5.out ?_
  have hrk := row_kp w5.drew w.heap.size c
  refine (Hid.out hK) _ _ ⟨(hrk.block _ (blk_lt hS.1) (by have := HW3.out; omega)).trans hS.1, (hrk.block _ (blk_lt hS.2) (by have := HW3.out; omega)).trans hS.2⟩ (fun hS4 => ?_)
  clear hK K hS
  (try simp only [Act.put]); (try simp only [List.setIfInBounds_toArray, List.set_cons_zero, List.set_cons_succ])
  refine heldStep 3 rfl (by kernel_rfl) (fun K hK => ?_)
  refine step_storeRow rfl rfl (w.heap.size + 1) zf (fcs re fa) 72 rfl rfl HFF.out HIF.out rfl HAF.out ?_
  have hrk2 := row_kp (w5.drew.setRow w.heap.size c) (w.heap.size + 1) (fcs re fa)
  refine (Hid.out hK) _ _ ⟨(hrk2.block _ (blk_lt hS4.1) (by have := HW3.out; omega)).trans hS4.1, (hrk2.block _ (blk_lt hS4.2) (by have := HW3.out; omega)).trans hS4.2⟩ (fun hS5 => ?_)
  clear hK K hS4
  (try simp only [Act.put]); (try simp only [List.setIfInBounds_toArray, List.set_cons_zero, List.set_cons_succ])
  refine heldDone (by kernel_rfl) ?_
  clear hS5
  go_wp2_with fail
  have hFD : Fst8 w w5.drew zv zf := HF5.out.next (by refine Below.drew ?_; exact Below.refl _ _)
  have hFE := (hFD.setR c).setF (fcs re fa)
  have hkk : Kp (fun q => q < w.heap.size + 2) w5 ((w5.drew.setRow w.heap.size c).setRow (w.heap.size + 1) (fcs re fa)) := ((Kp.refl (fun q => q < w.heap.size + 2) w5).drew.trans hrk (fun q _ e => by omega)).trans hrk2 (fun q _ e => by omega)
  exact bodyPost_ret (end_decode HC13.out hFE.r rfl hFE.f rfl rfl) rfl (DecP.mk HDF.out HDV.out hFE.b ((HT5.out.kp hkk).mono (fun q hq => by omega)))
/-- Check tells Decode's fault alone. -/
def ChkP8 (w : World) (e p : Nat) (x : Ending) (w' : World) : Prop := Below w.heap.size w w' ∧ x = .returned (.agg (fcs e p))
theorem decode8_any (W : World) (hT : Tabs W) (w : World) (hW : Below W.heap.size W w) (vB : Value) (b : List Nat) (hB : BSl w vB b) (hBq : ∀ q, vB.ownBlock = some q → q < w.heap.size) (hbl : b.length ≤ 8388608) (d : Nat) (hd : d ≤ 1024) (N : Nat) (R : Res) (hR : mrun b d N m0 = some R) :
    Calls Tryz.prog 20 #[vB, .int .i64 (d : Nat)] w (DecP w b R) := by
  have hs2 : ((w.alloc (.cells zv 62)).alloc (.cells zf 72)).heap.size = w.heap.size + 2 := by simp
  have hb2 := (two_new8 w).b
  exact decode8_from w vB b hB hbl d R (mrun_bad hR) (mrun_at (Nat.zero_le _ : m0.p ≤ b.length) hR).2
    (first8_any W hT ((w.alloc (.cells zv 62)).alloc (.cells zf 72)) (hW.trans (hb2.mono hW.size)) vB b (hB.move (keep_below hb2)) (fun q hq => by have := hBq q hq; omega) hbl d hd N R hR)
set_option maxRecDepth 1000000 in
set_option maxHeartbeats 4000000 in
theorem check8_any (W : World) (hT : Tabs W) (w : World) (hW : Below W.heap.size W w) (vB : Value) (b : List Nat) (hB : BSl w vB b) (hBq : ∀ q, vB.ownBlock = some q → q < w.heap.size) (hbl : b.length ≤ 8388608) (d : Nat) (hd : d ≤ 1024) (N : Nat) (R : Res) (hR : mrun b d N m0 = some R) :
    Calls Tryz.prog 25 #[vB, .int .i64 (d : Nat)] w (ChkP8 w (dflt b R).1 (dflt b R).2) := by
  have hb1 := below_alloc4 w (.cells zf 72)
  have HN1 := hide (heap_alloc_new w (.cells zf 72))
  have HB1 := hide hb1
  have HDC := hide (decode8_any W hT (w.alloc (.cells zf 72)) (hW.trans (hb1.mono hW.size)) vB b (hB.move (keep_below hb1)) (fun q hq => by have h1 := hBq q hq; have h2 := hb1.size; omega) hbl d hd N R hR)
  obtain ⟨⟨aB, cB, hvB, _, _⟩, _, _⟩ := hB
  subst hvB
  clear hT hW hBq hbl hR hd hb1
  unfold zf at HN1 HB1 HDC
  go_enter Tryz.func25, Tryz.ntmps25
  go_wp2_with fail
  generalize w.alloc (.cells #[.int .i64 0, .int .i64 0] 72) = w1 at *
  refine HDC.out.mono ?_
  rintro e w3 ⟨hb3, c, rfl, ht3⟩
  generalize (dflt b R).1 = fe at *
  generalize (dflt b R).2 = fp at *
  generalize (if fe = 0 then R.v else tz8 0) = tv at *
  have hF0 := two_new8 w3
  have HN5 := hide hF0.r
  have HN6 := hide (hF0.setR c).f
  have hmk := two_mk8 w3 c (fcs fe fp)
  have HI5 : Hid ((Tryz.prog.info? 62).map (·.size) = some c.size) := by show _ = _; rw [ht3.tin.size13]; exact infoV
  have HZ5 : Hid (zv.size = c.size) := by show _ = _; rw [ht3.tin.size13]; rfl
  have HA5 := hide ht3.tin.all1
  have HIF : Hid ((Tryz.prog.info? 72).map (·.size) = some (fcs fe fp).size) := infoF8
  have HAF := hide (fcs_all fe fp)
  have HN1 : Hid (w1.heap[w.heap.size]? = some (.cells zf 72 (0, 0))) := HN1
  have hb13 : Below w1.heap.size w1 ((((w3.alloc (.cells zv 62)).alloc (.cells zf 72)).setRow w3.heap.size c).setRow (w3.heap.size + 1) (fcs fe fp)) := hb3.trans (hmk.1.mono hb3.size)
  have HR5 := hide ((hb13.block _ (blk_lt HN1.out)).trans HN1.out)
  have HB5 : Hid (Below w.heap.size w ((((w3.alloc (.cells zv 62)).alloc (.cells zf 72)).setRow w3.heap.size c).setRow (w3.heap.size + 1) (fcs fe fp))) := HB1.out.trans (hb13.mono HB1.out.size)
  have HG5 := hide hmk.2.2
  clear hb3 ht3 hF0 hmk hb13 HDC
  go_wp2_with (first
    | (refine wpList_storeRow rfl rfl w3.heap.size zv c 62 rfl rfl HN5.out HI5.out HZ5.out HA5.out ?_)
    | (refine wpList_storeRow rfl rfl (w3.heap.size + 1) zf (fcs fe fp) 72 rfl rfl HN6.out HIF.out rfl HAF.out ?_)
    | (refine wpList_exec rfl (exec_fltAt (g := w3.heap.size + 1) (c := fcs fe fp) rfl rfl rfl HG5.out) ?_)
    | (refine wpList_storeRow rfl rfl w.heap.size zf (fcs fe fp) 72 rfl rfl HR5.out HIF.out rfl HAF.out ?_))
  have hkr := row_kp ((((w3.alloc (.cells zv 62)).alloc (.cells zf 72)).setRow w3.heap.size c).setRow (w3.heap.size + 1) (fcs fe fp)) w.heap.size (fcs fe fp)
  exact bodyPost_ret (end_check rfl (row_same HR5.out) rfl) rfl ⟨HB5.out.trans (hkr.below HB5.out.size (fun q e => by omega)), rfl⟩
end
section
open Go.RowKit Go
set_option maxRecDepth 1000000 in
set_option maxHeartbeats 4000000 in
/-- First of a depth that may not be. -/
theorem first8_wild (w : World) (vB : Value) (b : List Nat) (hB : BSl w vB b) (D : Int) (hD : D < 0 ∨ 1024 < D) :
    Calls Tryz.prog 24 #[vB, .int .i64 D] w (FirstP w ⟨80, 0, tz8 0⟩) := by
  obtain ⟨⟨aB, cB, hvB, _⟩, _⟩ := hB
  subst hvB
  have HF2 := hide (two_new8 w)
  have HR5 := hide HF2.out.r
  have HFF := hide (HF2.out.setR zv).f
  have HIR : Hid ((Tryz.prog.info? 62).map (·.size) = some zv.size) := infoV
  have HZA := hide zv_all8
  have HIF : Hid ((Tryz.prog.info? 72).map (·.size) = some (fcs 80 0).size) := infoF8
  have HAF := hide (fcs_all 80 0)
  unfold zv zf at HF2 HR5 HFF
  by_cases g1 : D < 0
  · clear hD
    go_enter Tryz.func24, Tryz.ntmps24
    go_upto_region 2 with fail
    generalize (w.alloc (.cells #[.int .i64 0, .bool false, .bool false, .int .u64 0, .int .u64 0, .string ⟨#[]⟩, .slice none 0 0, .int .i64 0, .int .u64 0, .int .u64 0, .string ⟨#[]⟩, .slice none 0 0, .slice none 0 0] 62)).alloc (.cells #[.int .i64 0, .int .i64 0] 72) = w2 at *
    have HF2 : Hid (Fst8 w w2 zv zf) := HF2
    go_wp2_with (first
      | (refine wpList_storeRow rfl rfl w.heap.size zv zv 62 rfl rfl HR5.out HIR.out rfl HZA.out ?_)
      | (refine wpList_storeRow rfl rfl (w.heap.size + 1) zf (fcs 80 0) 72 rfl rfl HFF.out HIF.out rfl HAF.out ?_))
    have hFE := (HF2.out.setR zv).setF (fcs 80 0)
    exact bodyPost_ret (end_first rfl hFE.r rfl hFE.f rfl rfl rfl) rfl (FirstP.mk (r := ⟨80, 0, tz8 0⟩) rfl rfl hFE.b (tz8_tis _ _))
  · have g2 : 1024 < D := by omega
    clear hD
    go_enter Tryz.func24, Tryz.ntmps24
    go_upto_region 2 with fail
    generalize (w.alloc (.cells #[.int .i64 0, .bool false, .bool false, .int .u64 0, .int .u64 0, .string ⟨#[]⟩, .slice none 0 0, .int .i64 0, .int .u64 0, .int .u64 0, .string ⟨#[]⟩, .slice none 0 0, .slice none 0 0] 62)).alloc (.cells #[.int .i64 0, .int .i64 0] 72) = w2 at *
    have HF2 : Hid (Fst8 w w2 zv zf) := HF2
    go_wp2_with (first
      | (refine wpList_storeRow rfl rfl w.heap.size zv zv 62 rfl rfl HR5.out HIR.out rfl HZA.out ?_)
      | (refine wpList_storeRow rfl rfl (w.heap.size + 1) zf (fcs 80 0) 72 rfl rfl HFF.out HIF.out rfl HAF.out ?_))
    have hFE := (HF2.out.setR zv).setF (fcs 80 0)
    exact bodyPost_ret (end_first rfl hFE.r rfl hFE.f rfl rfl rfl) rfl (FirstP.mk (r := ⟨80, 0, tz8 0⟩) rfl rfl hFE.b (tz8_tis _ _))
/-- Decode of a depth that may not be. -/
theorem decode8_wild (w : World) (vB : Value) (b : List Nat) (hB : BSl w vB b) (hbl : b.length ≤ 8388608) (D : Int) (hD : D < 0 ∨ 1024 < D) : Calls Tryz.prog 20 #[vB, .int .i64 D] w (DecP w b ⟨80, 0, tz8 0⟩) :=
  decode8_from w vB b hB hbl D ⟨80, 0, tz8 0⟩ (fun _ => rfl) (Nat.zero_le _) (first8_wild _ vB b (hB.move (keep_below (two_new8 w).b)) D hD)
end
end Go.Proofs.YtadilnmkjcmnnaaGreatDoor

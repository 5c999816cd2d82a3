import Derived.Test.YtdejcapbggjjgaaGreatDoorJs
namespace Go.Proofs.YtdejcapbggjjgaaGreatDoor
section
open Go.RowKit Go
/-- The answer that is asked for, whatever the depth. -/
def Asked (b : List Nat) (D : Int) (r : Res) : Prop := (∃ d N : Nat, D = (d : Int) ∧ d ≤ 1024 ∧ mrun b d N ⟨.plain, 0, []⟩ = some r) ∨ ((D < 0 ∨ 1024 < D) ∧ r = ⟨80, 0, tz8 0⟩)
/-- What the reference's First tells. -/
def RfP (w : World) (r : Res) (e : Ending) (w' : World) : Prop := Below w.heap.size w w' ∧ ∃ c, e = .returned (.tuple #[.agg c, .int .i64 ((if r.e = 0 then r.p else 0 : Nat) : Int), .agg (fce r.e (if r.e = 0 then 0 else r.p))]) ∧ Tis w' (fun q => q < w.heap.size) r.v c
theorem RfP.mk {w w' : World} {r r' : Res} {c f : Array Value} {n : Int} (hr : r' = r) (hn : n = ((if r.e = 0 then r.p else 0 : Nat) : Int)) (hf : f = fce r.e (if r.e = 0 then 0 else r.p)) (hb : Below w.heap.size w w') (ht : Tis w' (fun q => q < w.heap.size) r.v c) : RfP w r' (.returned (.tuple #[.agg c, .int .i64 n, .agg f])) w' := by
  subst hr
  subst hn
  subst hf
  exact ⟨hb, c, rfl, ht⟩
theorem zv_tis (w : World) (S : Nat → Prop) : Tis w S (tz8 0) zv := plain_tis w S (leaf_tbd (t := tz8 0) (by show (0 : Nat) < _; decide) (by show (0 : Nat) < _; decide) (by show (ByteArray.mk #[]).size ≤ _; decide) (by show (0 : Nat) ≤ _; decide) rfl) rfl rfl rfl
theorem end_rfirst {wx : World} {R F : Nat} {c f : Array Value} {n : Int} {tmps : Array Value} (hn : c.size = 13) (hr : wx.heap[R]? = some (.cells c 61 (0, 0))) (hf : f.size = 2) (hfr : wx.heap[F]? = some (.cells f 64 (0, 0))) (hp : tmps.getD 4 undef = .pointer (some ⟨R, 0, none⟩)) (hm : tmps.getD 5 undef = .int .i64 n) (hq : tmps.getD 6 undef = .pointer (some ⟨F, 0, none⟩)) : (results Tryz.f16 tmps).run Tryz.prog wx = .ok (.tuple #[.agg c, .int .i64 n, .agg f]) wx := by
  have h1 := run_loadVar_row (P := Tryz.prog) wx R 61 61 c (0, 0) _ hr Tryz.underlying61 rfl (by rw [hn]; exact infoV)
  have h2 := run_loadVar_row (P := Tryz.prog) wx F 64 64 f (0, 0) _ hfr Tryz.underlying64 rfl (by rw [hf]; exact infoFE)
  refine (results_ctcE rfl _ _ _).trans ?_
  rw [hp, hm, hq]
  simp [asAddr, h1, h2, Result.andThen]
/-- Two blocks for the answer. -/
structure Rf2 (w wx : World) : Prop where
  r : wx.heap[w.heap.size]? = some (.cells zv 61 (0, 0))
  f : wx.heap[w.heap.size + 1]? = some (.cells zfe 64 (0, 0))
  b : Below w.heap.size w wx
theorem Rf2.start (w : World) : Rf2 w ((w.alloc (.cells zv 61)).alloc (.cells zfe 64)) := by
  have h1 := heap_alloc_new w (.cells zv 61)
  have e1 : (w.alloc (.cells zv 61)).heap.size = w.heap.size + 1 := by simp
  have h2 := heap_alloc_new (w.alloc (.cells zv 61)) (.cells zfe 64)
  rw [e1] at h2
  exact ⟨blk_alloc _ h1, h2, (below_alloc4 w (.cells zv 61)).alloc (by omega) (.cells zfe 64)⟩
theorem Rf2.next {w wx wy : World} (h : Rf2 w wx) (hb : Below wx.heap.size wx wy) : Rf2 w wy := ⟨(hb.block _ (blk_lt h.r)).trans h.r, (hb.block _ (blk_lt h.f)).trans h.f, h.b.trans (hb.mono h.b.size)⟩
theorem Rf2.z {w wx : World} (h : Rf2 w wx) : w.heap.size + 2 ≤ wx.heap.size := blk_lt h.f
theorem Rf2.ret {w wx : World} (h : Rf2 w wx) (cv f : Array Value) : (wx.setRow w.heap.size cv).heap[w.heap.size + 1]? = some (.cells zfe 64 (0, 0)) ∧ ((wx.setRow w.heap.size cv).setRow (w.heap.size + 1) f).heap[w.heap.size]? = some (.cells cv 61 (0, 0)) ∧ ((wx.setRow w.heap.size cv).setRow (w.heap.size + 1) f).heap[w.heap.size + 1]? = some (.cells f 64 (0, 0)) ∧ Kp (fun q => q < w.heap.size + 2) wx ((wx.setRow w.heap.size cv).setRow (w.heap.size + 1) f) ∧ Below w.heap.size w ((wx.setRow w.heap.size cv).setRow (w.heap.size + 1) f) := by
  have k1 := row_kp wx w.heap.size cv
  have k2 := row_kp (wx.setRow w.heap.size cv) (w.heap.size + 1) f
  have a1 := (k1.block _ (blk_lt h.f) (by omega)).trans h.f
  have r1 := row_same (cs := cv) h.r
  have b1 := h.b.trans (k1.below h.b.size (fun q e => by omega))
  exact ⟨a1, (k2.block _ (blk_lt r1) (by omega)).trans r1, row_same a1, (k1.mono (fun q _ e => by omega)).trans k2 (fun q _ e => by omega), b1.trans (k2.below b1.size (fun q e => by omega))⟩
set_option maxRecDepth 1000000 in
set_option maxHeartbeats 4000000 in
theorem rfirst8_any (w : World) (vB : Value) (b : List Nat) (hB : BSl w vB b) (hbl : b.length ≤ 8388608) (D : Int) (R : Res) (hR : Asked b D R) : Calls Tryz.prog 16 #[vB, .int .i64 D] w (RfP w R) := by
  have HB := hide hB
  have HBL := hide hbl
  obtain ⟨⟨aB, cB, hvB, _⟩, _, _⟩ := hB
  subst hvB
  have HI := hide (Rf2.start w)
  have HIR : Hid ((Tryz.prog.info? 61).map (·.size) = some zv.size) := infoV
  have HZA : Hid (zv.all (·.oneCell') = true) := by show _ = _; simp [zv, Value.oneCell']
  have HIF : Hid (∀ e p, (Tryz.prog.info? 64).map (·.size) = some (fce e p).size) := fun _ _ => infoFE
  have HIZ : Hid ((Tryz.prog.info? 64).map (·.size) = some zfe.size) := infoFE
  have HAZ : Hid (zfe.all (·.oneCell') = true) := fce_all 0 0
  clear hbl
  rcases hR with ⟨d, N, rfl, hd, hrun⟩ | ⟨hD, rfl⟩
  · have g1 : ¬ (d : Int) < 0 := by omega
    have g2 : ¬ (1024 : Int) < (d : Int) := by omega
    have HRN := hide hrun
    have HIC : Hid (∀ wx : World, Below w.heap.size w wx → Calls Tryz.prog 23 #[.slice aB b.length cB, .int .i64 (d : Nat), .agg #[.int .i64 0, .int .i64 0, .int .i64 0, .string ⟨#[]⟩, .bool false]] wx fun e w' => Ans wx e w' (ItG b d 0 0 0 []) (ItE b d 0 0 0 [])) := fun wx hb => item8_any b HBL.out d hd 0 (Nat.zero_le _) wx (.slice aB b.length cB) 0 0 ⟨#[]⟩ false [] (HB.out.move (keep_below hb)) (Nat.zero_le _) (.inl rfl) (fun e => absurd e (by decide))
    clear hrun hd
    unfold zv zfe at HI
    go_enter Tryz.func16, Tryz.ntmps16
    go_wp2_with fail
    generalize (w.alloc (.cells #[.int .i64 0, .bool false, .bool false, .int .u64 0, .int .u64 0, .string ⟨#[]⟩, .slice none 0 0, .int .i64 0, .int .u64 0, .int .u64 0, .string ⟨#[]⟩, .slice none 0 0, .slice none 0 0] 61)).alloc (.cells #[.int .i64 0, .int .i64 0] 64) = w2 at *
    replace HI : Hid (Rf2 w w2) := HI
    refine (HIC.out w2 HI.out.b).mono ?_
    rintro e w3 ⟨hb3, hans⟩
    have HZ2 := hide HI.out.z
    replace HI := hide (HI.out.next hb3)
    clear HIC
    rcases hans with ⟨c, x, m', rfl, ht, hg⟩ | ⟨e1, p1, h0, rfl, he⟩
    · as_aux_lemma =>
      have HRR : Hid (R = ⟨0, m', x⟩) := by
        obtain ⟨n, hn⟩ := (hg.2.2.2 rfl [] rfl).eds (Eds.step (r := ⟨0, m', x⟩) rfl)
        exact mrun_one HRN.out hn
      have HS13 := hide ht.tin.size13
      have HA1 := hide ht.tin.all1
      have HINc : Hid ((Tryz.prog.info? 61).map (·.size) = some c.size) := by show _ = _; rw [HS13.out]; exact infoV
      have HZVc : Hid (zv.size = c.size) := by show _ = _; rw [HS13.out]; rfl
      have hret := HI.out.ret c zfe
      have HFF := hide hret.1
      have HRET := hide hret.2
      have HR4 := hide HI.out.r
      have HTT : Hid (Tis ((w3.setRow w.heap.size c).setRow (w.heap.size + 1) zfe) (fun q => q < w.heap.size) x c) := (ht.kp (hret.2.2.2.1.mono (fun q _ e => by have := HZ2.out; omega))).mono (fun q e => by have := HZ2.out; omega)
      clear hret hb3 ht hg
      go_wp2_with (first
        | (refine wpList_storeRow rfl rfl w.heap.size zv c 61 rfl rfl HR4.out HINc.out HZVc.out HA1.out ?_)
        | (refine wpList_storeRow rfl rfl (w.heap.size + 1) zfe zfe 64 rfl rfl HFF.out HIZ.out rfl HAZ.out ?_))
      exact bodyPost_ret (end_rfirst HS13.out HRET.out.1 rfl HRET.out.2.1 rfl rfl rfl) rfl (RfP.mk (r := ⟨0, m', x⟩) HRR.out rfl rfl HRET.out.2.2.2 HTT.out)
    · as_aux_lemma =>
      have HRR : Hid (R = ⟨e1, p1, tz8 0⟩) := by
        obtain ⟨n, hn⟩ := he.2 rfl [] rfl
        exact mrun_one HRN.out hn
      have hret := HI.out.ret zv (fce e1 p1)
      have HFF := hide hret.1
      have HRET := hide hret.2
      have HR4 := hide HI.out.r
      have HAF := hide (fce_all e1 p1)
      have HE1 : Hid ((0 : Int) = ((if e1 = 0 then p1 else 0 : Nat) : Int)) := by show _ = _; rw [if_neg h0]; rfl
      have HE2 : Hid (fce e1 p1 = fce e1 (if e1 = 0 then 0 else p1)) := by show _ = _; rw [if_neg h0]
      clear hret hb3 he h0
      go_wp2_with (first
        | (refine wpList_storeRow rfl rfl w.heap.size zv zv 61 rfl rfl HR4.out HIR.out rfl HZA.out ?_)
        | (refine wpList_storeRow rfl rfl (w.heap.size + 1) zfe (fce e1 p1) 64 rfl rfl HFF.out (HIF.out e1 p1) rfl HAF.out ?_))
      exact bodyPost_ret (end_rfirst rfl HRET.out.1 rfl HRET.out.2.1 rfl rfl rfl) rfl (RfP.mk (r := ⟨e1, p1, tz8 0⟩) HRR.out HE1.out HE2.out HRET.out.2.2.2 (zv_tis _ _))
  · have HAF := hide (fce_all 80 0)
    have hret := HI.out.ret zv (fce 80 0)
    have HFF := hide hret.1
    have HRET := hide hret.2
    have HR4 := hide HI.out.r
    clear hret
    unfold zv zfe at HI HFF HRET HR4
    by_cases hD0 : D < 0
    · as_aux_lemma =>
      go_enter Tryz.func16, Tryz.ntmps16
      go_wp2_with (first
        | (refine wpList_storeRow rfl rfl w.heap.size zv #[.int .i64 0, .bool false, .bool false, .int .u64 0, .int .u64 0, .string ⟨#[]⟩, .slice none 0 0, .int .i64 0, .int .u64 0, .int .u64 0, .string ⟨#[]⟩, .slice none 0 0, .slice none 0 0] 61 rfl rfl HR4.out HIR.out rfl HZA.out ?_)
        | (refine wpList_storeRow rfl rfl (w.heap.size + 1) zfe (fce 80 0) 64 rfl rfl HFF.out (HIF.out 80 0) rfl HAF.out ?_))
      exact bodyPost_ret (end_rfirst rfl HRET.out.1 rfl HRET.out.2.1 rfl rfl rfl) rfl (RfP.mk (r := ⟨80, 0, tz8 0⟩) rfl rfl rfl HRET.out.2.2.2 (zv_tis _ _))
    · as_aux_lemma =>
      have g2 : (1024 : Int) < D := by omega
      clear hD
      go_enter Tryz.func16, Tryz.ntmps16
      go_wp2_with (first
        | (refine wpList_storeRow rfl rfl w.heap.size zv #[.int .i64 0, .bool false, .bool false, .int .u64 0, .int .u64 0, .string ⟨#[]⟩, .slice none 0 0, .int .i64 0, .int .u64 0, .int .u64 0, .string ⟨#[]⟩, .slice none 0 0, .slice none 0 0] 61 rfl rfl HR4.out HIR.out rfl HZA.out ?_)
        | (refine wpList_storeRow rfl rfl (w.heap.size + 1) zfe (fce 80 0) 64 rfl rfl HFF.out (HIF.out 80 0) rfl HAF.out ?_))
      exact bodyPost_ret (end_rfirst rfl HRET.out.1 rfl HRET.out.2.1 rfl rfl rfl) rfl (RfP.mk (r := ⟨80, 0, tz8 0⟩) rfl rfl rfl HRET.out.2.2.2 (zv_tis _ _))
end
section
open Go.RowKit Go
/-- What the reference's Decode tells. -/
def RdP (w : World) (b : List Nat) (r : Res) (e : Ending) (w' : World) : Prop := Below w.heap.size w w' ∧ ∃ c, e = .returned (.tuple #[.agg c, .agg (fce (dflt b r).1 (dflt b r).2)]) ∧ Tis w' (fun q => q < w.heap.size) (if (dflt b r).1 = 0 then r.v else tz8 0) c
theorem RdP.mk {w w' : World} {b : List Nat} {r : Res} {c f : Array Value} {v : Tv} (hf : f = fce (dflt b r).1 (dflt b r).2) (hv : v = if (dflt b r).1 = 0 then r.v else tz8 0) (hb : Below w.heap.size w w') (ht : Tis w' (fun q => q < w.heap.size) v c) : RdP w b r (.returned (.tuple #[.agg c, .agg f])) w' := by
  subst hf
  subst hv
  exact ⟨hb, c, rfl, ht⟩
theorem results_ccE {fn : Func} {p q : Tmp} {ty ty' : TypeId} (h : fn.results = #[.cell p ty, .cell q ty']) (tmps : Array Value) (P : Program) (w : World) :
    (results fn tmps).run P w = ((asAddr (tmps.getD p undef)).run P w).andThen fun a w₁ => ((loadVar ty a).run P w₁).andThen fun v w₂ => ((asAddr (tmps.getD q undef)).run P w₂).andThen fun b w₃ => ((loadVar ty' b).run P w₃).andThen fun x w₄ => .ok (.tuple #[v, x]) w₄ := by
  simp only [results, h]
  simp [Sem.run_bind, Result.andThen]
theorem end_rdecode {wx : World} {R F : Nat} {c f : Array Value} {tmps : Array Value} (hn : c.size = 13) (hr : wx.heap[R]? = some (.cells c 61 (0, 0))) (hf : f.size = 2) (hfr : wx.heap[F]? = some (.cells f 64 (0, 0))) (hp : tmps.getD 4 undef = .pointer (some ⟨R, 0, none⟩)) (hq : tmps.getD 5 undef = .pointer (some ⟨F, 0, none⟩)) : (results Tryz.f14 tmps).run Tryz.prog wx = .ok (.tuple #[.agg c, .agg f]) wx := by
  have h1 := run_loadVar_row (P := Tryz.prog) wx R 61 61 c (0, 0) _ hr Tryz.underlying61 rfl (by rw [hn]; exact infoV)
  have h2 := run_loadVar_row (P := Tryz.prog) wx F 64 64 f (0, 0) _ hfr Tryz.underlying64 rfl (by rw [hf]; exact infoFE)
  refine (results_ccE rfl _ _ _).trans ?_
  rw [hp, hq]
  simp [asAddr, h1, h2, Result.andThen]
set_option maxRecDepth 1000000 in
set_option maxHeartbeats 4000000 in
theorem rdecode8_any (w : World) (vB : Value) (b : List Nat) (hB : BSl w vB b) (hbl : b.length ≤ 8388608) (D : Int) (R : Res) (hR : Asked b D R) (hE : R.e ≠ 0 → R.v = tz8 0) : Calls Tryz.prog 14 #[vB, .int .i64 D] w (RdP w b R) := by
  have HFC : Hid (∀ wx : World, Below w.heap.size w wx → Calls Tryz.prog 16 #[vB, .int .i64 D] wx (RfP wx R)) := fun wx hb => rfirst8_any wx vB b (hB.move (keep_below hb)) hbl D R hR
  have HEB := hide hE
  have HBL := hide hbl
  obtain ⟨⟨aB, cB, hvB, _⟩, _, _⟩ := hB
  subst hvB
  have HI := hide (Rf2.start w)
  have HIR : Hid ((Tryz.prog.info? 61).map (·.size) = some zv.size) := infoV
  have HZA : Hid (zv.all (·.oneCell') = true) := by show _ = _; simp [zv, Value.oneCell']
  have HIF : Hid (∀ e p, (Tryz.prog.info? 64).map (·.size) = some (fce e p).size) := fun _ _ => infoFE
  clear hbl hE hR
  unfold zv zfe at HI
  go_enter Tryz.func14, Tryz.ntmps14
  go_wp2_with fail
  generalize (w.alloc (.cells #[.int .i64 0, .bool false, .bool false, .int .u64 0, .int .u64 0, .string ⟨#[]⟩, .slice none 0 0, .int .i64 0, .int .u64 0, .int .u64 0, .string ⟨#[]⟩, .slice none 0 0, .slice none 0 0] 61)).alloc (.cells #[.int .i64 0, .int .i64 0] 64) = w2 at *
  replace HI : Hid (Rf2 w w2) := HI
  refine (HFC.out w2 HI.out.b).mono ?_
  rintro e w3 ⟨hb3, c, rfl, ht⟩
  have HZ2 := hide HI.out.z
  replace HI := hide (HI.out.next hb3)
  have HZ3 := hide HI.out.z
  obtain ⟨re, rp, rv⟩ := R
  simp only at ht HEB
  generalize hfp : (if re = 0 then 0 else rp) = fp at *
  generalize hnp : (if re = 0 then rp else 0) = np at *
  have HFP := hide hfp
  have HNP := hide hnp
  have HX := hide (bx2 w3 c (fce re fp))
  have HXa := hide HX.out.a
  have HXb := hide HX.out.b
  have HAF := hide (fce_all re fp)
  replace HI := hide (HI.out.next HX.out.l)
  have HV3 := hide HX.out.x
  have HY3 := hide HX.out.y
  have HTI := hide (ht.kp (Kp.of_below HX.out.l))
  have HS13 := hide ht.tin.size13
  have HA1 := hide ht.tin.all1
  have HINc : Hid ((Tryz.prog.info? 61).map (·.size) = some c.size) := by show _ = _; rw [HS13.out]; exact infoV
  have HZVc : Hid (zv.size = c.size) := by show _ = _; rw [HS13.out]; rfl
  clear HX hb3 ht hfp hnp HFC
  go_upto_region 2 with (first
    | (refine wpList_storeRow rfl rfl w3.heap.size zv c 61 rfl rfl HXa.out HINc.out HZVc.out HA1.out ?_)
    | (refine wpList_storeRow rfl rfl (w3.heap.size + 1) zfe (fce re fp) 64 rfl rfl HXb.out (HIF.out re fp) rfl HAF.out ?_))
  unfold zv zfe at HI HV3 HY3 HTI
  generalize (((w3.alloc (.cells #[.int .i64 0, .bool false, .bool false, .int .u64 0, .int .u64 0, .string ⟨#[]⟩, .slice none 0 0, .int .i64 0, .int .u64 0, .int .u64 0, .string ⟨#[]⟩, .slice none 0 0, .slice none 0 0] 61)).alloc (.cells #[.int .i64 0, .int .i64 0] 64)).setRow w3.heap.size c).setRow (w3.heap.size + 1) (fce re fp) = w4 at *
  replace HI : Hid (Rf2 w w4) := HI
  clear HXa HXb
  have k3 := blk_cell (j := 0) (v := .int .i64 (re : Nat)) HY3.out rfl
  by_cases h0 : re = 0
  · have gk : ((re : Int) == 0) = true := beq_iff_eq.2 (by omega)
    by_cases hlt : np < b.length
    · as_aux_lemma =>
      have g1 : (np : Int) < (b.length : Int) := by omega
      have hnp : np = rp := by rw [← HNP.out, if_pos h0]
      have HD1 : Hid (fce 85 np = fce (dflt b ⟨re, rp, rv⟩).1 (dflt b ⟨re, rp, rv⟩).2) := by show _ = _; unfold dflt; simp only; rw [if_pos h0, if_pos (by omega), hnp]
      have HD2 : Hid (tz8 0 = if (dflt b ⟨re, rp, rv⟩).1 = 0 then rv else tz8 0) := by
        have hdf : dflt b ⟨re, rp, rv⟩ = (85, rp) := by unfold dflt; simp only; rw [if_pos h0, if_pos (by omega)]
        show _ = _
        rw [hdf]
        exact (if_neg (by show ¬ (85 : Nat) = 0; decide)).symm
      have HA85 := hide (fce_all 85 np)
      have hret := HI.out.ret zv (fce 85 np)
      have HFF := hide hret.1
      have HRET := hide hret.2
      have HRR := hide HI.out.r
      clear hret h0 hlt hnp
      go_upto_region 3 with fail
      go_wp2_with (first
        | (refine wpList_storeRow rfl rfl w.heap.size zv zv 61 rfl rfl HRR.out HIR.out rfl HZA.out ?_)
        | (refine wpList_storeRow rfl rfl (w.heap.size + 1) zfe (fce 85 np) 64 rfl rfl HFF.out (HIF.out 85 np) rfl HA85.out ?_))
      exact bodyPost_ret (end_rdecode rfl HRET.out.1 rfl HRET.out.2.1 rfl rfl) rfl (RdP.mk (r := ⟨re, rp, rv⟩) HD1.out HD2.out HRET.out.2.2.2 (zv_tis _ _))
    · as_aux_lemma =>
      have g1 : ¬ (np : Int) < (b.length : Int) := by omega
      have hnp : np = rp := by rw [← HNP.out, if_pos h0]
      have hfp : fp = 0 := by rw [← HFP.out, if_pos h0]
      have HD1 : Hid (fce re fp = fce (dflt b ⟨re, rp, rv⟩).1 (dflt b ⟨re, rp, rv⟩).2) := by show _ = _; unfold dflt; simp only; rw [if_pos h0, if_neg (by omega), hfp, h0]
      have HD2 : Hid (rv = if (dflt b ⟨re, rp, rv⟩).1 = 0 then rv else tz8 0) := by
        have hdf : dflt b ⟨re, rp, rv⟩ = (0, 0) := by unfold dflt; simp only; rw [if_pos h0, if_neg (by omega)]
        show _ = _
        rw [hdf]
        exact (if_pos rfl).symm
      clear h0 hlt hnp hfp
      go_wp2_with fail
      have hMD := HI.out.next (show Below w4.heap.size w4 w4.drew by refine Below.drew ?_; exact Below.refl _ _)
      have hret := hMD.ret c (fce re fp)
      have HFF := hide hret.1
      have HRET := hide hret.2
      have HRR := hide hMD.r
      have hz3 := HZ3.out
      refine heldStart (S := fun wy => wy.heap[w3.heap.size]? = some (.cells c 61 (0, 0)) ∧ wy.heap[w3.heap.size + 1]? = some (.cells (fce re fp) 64 (0, 0))) (by kernel_rfl) ?_
      have hS : w4.drew.heap[w3.heap.size]? = some (.cells c 61 (0, 0)) ∧ w4.drew.heap[w3.heap.size + 1]? = some (.cells (fce re fp) 64 (0, 0)) := ⟨HV3.out, HY3.out⟩
      have HTD : Hid (Tis w4.drew (fun q => q < w2.heap.size) rv c) := HTI.out.kp (Kp.of_below (show Below w4.heap.size w4 w4.drew by refine Below.drew ?_; exact Below.refl _ _))
      clear hret hMD k3
      generalize w4.drew = w5 at *
      refine heldTake 0 (.agg c) rfl (by kernel_rfl) (by kernel_rfl) (by kernel_rfl) (fun _ _ _ h => h) rfl hS (fun wy hy => exec_valAt (g := w3.heap.size) (off := 0) (cs := c) rfl rfl HS13.out (fun j u hu => by rw [Nat.zero_add]; exact blk_cell hy.1 hu)) ?_
      (try simp only [Act.put]); (try simp only [List.setIfInBounds_toArray, List.set_cons_zero, List.set_cons_succ])
      refine heldTake 1 (.agg (fce re fp)) rfl (by kernel_rfl) (by kernel_rfl) (by kernel_rfl) (fun _ _ _ h => h) rfl hS (fun wy hy => exec_flE rfl rfl rfl hy.2) ?_
      (try simp only [Act.put]); (try simp only [List.setIfInBounds_toArray, List.set_cons_zero, List.set_cons_succ])
      refine heldStep 2 rfl (by kernel_rfl) (fun K hK => ?_)
      refine step_storeRow rfl rfl w.heap.size zv c 61 rfl rfl HRR.out HINc.out HZVc.out HA1.out ?_
      have hrk := row_kp w5 w.heap.size c
      refine (Hid.out hK) _ _ ⟨(hrk.block _ (blk_lt hS.1) (by omega)).trans hS.1, (hrk.block _ (blk_lt hS.2) (by omega)).trans hS.2⟩ (fun hS4 => ?_)
      clear hK K hS
      (try simp only [Act.put]); (try simp only [List.setIfInBounds_toArray, List.set_cons_zero, List.set_cons_succ])
      refine heldStep 3 rfl (by kernel_rfl) (fun K hK => ?_)
      refine step_storeRow rfl rfl (w.heap.size + 1) zfe (fce re fp) 64 rfl rfl HFF.out (HIF.out re fp) rfl HAF.out ?_
      have hrk2 := row_kp (w5.setRow w.heap.size c) (w.heap.size + 1) (fce re fp)
      refine (Hid.out hK) _ _ ⟨(hrk2.block _ (blk_lt hS4.1) (by omega)).trans hS4.1, (hrk2.block _ (blk_lt hS4.2) (by omega)).trans hS4.2⟩ (fun hS5 => ?_)
      clear hK K hS4
      (try simp only [Act.put]); (try simp only [List.setIfInBounds_toArray, List.set_cons_zero, List.set_cons_succ])
      refine heldDone (by kernel_rfl) ?_
      clear hS5
      go_wp2_with fail
      have hTT : Tis ((w5.setRow w.heap.size c).setRow (w.heap.size + 1) (fce re fp)) (fun q => q < w.heap.size) rv c := (HTD.out.kp (HRET.out.2.2.1.mono (fun q _ e => by have := HZ2.out; omega))).mono (fun q e => by have := HZ2.out; omega)
      exact bodyPost_ret (end_rdecode HS13.out HRET.out.1 rfl HRET.out.2.1 rfl rfl) rfl (RdP.mk (r := ⟨re, rp, rv⟩) HD1.out HD2.out HRET.out.2.2.2 hTT)
  · as_aux_lemma =>
    have gk : ((re : Int) == 0) = false := beq_eq_false_iff_ne.2 (by omega)
    have hfp : fp = rp := by rw [← HFP.out, if_neg h0]
    have hrv : rv = tz8 0 := HEB.out h0
    have HD1 : Hid (fce re fp = fce (dflt b ⟨re, rp, rv⟩).1 (dflt b ⟨re, rp, rv⟩).2) := by show _ = _; unfold dflt; simp only; rw [if_neg h0, hfp]
    have HD2 : Hid (rv = if (dflt b ⟨re, rp, rv⟩).1 = 0 then rv else tz8 0) := by show _ = _; unfold dflt; simp only; rw [if_neg h0, if_neg h0, hrv]
    clear h0 hfp hrv
    go_wp2_with fail
    have hMD := HI.out.next (show Below w4.heap.size w4 w4.drew by refine Below.drew ?_; exact Below.refl _ _)
    have hret := hMD.ret c (fce re fp)
    have HFF := hide hret.1
    have HRET := hide hret.2
    have HRR := hide hMD.r
    have hz3 := HZ3.out
    refine heldStart (S := fun wy => wy.heap[w3.heap.size]? = some (.cells c 61 (0, 0)) ∧ wy.heap[w3.heap.size + 1]? = some (.cells (fce re fp) 64 (0, 0))) (by kernel_rfl) ?_
    have hS : w4.drew.heap[w3.heap.size]? = some (.cells c 61 (0, 0)) ∧ w4.drew.heap[w3.heap.size + 1]? = some (.cells (fce re fp) 64 (0, 0)) := ⟨HV3.out, HY3.out⟩
    have HTD : Hid (Tis w4.drew (fun q => q < w2.heap.size) rv c) := HTI.out.kp (Kp.of_below (show Below w4.heap.size w4 w4.drew by refine Below.drew ?_; exact Below.refl _ _))
    clear hret hMD k3
    generalize w4.drew = w5 at *
    refine heldTake 0 (.agg c) rfl (by kernel_rfl) (by kernel_rfl) (by kernel_rfl) (fun _ _ _ h => h) rfl hS (fun wy hy => exec_valAt (g := w3.heap.size) (off := 0) (cs := c) rfl rfl HS13.out (fun j u hu => by rw [Nat.zero_add]; exact blk_cell hy.1 hu)) ?_
    (try simp only [Act.put]); (try simp only [List.setIfInBounds_toArray, List.set_cons_zero, List.set_cons_succ])
    refine heldTake 1 (.agg (fce re fp)) rfl (by kernel_rfl) (by kernel_rfl) (by kernel_rfl) (fun _ _ _ h => h) rfl hS (fun wy hy => exec_flE rfl rfl rfl hy.2) ?_
    (try simp only [Act.put]); (try simp only [List.setIfInBounds_toArray, List.set_cons_zero, List.set_cons_succ])
    refine heldStep 2 rfl (by kernel_rfl) (fun K hK => ?_)
    refine step_storeRow rfl rfl w.heap.size zv c 61 rfl rfl HRR.out HINc.out HZVc.out HA1.out ?_
    have hrk := row_kp w5 w.heap.size c
    refine (Hid.out hK) _ _ ⟨(hrk.block _ (blk_lt hS.1) (by omega)).trans hS.1, (hrk.block _ (blk_lt hS.2) (by omega)).trans hS.2⟩ (fun hS4 => ?_)
    clear hK K hS
    (try simp only [Act.put]); (try simp only [List.setIfInBounds_toArray, List.set_cons_zero, List.set_cons_succ])
    refine heldStep 3 rfl (by kernel_rfl) (fun K hK => ?_)
    refine step_storeRow rfl rfl (w.heap.size + 1) zfe (fce re fp) 64 rfl rfl HFF.out (HIF.out re fp) rfl HAF.out ?_
    have hrk2 := row_kp (w5.setRow w.heap.size c) (w.heap.size + 1) (fce re fp)
    refine (Hid.out hK) _ _ ⟨(hrk2.block _ (blk_lt hS4.1) (by omega)).trans hS4.1, (hrk2.block _ (blk_lt hS4.2) (by omega)).trans hS4.2⟩ (fun hS5 => ?_)
    clear hK K hS4
    (try simp only [Act.put]); (try simp only [List.setIfInBounds_toArray, List.set_cons_zero, List.set_cons_succ])
    refine heldDone (by kernel_rfl) ?_
    clear hS5
    go_wp2_with fail
    have hTT : Tis ((w5.setRow w.heap.size c).setRow (w.heap.size + 1) (fce re fp)) (fun q => q < w.heap.size) rv c := (HTD.out.kp (HRET.out.2.2.1.mono (fun q _ e => by have := HZ2.out; omega))).mono (fun q e => by have := HZ2.out; omega)
    exact bodyPost_ret (end_rdecode HS13.out HRET.out.1 rfl HRET.out.2.1 rfl rfl) rfl (RdP.mk (r := ⟨re, rp, rv⟩) HD1.out HD2.out HRET.out.2.2.2 hTT)
end
end Go.Proofs.YtdejcapbggjjgaaGreatDoor

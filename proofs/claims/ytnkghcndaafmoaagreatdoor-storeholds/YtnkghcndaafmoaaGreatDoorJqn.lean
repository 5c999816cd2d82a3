import Derived.Test.YtnkghcndaafmoaaGreatDoorJqm
namespace Go.Proofs.YtnkghcndaafmoaaGreatDoor
section
open Go.RowKit
structure Cb (w : World) : Prop where
  c : ∀ i, i < 64 → w.cell? ⟨1, i, none⟩ = some (.int .u32 ((kk.getD i 0 : Nat) : Int))
theorem Cb.move {w w' : World} (h : Cb w) (hm : ∀ a u, w.cell? a = some u → w'.cell? a = some u) : Cb w' := ⟨fun i hi => hm _ _ (h.c i hi)⟩
theorem Cb.below {w w' : World} (h : Cb w) (hb : Below w.heap.size w w') : Cb w' := h.move (keep_below hb)
theorem Cb.kp {S : Nat → Prop} {w w' : World} (h : Cb w) (hk : Kp S w w') (hs : ¬ S 1) : Cb w' := ⟨fun i hi => hk.cell (h.c i hi) hs⟩
theorem Cb.pos {w : World} (h : Cb w) : 1 < w.heap.size := by
  have h0 := h.c 0 (by decide)
  by_cases hz : w.heap.size ≤ 1
  · exfalso
    have e : w.heap[1]? = none := Array.getElem?_eq_none (by omega)
    simp [World.cell?, e] at h0
  · omega

structure FB (wx : World) (B N : Nat) (s ws : List Nat) : Prop where
  s : wx.heap[B]? = some (.cells (wv s).toArray 182 (0, 0))
  r : wx.heap[B + 1]? = some (.cells (wv (List.replicate 8 0)).toArray 182 (0, 0))
  w : wx.heap[N]? = some (.cells (wv ws).toArray 269 (0, 0))
  c : Cb wx
theorem FB.drewN {wx : World} {B N : Nat} {s ws : List Nat} (h : FB wx B N s ws) (n : Nat) : FB (wx.drewN n) B N s ws := ⟨h.s, h.r, h.w, ⟨h.c.c⟩⟩

set_option maxRecDepth 1000000 in
set_option maxHeartbeats 1000000 in
theorem changed_any (w : World) (v : Value) (l s : List Nat) (hcb : Cb w) (hsl : BSl w v l) (hp : l.length = 64) (hs : s.length = 8) (hw : ∀ x ∈ s, x < 4294967296) :
    Calls Tryz.prog 206 #[.agg (wv s).toArray, v] w fun e w' => e = .returned (.agg (wv (cmp l 0 s)).toArray) ∧ Below w.heap.size w w' := by
  have HSL := hide hsl
  have HW := hide hw
  have HCB := hide hcb
  have HP := hide hp
  clear hsl hw hcb hp
  have HS : Hid (s.length = 8) := hs
  match s, hs with
  | [s0, s1, s2, s3, s4, s5, s6, s7], _ =>
  have hlit : (wv [s0, s1, s2, s3, s4, s5, s6, s7]).toArray = #[.int .u32 (s0 : Nat), .int .u32 (s1 : Nat), .int .u32 (s2 : Nat), .int .u32 (s3 : Nat), .int .u32 (s4 : Nat), .int .u32 (s5 : Nat), .int .u32 (s6 : Nat), .int .u32 (s7 : Nat)] := rfl
  have hzer : (wv (List.replicate 8 0)).toArray = #[.int .u32 0, .int .u32 0, .int .u32 0, .int .u32 0, .int .u32 0, .int .u32 0, .int .u32 0, .int .u32 0] := rfl
  rw [hlit]
  go_enter Tryz.func206, Tryz.ntmps206
  go_wp2_with fail
  rw [← hlit, ← hzer]
  have HS1 : Hid (((w.alloc (.cells (wv [s0, s1, s2, s3, s4, s5, s6, s7]).toArray 182)).alloc (.cells (wv (List.replicate 8 0)).toArray 182)).heap[w.heap.size]? = some (.cells (wv [s0, s1, s2, s3, s4, s5, s6, s7]).toArray 182 (0, 0))) := blk_alloc _ (heap_alloc_new w _)
  have HR1 : Hid (((w.alloc (.cells (wv [s0, s1, s2, s3, s4, s5, s6, s7]).toArray 182)).alloc (.cells (wv (List.replicate 8 0)).toArray 182)).heap[w.heap.size + 1]? = some (.cells (wv (List.replicate 8 0)).toArray 182 (0, 0))) := by
    have h := heap_alloc_new (w.alloc (.cells (wv [s0, s1, s2, s3, s4, s5, s6, s7]).toArray 182)) (.cells (wv (List.replicate 8 0)).toArray 182)
    have e : (w.alloc (.cells (wv [s0, s1, s2, s3, s4, s5, s6, s7]).toArray 182)).heap.size = w.heap.size + 1 := by simp
    rw [e] at h
    exact h
  have HL1 : Hid (Below w.heap.size w ((w.alloc (.cells (wv [s0, s1, s2, s3, s4, s5, s6, s7]).toArray 182)).alloc (.cells (wv (List.replicate 8 0)).toArray 182))) := ((Below.refl _ _).alloc (Nat.le_refl _) _).alloc (by simp) _
  clear hlit hzer
  generalize (w.alloc (.cells (wv [s0, s1, s2, s3, s4, s5, s6, s7]).toArray 182)).alloc (.cells (wv (List.replicate 8 0)).toArray 182) = w1 at *
  generalize hB : w.heap.size = B at *
  have HBB := hide hB
  clear hB
  refine (words_any w1 v l (HSL.out.move (keep_below (by rw [HBB.out]; exact HL1.out))) HP.out).mono ?_
  rintro e w2 ⟨rfl, hb2⟩
  have HS2 := hide ((hb2.block B (blk_lt HS1.out)).trans HS1.out)
  have HR2 := hide ((hb2.block (B + 1) (blk_lt HR1.out)).trans HR1.out)
  have HL2 : Hid (Below B w w2) := HL1.out.trans (hb2.mono (by have := HL1.out.size; have := HBB.out; omega))
  clear hb2 HS1 HR1 HL1
  have HI64 := hide (info64w (wl l 0 64) (wl_len l 0 64))
  have HON := hide (one_w (wl l 0 64))
  have HWL := hide (wl_len l 0 64)
  have HWB := hide (wl_lt l 0 HSL.out.byte 64)
  have HSZ : Hid ((wv (List.replicate 64 0)).toArray.size = (wv (wl l 0 64)).toArray.size) := by show _ = _; simp [wv_len, wl_len]
  have HFB : Hid (FB ((w2.alloc (.cells (wv (List.replicate 64 0)).toArray 269)).setRow w2.heap.size (wv (wl l 0 64)).toArray) B w2.heap.size [s0, s1, s2, s3, s4, s5, s6, s7] (wl l 0 64)) := by
    have k0 := blk_lt HS2.out
    have k1 := blk_lt HR2.out
    have hlt := HCB.out.pos
    have hb : Below w2.heap.size w2 ((w2.alloc (.cells (wv (List.replicate 64 0)).toArray 269)).setRow w2.heap.size (wv (wl l 0 64)).toArray) := ((Below.refl _ _).alloc (Nat.le_refl _) _).trans ((row_kp _ _ _).below (by simp) (fun q e => by omega))
    exact ⟨by rw [row_other (by omega)]; exact blk_alloc _ HS2.out, by rw [row_other (by omega)]; exact blk_alloc _ HR2.out, row_same (heap_alloc_new w2 _), (HCB.out.below (by rw [HBB.out]; exact HL2.out)).below hb⟩
  have HL3 : Hid (Below B w ((w2.alloc (.cells (wv (List.replicate 64 0)).toArray 269)).setRow w2.heap.size (wv (wl l 0 64)).toArray)) := by
    have h2 := HL2.out.size
    have hB := HBB.out
    exact (HL2.out.alloc (by omega) _).trans ((row_kp _ _ _).below (by simp; omega) (fun q e => by omega))
  have HNB : Hid (B + 1 < w2.heap.size) := blk_lt HR2.out
  have HCM : Hid (cmp l 0 [s0, s1, s2, s3, s4, s5, s6, s7] = List.zipWith (fun x y => (x + y) % 4294967296) [s0, s1, s2, s3, s4, s5, s6, s7] (rl l 0 [s0, s1, s2, s3, s4, s5, s6, s7] 64)) := rfl
  have HWE : Hid (∀ i, i < 64 → (wl l 0 (i + 1)).getD i 0 = (wl l 0 64).getD i 0) := fun i hi => (wl_get l 0 (i + 1) 64 i (by omega) (by omega)).symm
  generalize wl l 0 64 = W at *
  go_wp2_with (refine wpList_storeRow rfl rfl w2.heap.size _ (wv W).toArray 269 rfl rfl (heap_alloc_new w2 _) HI64.out (by rw [← HSZ.out, zero64]) HON.out ?_; rw [← zero64]; generalize (w2.alloc (.cells (wv (List.replicate 64 0)).toArray 269)).setRow w2.heap.size (wv W).toArray = w3 at *; generalize w2.heap.size = N at *; have q0 : w3.cell? ⟨B, 0, none⟩ = some (.int .u32 (s0 : Nat)) := blk_cell HFB.out.s rfl; have q1 : w3.cell? ⟨B, 1, none⟩ = some (.int .u32 (s1 : Nat)) := blk_cell HFB.out.s rfl; have q2 : w3.cell? ⟨B, 2, none⟩ = some (.int .u32 (s2 : Nat)) := blk_cell HFB.out.s rfl; have q3 : w3.cell? ⟨B, 3, none⟩ = some (.int .u32 (s3 : Nat)) := blk_cell HFB.out.s rfl; have q4 : w3.cell? ⟨B, 4, none⟩ = some (.int .u32 (s4 : Nat)) := blk_cell HFB.out.s rfl; have q5 : w3.cell? ⟨B, 5, none⟩ = some (.int .u32 (s5 : Nat)) := blk_cell HFB.out.s rfl; have q6 : w3.cell? ⟨B, 6, none⟩ = some (.int .u32 (s6 : Nat)) := blk_cell HFB.out.s rfl; have q7 : w3.cell? ⟨B, 7, none⟩ = some (.int .u32 (s7 : Nat)) := blk_cell HFB.out.s rfl)
  go_simp
  go_quiet (fail)
  have HF4 := hide (HFB.out.drewN nq)
  have HL4 : Hid (Below B w (w3.drewN nq)) := below_drewN HL3.out _
  clear q0 q1 q2 q3 q4 q5 q6 q7 HFB HL3 HS2 HR2 HL2 HI64 HON HSZ
  generalize w3.drewN nq = w4 at *
  have q4 : w4.cell? ⟨B, 4, none⟩ = some (.int .u32 (s4 : Nat)) := blk_cell HF4.out.s rfl
  have q5 : w4.cell? ⟨B, 5, none⟩ = some (.int .u32 (s5 : Nat)) := blk_cell HF4.out.s rfl
  have q6 : w4.cell? ⟨B, 6, none⟩ = some (.int .u32 (s6 : Nat)) := blk_cell HF4.out.s rfl
  have q7 : w4.cell? ⟨B, 7, none⟩ = some (.int .u32 (s7 : Nat)) := blk_cell HF4.out.s rfl
  go_wp2_with fail
  go_quiet (fail)
  have HF5 := hide (HF4.out.drewN nq)
  have HL5 : Hid (Below B w (w4.drewN nq)) := below_drewN HL4.out _
  clear q4 q5 q6 q7 HF4 HL4
  generalize w4.drewN nq = w5 at *
  go_wp2_with fail
  have HRL0 : Hid (rl l 0 [s0, s1, s2, s3, s4, s5, s6, s7] 0 = [s0, s1, s2, s3, s4, s5, s6, s7]) := rfl
  have HRS : Hid (∀ n, rl l 0 [s0, s1, s2, s3, s4, s5, s6, s7] (n + 1) = rnd (rl l 0 [s0, s1, s2, s3, s4, s5, s6, s7] n) (kk.getD n 0) ((wl l 0 (n + 1)).getD n 0)) := fun _ => rfl
  have HRB : Hid (∀ n, ∀ x ∈ rl l 0 [s0, s1, s2, s3, s4, s5, s6, s7] n, x < 4294967296) := rl_lt l 0 _ HW.out
  have HRN : Hid (∀ n, (rl l 0 [s0, s1, s2, s3, s4, s5, s6, s7] n).length = 8) := rl_len l 0 _ rfl
  generalize hR : rl l 0 [s0, s1, s2, s3, s4, s5, s6, s7] = R at *
  clear hR
  go_loopw [6, 7, 8, 9, 10, 11, 12, 13, 35] (fun xa xb xc xd xe xf xg xh ii wx => ∃ i : Nat, i ≤ 64 ∧ ii = .int .i64 (i : Nat) ∧ xa = .int .u32 (((R i).getD 0 0 : Nat) : Int) ∧ xb = .int .u32 (((R i).getD 1 0 : Nat) : Int) ∧ xc = .int .u32 (((R i).getD 2 0 : Nat) : Int) ∧ xd = .int .u32 (((R i).getD 3 0 : Nat) : Int) ∧ xe = .int .u32 (((R i).getD 4 0 : Nat) : Int) ∧ xf = .int .u32 (((R i).getD 5 0 : Nat) : Int) ∧ xg = .int .u32 (((R i).getD 6 0 : Nat) : Int) ∧ xh = .int .u32 (((R i).getD 7 0 : Nat) : Int) ∧ Hid (FB wx B N [s0, s1, s2, s3, s4, s5, s6, s7] W) ∧ Hid (Below B w wx)) (fun _ _ _ _ _ _ _ _ ii _ => 64 - (intOf ii).toNat)
  case atStart => exact ⟨0, by omega, rfl, by rw [HRL0.out]; rfl, by rw [HRL0.out]; rfl, by rw [HRL0.out]; rfl, by rw [HRL0.out]; rfl, by rw [HRL0.out]; rfl, by rw [HRL0.out]; rfl, by rw [HRL0.out]; rfl, by rw [HRL0.out]; rfl, HF5, HL5⟩
  case round =>
    obtain ⟨i, hi, rfl, rfl, rfl, rfl, rfl, rfl, rfl, rfl, rfl, HF6, HL6⟩ := hrel
    clear HF5 HL5
    by_cases hlt : i < 64
    · have hlt' : (i : Int) < 64 := by omega
      have hkc := HF6.out.c.c i hlt
      have hwc : wr.cell? ⟨N, i, none⟩ = some (.int .u32 ((W.getD i 0 : Nat) : Int)) := blk_cell HF6.out.w (wvt_get (by rw [HWL.out]; exact hlt))
      have hwb := getD_w HWB.out i
      have hkb : kk.getD i 0 < 4294967296 := getD_w kk_lt i
      have HRX : Hid (R (i + 1) = rnd (R i) (kk.getD i 0) (W.getD i 0)) := by rw [← HWE.out i hlt]; exact HRS.out i
      generalize W.getD i 0 = wi at *
      generalize kk.getD i 0 = ki at *
      have hb0 := getD_w (HRB.out i) 0
      have hb1 := getD_w (HRB.out i) 1
      have hb2 := getD_w (HRB.out i) 2
      have hb3 := getD_w (HRB.out i) 3
      have hb4 := getD_w (HRB.out i) 4
      have hb5 := getD_w (HRB.out i) 5
      have hb6 := getD_w (HRB.out i) 6
      have hb7 := getD_w (HRB.out i) 7
      have HRT : Hid (rT (R i) ki wi = ((R i).getD 7 0 + us1 ((R i).getD 4 0) + cho ((R i).getD 4 0) ((R i).getD 5 0) ((R i).getD 6 0) + ki + wi) % 4294967296) := rfl
      have HRU : Hid (rU (R i) = (us0 ((R i).getD 0 0) + maj ((R i).getD 0 0) ((R i).getD 1 0) ((R i).getD 2 0)) % 4294967296) := rfl
      have HTL : Hid (rT (R i) ki wi < 4294967296) := Nat.mod_lt _ (by decide)
      have HUL : Hid (rU (R i) < 4294967296) := Nat.mod_lt _ (by decide)
      have HRN : Hid (R (i + 1) = [(rT (R i) ki wi + rU (R i)) % 4294967296, (R i).getD 0 0, (R i).getD 1 0, (R i).getD 2 0, ((R i).getD 3 0 + rT (R i) ki wi) % 4294967296, (R i).getD 4 0, (R i).getD 5 0, (R i).getD 6 0]) := HRX.out
      clear HRX
      generalize rT (R i) ki wi = T at *
      generalize rU (R i) = U at *
      generalize (R i).getD 0 0 = va at *
      generalize (R i).getD 1 0 = vb at *
      generalize (R i).getD 2 0 = vc at *
      generalize (R i).getD 3 0 = vd at *
      generalize (R i).getD 4 0 = ve at *
      generalize (R i).getD 5 0 = vf at *
      generalize (R i).getD 6 0 = vg at *
      generalize (R i).getD 7 0 = vh at *
      have hA4 := us1_lt hb4
      have hC4 := us0_lt hb0
      obtain ⟨M1, M2, M3, M4, M5, k1, k2, k3, k4, k5, hM5, k6⟩ := maj_bits va vb vc hb0 hb1 hb2
      obtain ⟨H0, H1, H2, H3, l0, l1, l2, l3, hH3, l4⟩ := cho_bits ve vf vg hb4 hb5 hb6
      rw [l4] at HRT
      rw [k6] at HRU
      clear k6 l4
      go_wp2_with fail
      go_quiet ((go_at_call 226; exact Calls.quiet_of_same (bigS1_any _ _ (by assumption))))
      have eT : (((vh : Int) + ((us1 ve : Nat) : Int) + (H3 : Int) + (ki : Int)) % 4294967296 + (wi : Int)) % 4294967296 = (T : Int) := by rw [HRT.out]; omega
      have HF7 := hide (HF6.out.drewN nq)
      have HL7 : Hid (Below B w (wr.drewN nq)) := below_drewN HL6.out _
      clear hkc hwc HF6 HL6
      generalize wr.drewN nq = w7 at *
      rw [eT]
      clear eT
      have hTL := HTL.out
      go_wp2_with fail
      refine (bigS0_any va w7 hb0).mono ?_
      rintro e w8 ⟨rfl, rfl⟩
      have eU : (((us0 va : Nat) : Int) + (M5 : Int)) % 4294967296 = (U : Int) := by rw [HRU.out]; omega
      have hUL := HUL.out
      go_wp2_with fail
      go_roundw
      case rel =>
        refine ⟨i + 1, by omega, by go_num, ?_, ?_, ?_, ?_, ?_, ?_, ?_, ?_, HF7, HL7⟩ <;> rw [HRN.out] <;> simp only [List.getD_cons_zero, List.getD_cons_succ]
        · exact congrArg (Value.int .u32) (by omega)
        · exact congrArg (Value.int .u32) (by omega)
      case measure => simp [intOf]; omega
    · have hi64 : i = 64 := by omega
      have hi6 : ¬ (i : Int) < 64 := by omega
      rw [← hi64] at HCM
      obtain ⟨r0, r1, r2, r3, r4, r5, r6, r7, hr⟩ := eight (R i) (HRN.out i)
      have HRR := hide hr
      rw [hr] at HCM ⊢
      clear hi64 hlt hi hr
      have HC2 : Hid (cmp l 0 [s0, s1, s2, s3, s4, s5, s6, s7] = [(s0 + r0) % 4294967296, (s1 + r1) % 4294967296, (s2 + r2) % 4294967296, (s3 + r3) % 4294967296, (s4 + r4) % 4294967296, (s5 + r5) % 4294967296, (s6 + r6) % 4294967296, (s7 + r7) % 4294967296]) := HCM.out
      clear HCM
      have e0 : ((s0 : Int) + (r0 : Int)) % 4294967296 = (((s0 + r0) % 4294967296 : Nat) : Int) := by omega
      have q0 : wr.cell? ⟨B, 0, none⟩ = some (.int .u32 (s0 : Nat)) := blk_cell HF6.out.s rfl
      generalize (s0 + r0) % 4294967296 = c0 at *
      have e1 : ((s1 : Int) + (r1 : Int)) % 4294967296 = (((s1 + r1) % 4294967296 : Nat) : Int) := by omega
      have q1 : wr.cell? ⟨B, 1, none⟩ = some (.int .u32 (s1 : Nat)) := blk_cell HF6.out.s rfl
      generalize (s1 + r1) % 4294967296 = c1 at *
      have e2 : ((s2 : Int) + (r2 : Int)) % 4294967296 = (((s2 + r2) % 4294967296 : Nat) : Int) := by omega
      have q2 : wr.cell? ⟨B, 2, none⟩ = some (.int .u32 (s2 : Nat)) := blk_cell HF6.out.s rfl
      generalize (s2 + r2) % 4294967296 = c2 at *
      have e3 : ((s3 : Int) + (r3 : Int)) % 4294967296 = (((s3 + r3) % 4294967296 : Nat) : Int) := by omega
      have q3 : wr.cell? ⟨B, 3, none⟩ = some (.int .u32 (s3 : Nat)) := blk_cell HF6.out.s rfl
      generalize (s3 + r3) % 4294967296 = c3 at *
      have e4 : ((s4 : Int) + (r4 : Int)) % 4294967296 = (((s4 + r4) % 4294967296 : Nat) : Int) := by omega
      have q4 : wr.cell? ⟨B, 4, none⟩ = some (.int .u32 (s4 : Nat)) := blk_cell HF6.out.s rfl
      generalize (s4 + r4) % 4294967296 = c4 at *
      have e5 : ((s5 : Int) + (r5 : Int)) % 4294967296 = (((s5 + r5) % 4294967296 : Nat) : Int) := by omega
      have q5 : wr.cell? ⟨B, 5, none⟩ = some (.int .u32 (s5 : Nat)) := blk_cell HF6.out.s rfl
      generalize (s5 + r5) % 4294967296 = c5 at *
      have e6 : ((s6 : Int) + (r6 : Int)) % 4294967296 = (((s6 + r6) % 4294967296 : Nat) : Int) := by omega
      have q6 : wr.cell? ⟨B, 6, none⟩ = some (.int .u32 (s6 : Nat)) := blk_cell HF6.out.s rfl
      generalize (s6 + r6) % 4294967296 = c6 at *
      have e7 : ((s7 : Int) + (r7 : Int)) % 4294967296 = (((s7 + r7) % 4294967296 : Nat) : Int) := by omega
      have q7 : wr.cell? ⟨B, 7, none⟩ = some (.int .u32 (s7 : Nat)) := blk_cell HF6.out.s rfl
      generalize (s7 + r7) % 4294967296 = c7 at *
      have HR := hide HF6.out.r
      simp only [List.getD_cons_zero, List.getD_cons_succ]
      go_wp2_with (refine wpList_storeRow rfl rfl (B + 1) _ (wv [c0, c1, c2, c3, c4, c5, c6, c7]).toArray 182 rfl rfl HR.out (info8w _ rfl) rfl (one_w _) ?_)
      refine bodyPost_ret (v := .agg (wv [c0, c1, c2, c3, c4, c5, c6, c7]).toArray) ((results_one (p := 4) (ty := 182) rfl _ _ _).trans (run_loadVar_row (P := Tryz.prog) _ (B + 1) 182 182 (wv [c0, c1, c2, c3, c4, c5, c6, c7]).toArray (0, 0) _ (row_same HR.out) Tryz.underlying182 rfl (info8w _ rfl))) rfl ⟨by rw [HC2.out], ?_⟩
      rw [HBB.out]
      exact HL6.out.trans ((row_kp wr (B + 1) _).below (by have := HL6.out.size; have := HBB.out; omega) (fun q e => by omega))
end
section
open Go.RowKit
set_option maxRecDepth 1000000 in
theorem first_any (w : World) : Calls Tryz.prog 205 #[] w fun e w' => e = .returned (.agg (wv hh).toArray) ∧ Below w.heap.size w w' := by
  go_enter Tryz.func205, Tryz.ntmps205
  go_wp2
  refine bodyPost_ret (v := .agg #[.int .u32 1779033703, .int .u32 3144134277, .int .u32 1013904242, .int .u32 2773480762, .int .u32 1359893119, .int .u32 2600822924, .int .u32 528734635, .int .u32 1541459225]) ((results_one (p := 0) (ty := 182) rfl _ _ _).trans (by go_simp; first | done | rfl)) rfl ⟨by kernel_rfl, ?_⟩
  exact (Below.refl _ _).alloc (Nat.le_refl _) _

def hc (s r : List Nat) (c : Nat) : List Value := wv s ++ (bv r ++ [.int .u64 ((c : Nat) : Int)])
theorem hc_len {s r : List Nat} {c : Nat} (hs : s.length = 8) (hr : r.length = 64) : (hc s r c).length = 73 := by simp [hc, wv, bv, hs, hr]
def tl (xs : List Nat) : List Nat := xs.drop (64 * (xs.length / 64))
theorem tl_len (xs : List Nat) : (tl xs).length = xs.length % 64 := by simp [tl]; omega
def fillz (l : List Nat) : List Nat := l ++ List.replicate (64 - l.length) 0
theorem fillz_len {l : List Nat} (h : l.length ≤ 64) : (fillz l).length = 64 := by simp [fillz]; omega
structure HS (w : World) (g : Nat) (xs : List Nat) : Prop where
  b : w.heap[g]? = some (.cells (hc (abs xs hh (xs.length / 64)) (fillz (tl xs)) xs.length).toArray 288 (0, 0))
theorem HS.below {w w' : World} {g : Nat} {xs : List Nat} (h : HS w g xs) (hb : Below w.heap.size w w') : HS w' g xs := ⟨(hb.block g (blk_lt h.b)).trans h.b⟩
theorem newCells : List.foldl (fun cs x => cs.setIfInBounds x.snd x.fst) Tryz.zeroCells288 (wv hh).zipIdx = (hc hh (List.replicate 64 0) 0).toArray := by kernel_rfl

set_option maxRecDepth 1000000 in
theorem new_any (w : World) : Calls Tryz.prog 140 #[] w fun e w' => ∃ g, e = .returned (.pointer (some ⟨g, 0, none⟩)) ∧ w.heap.size ≤ g ∧ HS w' g [] ∧ Below w.heap.size w w' := by
  go_enter Tryz.func140, Tryz.ntmps140
  go_wp2_with fail
  refine (first_any _).mono ?_
  rintro e w1 ⟨rfl, hb1⟩
  go_wp2_with fail
  rw [newCells]
  go_ret
  exact ⟨w1.heap.size, rfl, hb1.size, ⟨heap_alloc_new w1 _⟩, hb1.alloc hb1.size _⟩
end
end Go.Proofs.YtnkghcndaafmoaaGreatDoor

import Derived.Test.YtedgdnoafajhoaaDoorDe
import Derived.Test.YtedgdnoafajhoaaDoorRv
namespace Go.Proofs.YtedgdnoafajhoaaDoor
open Go.RowKit

theorem index8 (S : List Nat) (hs : S.length = 8) (i : Nat) (hi : i < 8) (w : World) : Sem.run Tryd.prog (Instr.index 92 (.agg (wv S).toArray) (.int .i64 (i : Nat))) w = .ok (.int .u32 ((S.getD i 0 : Nat) : Int)) w := by
  have h := Tryd.underlying92
  have hg := wv_get (l := S) (j := i) (by omega)
  simp only [List.getD_eq_getElem?_getD] at hg
  simp [Instr.index, run_underlying h, asIntOf, go_sem, hi, hg]

set_option maxRecDepth 1000000 in
set_option maxHeartbeats 1000000 in
theorem laid_any (w : World) (s : List Nat) (hs : s.length = 8) (hw : ∀ x ∈ s, x < 4294967296) :
    Calls Tryd.prog 44 #[.agg (wv s).toArray] w fun e w' => e = .returned (.agg (bv (outb s)).toArray) ∧ Below w.heap.size w w' := by
  obtain ⟨s0, s1, s2, s3, s4, s5, s6, s7, rfl⟩ := eight s hs
  have HW := hide hw
  clear hw hs
  have hlit : (wv [s0, s1, s2, s3, s4, s5, s6, s7]).toArray = #[.int .u32 (s0 : Nat), .int .u32 (s1 : Nat), .int .u32 (s2 : Nat), .int .u32 (s3 : Nat), .int .u32 (s4 : Nat), .int .u32 (s5 : Nat), .int .u32 (s6 : Nat), .int .u32 (s7 : Nat)] := rfl
  rw [hlit]
  go_enter Tryd.func44, Tryd.ntmps44
  go_wp2_with fail
  rw [← hlit, ← z32_lit]
  have HR0 : Hid ((((w.alloc (.cells (wv [s0, s1, s2, s3, s4, s5, s6, s7]).toArray 92)).alloc (.cells (bv (List.replicate 32 0)).toArray 28)).alloc (.cells (bv (List.replicate 32 0)).toArray 28)).heap[w.heap.size + 1]? = some (.cells (bv (List.replicate 32 0)).toArray 28 (0, 0))) := by
    have h := heap_alloc_new (w.alloc (.cells (wv [s0, s1, s2, s3, s4, s5, s6, s7]).toArray 92)) (.cells (bv (List.replicate 32 0)).toArray 28)
    have e : (w.alloc (.cells (wv [s0, s1, s2, s3, s4, s5, s6, s7]).toArray 92)).heap.size = w.heap.size + 1 := by simp
    rw [e] at h
    exact blk_alloc _ h
  have HO0 : Hid ((((w.alloc (.cells (wv [s0, s1, s2, s3, s4, s5, s6, s7]).toArray 92)).alloc (.cells (bv (List.replicate 32 0)).toArray 28)).alloc (.cells (bv (List.replicate 32 0)).toArray 28)).heap[w.heap.size + 1 + 1]? = some (.cells (bv (List.replicate 32 0)).toArray 28 (0, 0))) := by
    have h := heap_alloc_new ((w.alloc (.cells (wv [s0, s1, s2, s3, s4, s5, s6, s7]).toArray 92)).alloc (.cells (bv (List.replicate 32 0)).toArray 28)) (.cells (bv (List.replicate 32 0)).toArray 28)
    have e : ((w.alloc (.cells (wv [s0, s1, s2, s3, s4, s5, s6, s7]).toArray 92)).alloc (.cells (bv (List.replicate 32 0)).toArray 28)).heap.size = w.heap.size + 1 + 1 := by simp
    rw [e] at h
    exact h
  have HL0 : Hid (Below w.heap.size w (((w.alloc (.cells (wv [s0, s1, s2, s3, s4, s5, s6, s7]).toArray 92)).alloc (.cells (bv (List.replicate 32 0)).toArray 28)).alloc (.cells (bv (List.replicate 32 0)).toArray 28))) := (((Below.refl _ _).alloc (Nat.le_refl _) _).alloc (by simp) _).alloc (by simp; omega) _
  clear hlit
  generalize ((w.alloc (.cells (wv [s0, s1, s2, s3, s4, s5, s6, s7]).toArray 92)).alloc (.cells (bv (List.replicate 32 0)).toArray 28)).alloc (.cells (bv (List.replicate 32 0)).toArray 28) = w1 at *
  generalize hB : w.heap.size = B at *
  have HBB := hide hB
  clear hB
  have HSL : Hid ([s0, s1, s2, s3, s4, s5, s6, s7].length = 8) := rfl
  generalize hS : [s0, s1, s2, s3, s4, s5, s6, s7] = S at *
  have HS := hide hS
  clear hS
  have HOL := hide (outb_len S HSL.out)
  go_loopw [7] (fun ii wx => ∃ i : Nat, i ≤ 8 ∧ ii = .int .i64 (i : Nat) ∧ Hid (wx.heap[B + 1]? = some (.cells (bv (List.replicate 32 0)).toArray 28 (0, 0))) ∧ Hid (wx.heap[B + 1 + 1]? = some (.cells (bv ((outb S).take (4 * i) ++ List.replicate (32 - 4 * i) 0)).toArray 28 (0, 0))) ∧ Hid (Below B w wx)) (fun ii _ => 8 - (intOf ii).toNat)
  case atStart => exact ⟨0, by omega, rfl, HR0, HO0, HL0⟩
  case round =>
    obtain ⟨i, hi, rfl, HR1, HO1, HL1⟩ := hrel
    clear HR0 HO0 HL0
    by_cases hlt : i < 8
    · have hlt' : (i : Int) < 8 := by omega
      have hix := index8 S HSL.out i hlt wr
      have hxb := getD_w HW.out i
      have HG : Hid (∀ k, k < 4 → (outb S).getD (4 * i + k) 0 = S.getD i 0 / 256 ^ (3 - k) % 256) := by
        intro k hk
        rw [outb_get S HSL.out (4 * i + k) (by omega)]
        have e1 : (4 * i + k) / 4 = i := by omega
        have e2 : (4 * i + k) % 4 = k := by omega
        rw [e1, e2]
      have HCL : Hid (∀ k, k < 4 → wr.cell? ⟨B + 1 + 1, 4 * i + k, none⟩ = some (.int .u8 0)) := by
        intro k hk
        refine blk_cell HO1.out ?_
        rw [List.getElem?_toArray, bv_get (by simp [HOL.out]; omega)]
        have e : ((outb S).take (4 * i) ++ List.replicate (32 - 4 * i) 0).getD (4 * i + k) 0 = 0 := by
          rw [List.getD_eq_getElem?_getD, List.getElem?_append_right (by simp; omega)]
          simp only [List.getElem?_replicate]
          split <;> rfl
        rw [e]
        rfl
      have c0 : wr.cell? ⟨B + 1 + 1, 4 * i, none⟩ = some (.int .u8 0) := HCL.out 0 (by omega)
      have c1 := HCL.out 1 (by omega)
      have c2 := HCL.out 2 (by omega)
      have c3 := HCL.out 3 (by omega)
      have f0 := blk_frozen (4 * i) HO1.out
      have f1 := blk_frozen (4 * i + 1) HO1.out
      have f2 := blk_frozen (4 * i + 2) HO1.out
      have f3 := blk_frozen (4 * i + 3) HO1.out
      generalize S.getD i 0 = x at *
      go_wp2_with fail
      go_roundw
      case rel =>
        have e0 : (x : Int) / 16777216 = (((outb S).getD (4 * i) 0 : Nat) : Int) := by
          have h := HG.out 0 (by omega)
          rw [Nat.add_zero] at h
          rw [h]
          simp only [Nat.reduceSub, Nat.reducePow]
          omega
        have e1 : (x : Int) / 65536 % 256 = (((outb S).getD (4 * i + 1) 0 : Nat) : Int) := by
          rw [HG.out 1 (by omega)]
          simp only [Nat.reduceSub, Nat.reducePow]
          omega
        have e2 : (x : Int) / 256 % 256 = (((outb S).getD (4 * i + 2) 0 : Nat) : Int) := by
          rw [HG.out 2 (by omega)]
          simp only [Nat.reduceSub, Nat.reducePow]
          omega
        have e3 : (x : Int) % 256 = (((outb S).getD (4 * i + 3) 0 : Nat) : Int) := by
          rw [HG.out 3 (by omega)]
          simp only [Nat.reduceSub, Nat.reducePow]
          omega
        rw [e0, e1, e2, e3]
        refine ⟨i + 1, by omega, by go_num, ?_, ?_, below_set3 (below_set3 (below_set3 (below_set3 HL1.out _ _ (by omega) _) _ _ (by omega) _) _ _ (by omega) _) _ _ (by omega) _⟩
        · exact blk_other _ _ (blk_other _ _ (blk_other _ _ (blk_other _ _ HR1.out (by omega)) (by omega)) (by omega)) (by omega)
        · have k0 := blk_set (4 * i) (.int .u8 (((outb S).getD (4 * i) 0 : Nat) : Int)) HO1.out
          rw [out_set (outb S) HOL.out (4 * i) (by omega)] at k0
          have k1 := blk_set (4 * i + 1) (.int .u8 (((outb S).getD (4 * i + 1) 0 : Nat) : Int)) k0
          rw [out_set (outb S) HOL.out (4 * i + 1) (by omega)] at k1
          have k2 := blk_set (4 * i + 2) (.int .u8 (((outb S).getD (4 * i + 2) 0 : Nat) : Int)) k1
          rw [out_set (outb S) HOL.out (4 * i + 2) (by omega)] at k2
          have k3 := blk_set (4 * i + 3) (.int .u8 (((outb S).getD (4 * i + 3) 0 : Nat) : Int)) k2
          rw [out_set (outb S) HOL.out (4 * i + 3) (by omega)] at k3
          exact k3
      case measure => simp [intOf]; omega
    · have hi8 : i = 8 := by omega
      have hi6 : ¬ (i : Int) < 8 := by omega
      have HOF : Hid (wr.heap[B + 1 + 1]? = some (.cells (bv (outb S)).toArray 28 (0, 0))) := by
        have h := HO1.out
        rw [hi8, List.take_of_length_le (by rw [HOL.out]; omega)] at h
        show _ = _
        simpa using h
      clear hi8 hlt hi HO1
      have HI32 : Hid ((Tryd.prog.info? 28).map (·.size) = some (bv (outb S)).toArray.size) := by
        have h := info32
        show _ = _
        simpa [bv_len, HOL.out] using h
      have HSZ : Hid ((bv (List.replicate 32 0)).toArray.size = (bv (outb S)).toArray.size) := by show _ = _; simp [bv_len, HOL.out]
      have HON : Hid ((bv (outb S)).toArray.all (·.oneCell') = true) := by
        show _ = _
        rw [Array.all_eq_true_iff_forall_mem]
        intro u hu
        exact bv_one _ u (by simpa using hu)
      have hne : ¬ B + 1 = B + 1 + 1 := by omega
      generalize hD : outb S = D at *
      have HD := hide hD
      clear hD
      go_wp2_with (first
        | (refine wpList_loadRow rfl rfl (B + 1 + 1) 32 (bv D).toArray 28 rfl HOF.out Tryd.underlying28 HI32.out ?_)
        | (refine wpList_storeRow rfl rfl (B + 1) _ (bv D).toArray 28 rfl rfl HR1.out HI32.out HSZ.out HON.out ?_))
      refine bodyPost_ret (v := .agg (bv D).toArray) ((results_one (p := 2) (ty := 28) rfl _ _ _).trans (run_loadVar_row (P := Tryd.prog) _ (B + 1) 28 28 (bv D).toArray (0, 0) _ (row_same HR1.out) Tryd.underlying28 rfl HI32.out)) rfl ⟨by rw [HS.out, HD.out], ?_⟩
      rw [HBB.out]
      exact HL1.out.trans ((row_kp wr (B + 1) _).below (by have := HL1.out.size; have := HBB.out; omega) (fun q e => by omega))
end Go.Proofs.YtedgdnoafajhoaaDoor

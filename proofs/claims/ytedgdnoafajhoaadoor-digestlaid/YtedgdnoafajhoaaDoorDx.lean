import Derived.Test.YtedgdnoafajhoaaDoorDw
import Derived.Test.YtedgdnoafajhoaaDoorDa
import Derived.Test.YtedgdnoafajhoaaDoorRs
import Derived.Test.YtedgdnoafajhoaaDoorRq


namespace Go.Proofs.YtedgdnoafajhoaaDoor
open Go.RowKit

theorem wrd_cut (l : List Nat) (p : Nat) : wrd ((l.drop p).take 4) 0 = wrd l p := by
  unfold wrd
  have h : ∀ j, j < 4 → ((l.drop p).take 4).getD j 0 = l.getD (p + j) 0 := by
    intro j hj
    simp [List.getD, hj]
  rw [h 0 (by omega), h (0 + 1) (by omega), h (0 + 2) (by omega), h (0 + 3) (by omega)]
  simp
theorem info64w (l : List Nat) (h : l.length = 64) : (Tryd.prog.info? 109).map (·.size) = some (wv l).toArray.size := by
  have h2 := info64
  simp only [List.size_toArray, wv_len] at h2 ⊢
  rw [h2, h]
  rfl
theorem info8w (l : List Nat) (h : l.length = 8) : (Tryd.prog.info? 92).map (·.size) = some (wv l).toArray.size := by
  have h2 := info8
  simp only [List.size_toArray, wv_len] at h2 ⊢
  rw [h2, h]
  rfl
theorem one_w (l : List Nat) : (wv l).toArray.all (·.oneCell') = true := by
  rw [Array.all_eq_true_iff_forall_mem]
  intro u hu
  exact wv_one _ u (by simpa using hu)
/-- The two blocks of a call of words. -/
structure WBk (wx : World) (B : Nat) (ws : List Nat) : Prop where
  r : wx.heap[B]? = some (.cells (wv (List.replicate 64 0)).toArray 109 (0, 0))
  w : wx.heap[B + 1]? = some (.cells (wv ws).toArray 109 (0, 0))
theorem WBk.below {w w' : World} {B : Nat} {ws : List Nat} (h : WBk w B ws) (hb : Below w.heap.size w w') : WBk w' B ws :=
  ⟨(hb.block B (blk_lt h.r)).trans h.r, (hb.block _ (blk_lt h.w)).trans h.w⟩
theorem WBk.set {w : World} {B : Nat} {ws : List Nat} (h : WBk w B ws) (j x : Nat) : WBk (w.setCell ⟨B + 1, j, none⟩ (.int .u32 ((x : Nat) : Int))) B (ws.set j x) :=
  ⟨blk_other j _ h.r (by omega), by rw [← wvt_set]; exact blk_set j _ h.w⟩
theorem WBk.drew {w : World} {B : Nat} {ws : List Nat} (h : WBk w B ws) : WBk w.drew B ws := ⟨h.r, h.w⟩

set_option maxRecDepth 1000000 in
set_option maxHeartbeats 4000000 in
theorem words_any (w : World) (v : Value) (l : List Nat) (hsl : BSl w v l) (hp : l.length = 64) :
    Calls Tryd.prog 59 #[v] w fun e w' => e = .returned (.agg (wv (wl l 0 64)).toArray) ∧ Below w.heap.size w w' := by
  have HSL := hide hsl
  obtain ⟨⟨a, cap, rfl, hn, hc⟩, hmax, hb⟩ := hsl
  rcases hc with hc | ⟨b, off, rfl, hc⟩
  · subst hc; simp at hp
  have hcp : (64 : Int) ≤ (cap : Int) := by have := hn.1; omega
  have HLB := hide hb
  rw [hp] at HSL ⊢
  have HP := hide hp
  clear hn hc hb hp hmax
  go_enter Tryd.func59, Tryd.ntmps59
  go_wp2_with fail
  rw [← zero64]
  have HB0 : Hid (WBk ((w.alloc (.cells (wv (List.replicate 64 0)).toArray 109)).alloc (.cells (wv (List.replicate 64 0)).toArray 109)) w.heap.size (List.replicate 64 0)) := by
    refine ⟨blk_alloc _ (heap_alloc_new w _), ?_⟩
    have h := heap_alloc_new (w.alloc (.cells (wv (List.replicate 64 0)).toArray 109)) (.cells (wv (List.replicate 64 0)).toArray 109)
    have e : (w.alloc (.cells (wv (List.replicate 64 0)).toArray 109)).heap.size = w.heap.size + 1 := by simp
    rw [e] at h
    exact h
  have HL0 : Hid (Below w.heap.size w ((w.alloc (.cells (wv (List.replicate 64 0)).toArray 109)).alloc (.cells (wv (List.replicate 64 0)).toArray 109))) := ((Below.refl _ _).alloc (Nat.le_refl _) _).alloc (by simp) _
  generalize (w.alloc (.cells (wv (List.replicate 64 0)).toArray 109)).alloc (.cells (wv (List.replicate 64 0)).toArray 109) = w1 at *
  generalize hB : w.heap.size = B at *
  have HBB := hide hB
  clear hB
  go_loopw [6] (fun ii wx => ∃ i : Nat, i ≤ 16 ∧ ii = .int .i64 (i : Nat) ∧ Hid (WBk wx B (wl l 0 i ++ List.replicate (64 - i) 0)) ∧ Hid (Below B w wx)) (fun ii _ => 16 - (intOf ii).toNat)
  case atStart => exact ⟨0, by omega, rfl, HB0, HL0⟩
  case round =>
    obtain ⟨i, hi, rfl, HR1, HL1⟩ := hrel
    clear HB0 HL0
    by_cases hlt : i < 16
    · have hlt' : (i : Int) < 16 := by omega
      have HV : Hid (BSl wr (.slice (some ⟨b, off, none⟩) 64 cap) l) := HSL.out.move (keep_below (by rw [HBB.out]; exact HL1.out))
      have HST := hide (wl_set l 0 i (by omega))
      rw [if_pos hlt] at HST
      have HLN := hide (wl_wlen l 0 i (by omega))
      go_wp2_with fail
      refine (word_any _ _ ((l.drop (4 * i)).take 4) ((HV.out.drop (4 * i) (by rw [HP.out]; omega)).take3 4 (by rw [List.length_drop, HP.out]; omega)) (by rw [List.length_take, List.length_drop, HP.out]; omega)).mono ?_
      rintro e w5 ⟨rfl, hb5⟩
      rw [wrd_cut]
      have HR2 := hide (HR1.out.below hb5)
      have HL2 : Hid (Below B w w5) := HL1.out.trans (hb5.mono (by have := HL1.out.size; have := HBB.out; omega))
      clear HR1 HL1 hb5
      have f0 := blk_frozen i HR2.out.w
      have c0 : w5.cell? ⟨B + 1, i, none⟩ = some (.int .u32 (((wl l 0 i ++ List.replicate (64 - i) 0).getD i 0 : Nat) : Int)) := blk_cell HR2.out.w (wvt_get (by rw [HLN.out]; omega))
      generalize (wl l 0 i ++ List.replicate (64 - i) 0).getD i 0 = o at *
      go_wp2_with fail
      go_roundw
      case rel => exact ⟨i + 1, by omega, by go_num, by rw [← HST.out, Nat.zero_add]; exact HR2.out.set i _, below_set3 HL2.out _ _ (by omega) _⟩
      case measure => simp [intOf]; omega
    · have hi16 : i = 16 := by omega
      have HI := hide hi16
      have hi6 : ¬ (i : Int) < 16 := by omega
      clear hi16 hlt hi
      go_wp2_with fail
      rename World => wq
      go_loopw [5] (fun ii wx => ∃ i : Nat, i ≤ 64 ∧ 16 ≤ i ∧ ii = .int .i64 (i : Nat) ∧ Hid (WBk wx B (wl l 0 i ++ List.replicate (64 - i) 0)) ∧ Hid (Below B w wx)) (fun ii _ => 64 - (intOf ii).toNat)
      case atStart => exact ⟨16, by omega, by omega, rfl, by rw [← HI.out]; exact HR1, HL1⟩
      case round =>
        rename World => wz
        obtain ⟨k, hk, hk16, rfl, HR2, HL2⟩ := hrel
        clear HR1 HL1
        by_cases hlt : k < 64
        · have hlt' : (k : Int) < 64 := by omega
          have HST := hide (wl_set l 0 k hlt)
          rw [if_neg (by omega)] at HST
          have HLN := hide (wl_wlen l 0 k (by omega))
          have HG : Hid (∀ j, j < k → wz.cell? ⟨B + 1, j, none⟩ = some (.int .u32 (((wl l 0 k).getD j 0 : Nat) : Int))) := fun j hj => blk_cell HR2.out.w (by rw [wvt_get (by rw [HLN.out]; omega), wl_at l 0 k j hj])
          have f0 := blk_frozen k HR2.out.w
          have c15 := HG.out (k - 15) (by omega)
          have c2 := HG.out (k - 2) (by omega)
          have c7 := HG.out (k - 7) (by omega)
          have c16 := HG.out (k - 16) (by omega)
          have c0 : wz.cell? ⟨B + 1, k, none⟩ = some (.int .u32 (((wl l 0 k ++ List.replicate (64 - k) 0).getD k 0 : Nat) : Int)) := blk_cell HR2.out.w (wvt_get (by rw [HLN.out]; exact hlt))
          have hx := getD_w (wl_lt l 0 HLB.out k) (k - 15)
          have hy := getD_w (wl_lt l 0 HLB.out k) (k - 2)
          have h7 := getD_w (wl_lt l 0 HLB.out k) (k - 7)
          have h6 := getD_w (wl_lt l 0 HLB.out k) (k - 16)
          have HNX : Hid (nextW (wl l 0 k) k = (ls1 ((wl l 0 k).getD (k - 2) 0) + (wl l 0 k).getD (k - 7) 0 + ls0 ((wl l 0 k).getD (k - 15) 0) + (wl l 0 k).getD (k - 16) 0) % 4294967296) := rfl
          generalize (wl l 0 k ++ List.replicate (64 - k) 0).getD k 0 = o at *
          generalize (wl l 0 k).getD (k - 15) 0 = x at *
          generalize (wl l 0 k).getD (k - 2) 0 = y at *
          generalize (wl l 0 k).getD (k - 7) 0 = x7 at *
          generalize (wl l 0 k).getD (k - 16) 0 = x6 at *
          have hA := ls1_lt hy
          have hC := ls0_lt hx
          have HXX := hide hx
          have HYY := hide hy
          go_wp2_with fail
          have n7 : (7 : Int) ≤ (k : Int) := by omega
          have m7 : (k : Int) - 7 < 64 := by omega
          have t7 : ((k : Int) - 7).toNat = k - 7 := by omega
          have n6 : (16 : Int) ≤ (k : Int) := by omega
          have m6 : (k : Int) - 16 < 64 := by omega
          have t6 : ((k : Int) - 16).toNat = k - 16 := by omega
          have n2 : (2 : Int) ≤ (k : Int) := by omega
          have m2 : (k : Int) - 2 < 64 := by omega
          have t2 : ((k : Int) - 2).toNat = k - 2 := by omega
          have n5 : (15 : Int) ≤ (k : Int) := by omega
          have m5 : (k : Int) - 15 < 64 := by omega
          have t5 : ((k : Int) - 15).toNat = k - 15 := by omega
          have y7 : IntKind.i64.wrap ((k : Int) - 7) = (k : Int) - 7 := by rw [IntKind.wrap_i64]; omega
          have y6 : IntKind.i64.wrap ((k : Int) - 16) = (k : Int) - 16 := by rw [IntKind.wrap_i64]; omega
          have y2 : IntKind.i64.wrap ((k : Int) - 2) = (k : Int) - 2 := by rw [IntKind.wrap_i64]; omega
          have y5 : IntKind.i64.wrap ((k : Int) - 15) = (k : Int) - 15 := by rw [IntKind.wrap_i64]; omega
          refine wp_region_still_tail 22 (by kernel_rfl) (by kernel_rfl) ?_
          simp only [List.take_succ_cons, List.take_zero, List.drop_succ_cons, List.drop_zero]
          repeat (
            refine wpStill_step (fun K hK => ?_)
            go_simp
            first
              | (refine hK _ ?_; clear hK K)
              | (refine ⟨_, smallS0_any _ _ (by assumption), hK _ ?_⟩; clear hK K)
              | (refine ⟨_, smallS1_any _ _ (by assumption), hK _ ?_⟩; clear hK K))
          refine wpStill_nil ?_
          go_wp2_with fail
          go_roundw
          case rel =>
            have ev : (((ls1 y : Nat) : Int) + (x7 : Int) + ((ls0 x : Nat) : Int) + (x6 : Int)) % 4294967296 = ((nextW (wl l 0 k) k : Nat) : Int) := by rw [HNX.out]; omega
            rw [ev]
            exact ⟨k + 1, by omega, by omega, by go_num, by rw [← HST.out]; exact (HR2.out.set k _).drew, Below.drew (below_set3 HL2.out _ _ (by omega) _)⟩
          case measure => simp [intOf]; omega
        · have hk64 : k = 64 := by omega
          have HK := hide hk64
          have hk6 : ¬ (k : Int) < 64 := by omega
          clear hk64 hlt hk hk16
          have HW : Hid (wz.heap[B + 1]? = some (.cells (wv (wl l 0 64)).toArray 109 (0, 0))) := by
            have h := HR2.out.w
            rw [HK.out] at h
            show _ = _
            simpa using h
          have HI64 := hide (info64w (wl l 0 64) (wl_len l 0 64))
          have HSZ : Hid ((wv (List.replicate 64 0)).toArray.size = (wv (wl l 0 64)).toArray.size) := by show _ = _; simp [wv_len, wl_len]
          have HON := hide (one_w (wl l 0 64))
          have HR := hide HR2.out.r
          have hne : ¬ B = B + 1 := by omega
          clear HR2
          generalize hD : wl l 0 64 = D at *
          have HD := hide hD
          clear hD
          go_wp2_with (first
            | (refine wpList_loadRow rfl rfl (B + 1) 64 (wv D).toArray 109 rfl HW.out Tryd.underlying109 HI64.out ?_)
            | (refine wpList_storeRow rfl rfl B _ (wv D).toArray 109 rfl rfl HR.out HI64.out HSZ.out HON.out ?_))
          refine bodyPost_ret (v := .agg (wv D).toArray) ((results_one (p := 2) (ty := 109) rfl _ _ _).trans (run_loadVar_row (P := Tryd.prog) _ B 109 109 (wv D).toArray (0, 0) _ (row_same HR.out) Tryd.underlying109 rfl HI64.out)) rfl ⟨by rw [HD.out], ?_⟩
          rw [HBB.out]
          exact HL2.out.trans ((row_kp wz B _).below (by have := HL2.out.size; have := HBB.out; omega) (fun q e => by omega))
end Go.Proofs.YtedgdnoafajhoaaDoor

import Derived.Test.YtidglddjinfncabDoorJd
namespace Go.Proofs.YtidglddjinfncabDoor
section
open Go.RowKit
theorem wrd_cut (l : List Nat) (p : Nat) : wrd ((l.drop p).take 4) 0 = wrd l p := by
  unfold wrd
  have h : ∀ j, j < 4 → ((l.drop p).take 4).getD j 0 = l.getD (p + j) 0 := by
    intro j hj
    simp [List.getD, hj]
  rw [h 0 (by omega), h (0 + 1) (by omega), h (0 + 2) (by omega), h (0 + 3) (by omega)]
  simp
theorem info64w (l : List Nat) (h : l.length = 64) : (Tryd.prog.info? 92).map (·.size) = some (wv l).toArray.size := by
  have h2 := info64
  simp only [List.size_toArray, wv_len] at h2 ⊢
  rw [h2, h]
  rfl
theorem info8w (l : List Nat) (h : l.length = 8) : (Tryd.prog.info? 74).map (·.size) = some (wv l).toArray.size := by
  have h2 := info8
  simp only [List.size_toArray, wv_len] at h2 ⊢
  rw [h2, h]
  rfl
theorem one_w (l : List Nat) : (wv l).toArray.all (·.oneCell') = true := by
  rw [Array.all_eq_true_iff_forall_mem]
  intro u hu
  exact wv_one _ u (by simpa using hu)
/-- The two blocks of a call of words. -/
structure WBk (wx : World) (B : Nat) (ws : List Nat) : Prop where
  r : wx.heap[B]? = some (.cells (wv (List.replicate 64 0)).toArray 92 (0, 0))
  w : wx.heap[B + 1]? = some (.cells (wv ws).toArray 92 (0, 0))
theorem WBk.below {w w' : World} {B : Nat} {ws : List Nat} (h : WBk w B ws) (hb : Below w.heap.size w w') : WBk w' B ws :=
  ⟨(hb.block B (blk_lt h.r)).trans h.r, (hb.block _ (blk_lt h.w)).trans h.w⟩
theorem WBk.set {w : World} {B : Nat} {ws : List Nat} (h : WBk w B ws) (j x : Nat) : WBk (w.setCell ⟨B + 1, j, none⟩ (.int .u32 ((x : Nat) : Int))) B (ws.set j x) :=
  ⟨blk_other j _ h.r (by omega), by rw [← wvt_set]; exact blk_set j _ h.w⟩
theorem WBk.drew {w : World} {B : Nat} {ws : List Nat} (h : WBk w B ws) : WBk w.drew B ws := ⟨h.r, h.w⟩

set_option maxRecDepth 1000000 in
set_option maxHeartbeats 4000000 in
theorem words_any (w : World) (v : Value) (l : List Nat) (hsl : BSl w v l) (hp : l.length = 64) :
    Calls Tryd.prog 43 #[v] w fun e w' => e = .returned (.agg (wv (wl l 0 64)).toArray) ∧ Below w.heap.size w w' := by
  have HSL := hide hsl
  obtain ⟨⟨a, cap, rfl, hn, hc⟩, hmax, hb⟩ := hsl
  rcases hc with hc | ⟨b, off, rfl, hc⟩
  · subst hc; simp at hp
  have hcp : (64 : Int) ≤ (cap : Int) := by have := hn.1; omega
  have HLB := hide hb
  rw [hp] at HSL ⊢
  have HP := hide hp
  clear hn hc hb hp hmax
  go_enter Tryd.func43, Tryd.ntmps43
  go_wp2_with fail
  rw [← zero64]
  have HB0 : Hid (WBk ((w.alloc (.cells (wv (List.replicate 64 0)).toArray 92)).alloc (.cells (wv (List.replicate 64 0)).toArray 92)) w.heap.size (List.replicate 64 0)) := by
    refine ⟨blk_alloc _ (heap_alloc_new w _), ?_⟩
    have h := heap_alloc_new (w.alloc (.cells (wv (List.replicate 64 0)).toArray 92)) (.cells (wv (List.replicate 64 0)).toArray 92)
    have e : (w.alloc (.cells (wv (List.replicate 64 0)).toArray 92)).heap.size = w.heap.size + 1 := by simp
    rw [e] at h
    exact h
  have HL0 : Hid (Below w.heap.size w ((w.alloc (.cells (wv (List.replicate 64 0)).toArray 92)).alloc (.cells (wv (List.replicate 64 0)).toArray 92))) := ((Below.refl _ _).alloc (Nat.le_refl _) _).alloc (by simp) _
  generalize (w.alloc (.cells (wv (List.replicate 64 0)).toArray 92)).alloc (.cells (wv (List.replicate 64 0)).toArray 92) = w1 at *
  generalize hB : w.heap.size = B at *
  have HBB := hide hB
  clear hB
  go_loopw [6] (fun ii wx => ∃ i : Nat, i ≤ 16 ∧ ii = .int .i64 (i : Nat) ∧ Hid (WBk wx B (wl l 0 i ++ List.replicate (64 - i) 0)) ∧ Hid (Below B w wx)) (fun ii _ => 16 - (intOf ii).toNat)
  case atStart => exact ⟨0, by omega, rfl, HB0, HL0⟩
  case round =>
    obtain ⟨i, hi, rfl, HR1, HL1⟩ := hrel
    clear HB0 HL0
    by_cases hlt : i < 16
    · have hlt' : (i : Int) < 16 := by omega
      have HV : Hid (BSl wr (.slice (some ⟨b, off, none⟩) 64 cap) l) := HSL.out.move (keep_below (by rw [HBB.out]; exact HL1.out))
      have HST := hide (wl_set l 0 i (by omega))
      rw [if_pos hlt] at HST
      have HLN := hide (wl_wlen l 0 i (by omega))
      go_wp2_with fail
      refine (word_any _ _ ((l.drop (4 * i)).take 4) ((HV.out.drop (4 * i) (by rw [HP.out]; omega)).take3 4 (by rw [List.length_drop, HP.out]; omega)) (by rw [List.length_take, List.length_drop, HP.out]; omega)).mono ?_
      rintro e w5 ⟨rfl, hb5⟩
      rw [wrd_cut]
      have HR2 := hide (HR1.out.below hb5)
      have HL2 : Hid (Below B w w5) := HL1.out.trans (hb5.mono (by have := HL1.out.size; have := HBB.out; omega))
      clear HR1 HL1 hb5
      have f0 := blk_frozen i HR2.out.w
      have c0 : w5.cell? ⟨B + 1, i, none⟩ = some (.int .u32 (((wl l 0 i ++ List.replicate (64 - i) 0).getD i 0 : Nat) : Int)) := blk_cell HR2.out.w (wvt_get (by rw [HLN.out]; omega))
      generalize (wl l 0 i ++ List.replicate (64 - i) 0).getD i 0 = o at *
      go_wp2_with fail
      go_roundw
      case rel => exact ⟨i + 1, by omega, by go_num, by rw [← HST.out, Nat.zero_add]; exact HR2.out.set i _, below_set3 HL2.out _ _ (by omega) _⟩
      case measure => simp [intOf]; omega
    · have hi16 : i = 16 := by omega
      have HI := hide hi16
      have hi6 : ¬ (i : Int) < 16 := by omega
      clear hi16 hlt hi
      go_wp2_with fail
      rename World => wq
      go_loopw [5] (fun ii wx => ∃ i : Nat, i ≤ 64 ∧ 16 ≤ i ∧ ii = .int .i64 (i : Nat) ∧ Hid (WBk wx B (wl l 0 i ++ List.replicate (64 - i) 0)) ∧ Hid (Below B w wx)) (fun ii _ => 64 - (intOf ii).toNat)
      case atStart => exact ⟨16, by omega, by omega, rfl, by rw [← HI.out]; exact HR1, HL1⟩
      case round =>
        rename World => wz
        obtain ⟨k, hk, hk16, rfl, HR2, HL2⟩ := hrel
        clear HR1 HL1
        by_cases hlt : k < 64
        · have hlt' : (k : Int) < 64 := by omega
          have HST := hide (wl_set l 0 k hlt)
          rw [if_neg (by omega)] at HST
          have HLN := hide (wl_wlen l 0 k (by omega))
          have HG : Hid (∀ j, j < k → wz.cell? ⟨B + 1, j, none⟩ = some (.int .u32 (((wl l 0 k).getD j 0 : Nat) : Int))) := fun j hj => blk_cell HR2.out.w (by rw [wvt_get (by rw [HLN.out]; omega), wl_at l 0 k j hj])
          have f0 := blk_frozen k HR2.out.w
          have c15 := HG.out (k - 15) (by omega)
          have c2 := HG.out (k - 2) (by omega)
          have c7 := HG.out (k - 7) (by omega)
          have c16 := HG.out (k - 16) (by omega)
          have c0 : wz.cell? ⟨B + 1, k, none⟩ = some (.int .u32 (((wl l 0 k ++ List.replicate (64 - k) 0).getD k 0 : Nat) : Int)) := blk_cell HR2.out.w (wvt_get (by rw [HLN.out]; exact hlt))
          have hx := getD_w (wl_lt l 0 HLB.out k) (k - 15)
          have hy := getD_w (wl_lt l 0 HLB.out k) (k - 2)
          have h7 := getD_w (wl_lt l 0 HLB.out k) (k - 7)
          have h6 := getD_w (wl_lt l 0 HLB.out k) (k - 16)
          have HNX : Hid (nextW (wl l 0 k) k = (ls1 ((wl l 0 k).getD (k - 2) 0) + (wl l 0 k).getD (k - 7) 0 + ls0 ((wl l 0 k).getD (k - 15) 0) + (wl l 0 k).getD (k - 16) 0) % 4294967296) := rfl
          generalize (wl l 0 k ++ List.replicate (64 - k) 0).getD k 0 = o at *
          generalize (wl l 0 k).getD (k - 15) 0 = x at *
          generalize (wl l 0 k).getD (k - 2) 0 = y at *
          generalize (wl l 0 k).getD (k - 7) 0 = x7 at *
          generalize (wl l 0 k).getD (k - 16) 0 = x6 at *
          have hA := ls1_lt hy
          have hC := ls0_lt hx
          have HXX := hide hx
          have HYY := hide hy
          go_wp2_with fail
          have n7 : (7 : Int) ≤ (k : Int) := by omega
          have m7 : (k : Int) - 7 < 64 := by omega
          have t7 : ((k : Int) - 7).toNat = k - 7 := by omega
          have n6 : (16 : Int) ≤ (k : Int) := by omega
          have m6 : (k : Int) - 16 < 64 := by omega
          have t6 : ((k : Int) - 16).toNat = k - 16 := by omega
          have n2 : (2 : Int) ≤ (k : Int) := by omega
          have m2 : (k : Int) - 2 < 64 := by omega
          have t2 : ((k : Int) - 2).toNat = k - 2 := by omega
          have n5 : (15 : Int) ≤ (k : Int) := by omega
          have m5 : (k : Int) - 15 < 64 := by omega
          have t5 : ((k : Int) - 15).toNat = k - 15 := by omega
          have y7 : IntKind.i64.wrap ((k : Int) - 7) = (k : Int) - 7 := by rw [IntKind.wrap_i64]; omega
          have y6 : IntKind.i64.wrap ((k : Int) - 16) = (k : Int) - 16 := by rw [IntKind.wrap_i64]; omega
          have y2 : IntKind.i64.wrap ((k : Int) - 2) = (k : Int) - 2 := by rw [IntKind.wrap_i64]; omega
          have y5 : IntKind.i64.wrap ((k : Int) - 15) = (k : Int) - 15 := by rw [IntKind.wrap_i64]; omega
          refine wp_region_still_tail 22 (by kernel_rfl) (by kernel_rfl) ?_
          simp only [List.take_succ_cons, List.take_zero, List.drop_succ_cons, List.drop_zero]
          repeat (
            refine wpStill_step (fun K hK => ?_)
            go_simp
            first
              | (refine hK _ ?_; clear hK K)
              | (refine ⟨_, smallS0_any _ _ (by assumption), hK _ ?_⟩; clear hK K)
              | (refine ⟨_, smallS1_any _ _ (by assumption), hK _ ?_⟩; clear hK K))
          refine wpStill_nil ?_
          go_wp2_with fail
          go_roundw
          case rel =>
            have ev : (((ls1 y : Nat) : Int) + (x7 : Int) + ((ls0 x : Nat) : Int) + (x6 : Int)) % 4294967296 = ((nextW (wl l 0 k) k : Nat) : Int) := by rw [HNX.out]; omega
            rw [ev]
            exact ⟨k + 1, by omega, by omega, by go_num, by rw [← HST.out]; exact (HR2.out.set k _).drew, Below.drew (below_set3 HL2.out _ _ (by omega) _)⟩
          case measure => simp [intOf]; omega
        · have hk64 : k = 64 := by omega
          have HK := hide hk64
          have hk6 : ¬ (k : Int) < 64 := by omega
          clear hk64 hlt hk hk16
          have HW : Hid (wz.heap[B + 1]? = some (.cells (wv (wl l 0 64)).toArray 92 (0, 0))) := by
            have h := HR2.out.w
            rw [HK.out] at h
            show _ = _
            simpa using h
          have HI64 := hide (info64w (wl l 0 64) (wl_len l 0 64))
          have HSZ : Hid ((wv (List.replicate 64 0)).toArray.size = (wv (wl l 0 64)).toArray.size) := by show _ = _; simp [wv_len, wl_len]
          have HON := hide (one_w (wl l 0 64))
          have HR := hide HR2.out.r
          have hne : ¬ B = B + 1 := by omega
          clear HR2
          generalize hD : wl l 0 64 = D at *
          have HD := hide hD
          clear hD
          go_wp2_with (first
            | (refine wpList_loadRow rfl rfl (B + 1) 64 (wv D).toArray 92 rfl HW.out Tryd.underlying92 HI64.out ?_)
            | (refine wpList_storeRow rfl rfl B _ (wv D).toArray 92 rfl rfl HR.out HI64.out HSZ.out HON.out ?_))
          refine bodyPost_ret (v := .agg (wv D).toArray) ((results_one (p := 2) (ty := 92) rfl _ _ _).trans (run_loadVar_row (P := Tryd.prog) _ B 92 92 (wv D).toArray (0, 0) _ (row_same HR.out) Tryd.underlying92 rfl HI64.out)) rfl ⟨by rw [HD.out], ?_⟩
          rw [HBB.out]
          exact HL2.out.trans ((row_kp wz B _).below (by have := HL2.out.size; have := HBB.out; omega) (fun q e => by omega))
end
section
open Go.RowKit
/-- The table at package level holds the document's words. -/
structure Cb (w : World) : Prop where
  c : ∀ i, i < 64 → w.cell? ⟨0, i, none⟩ = some (.int .u32 ((kk.getD i 0 : Nat) : Int))
theorem Cb.move {w w' : World} (h : Cb w) (hm : ∀ a u, w.cell? a = some u → w'.cell? a = some u) : Cb w' := ⟨fun i hi => hm _ _ (h.c i hi)⟩
theorem Cb.below {w w' : World} (h : Cb w) (hb : Below w.heap.size w w') : Cb w' := h.move (keep_below hb)
theorem Cb.kp {S : Nat → Prop} {w w' : World} (h : Cb w) (hk : Kp S w w') (hs : ¬ S 0) : Cb w' := ⟨fun i hi => hk.cell (h.c i hi) hs⟩
theorem Cb.pos {w : World} (h : Cb w) : 0 < w.heap.size := by
  have h0 := h.c 0 (by decide)
  by_cases hz : w.heap.size ≤ 0
  · exfalso
    have e : w.heap[0]? = none := Array.getElem?_eq_none (by omega)
    simp [World.cell?, e] at h0
  · omega

/-- The blocks of a call of changed. -/
structure FB (wx : World) (B N : Nat) (s ws : List Nat) : Prop where
  s : wx.heap[B]? = some (.cells (wv s).toArray 74 (0, 0))
  r : wx.heap[B + 1]? = some (.cells (wv (List.replicate 8 0)).toArray 74 (0, 0))
  w : wx.heap[N]? = some (.cells (wv ws).toArray 92 (0, 0))
  c : Cb wx
theorem FB.drewN {wx : World} {B N : Nat} {s ws : List Nat} (h : FB wx B N s ws) (n : Nat) : FB (wx.drewN n) B N s ws := ⟨h.s, h.r, h.w, ⟨h.c.c⟩⟩

set_option maxRecDepth 1000000 in
set_option maxHeartbeats 1000000 in
theorem changed_any (w : World) (v : Value) (l s : List Nat) (hcb : Cb w) (hsl : BSl w v l) (hp : l.length = 64) (hs : s.length = 8) (hw : ∀ x ∈ s, x < 4294967296) :
    Calls Tryd.prog 31 #[.agg (wv s).toArray, v] w fun e w' => e = .returned (.agg (wv (cmp l 0 s)).toArray) ∧ Below w.heap.size w w' := by
  have HSL := hide hsl
  have HW := hide hw
  have HCB := hide hcb
  have HP := hide hp
  clear hsl hw hcb hp
  have HS : Hid (s.length = 8) := hs
  match s, hs with
  | [s0, s1, s2, s3, s4, s5, s6, s7], _ =>
  have hlit : (wv [s0, s1, s2, s3, s4, s5, s6, s7]).toArray = #[.int .u32 (s0 : Nat), .int .u32 (s1 : Nat), .int .u32 (s2 : Nat), .int .u32 (s3 : Nat), .int .u32 (s4 : Nat), .int .u32 (s5 : Nat), .int .u32 (s6 : Nat), .int .u32 (s7 : Nat)] := rfl
  have hzer : (wv (List.replicate 8 0)).toArray = #[.int .u32 0, .int .u32 0, .int .u32 0, .int .u32 0, .int .u32 0, .int .u32 0, .int .u32 0, .int .u32 0] := rfl
  rw [hlit]
  go_enter Tryd.func31, Tryd.ntmps31
  go_wp2_with fail
  rw [← hlit, ← hzer]
  have HS1 : Hid (((w.alloc (.cells (wv [s0, s1, s2, s3, s4, s5, s6, s7]).toArray 74)).alloc (.cells (wv (List.replicate 8 0)).toArray 74)).heap[w.heap.size]? = some (.cells (wv [s0, s1, s2, s3, s4, s5, s6, s7]).toArray 74 (0, 0))) := blk_alloc _ (heap_alloc_new w _)
  have HR1 : Hid (((w.alloc (.cells (wv [s0, s1, s2, s3, s4, s5, s6, s7]).toArray 74)).alloc (.cells (wv (List.replicate 8 0)).toArray 74)).heap[w.heap.size + 1]? = some (.cells (wv (List.replicate 8 0)).toArray 74 (0, 0))) := by
    have h := heap_alloc_new (w.alloc (.cells (wv [s0, s1, s2, s3, s4, s5, s6, s7]).toArray 74)) (.cells (wv (List.replicate 8 0)).toArray 74)
    have e : (w.alloc (.cells (wv [s0, s1, s2, s3, s4, s5, s6, s7]).toArray 74)).heap.size = w.heap.size + 1 := by simp
    rw [e] at h
    exact h
  have HL1 : Hid (Below w.heap.size w ((w.alloc (.cells (wv [s0, s1, s2, s3, s4, s5, s6, s7]).toArray 74)).alloc (.cells (wv (List.replicate 8 0)).toArray 74))) := ((Below.refl _ _).alloc (Nat.le_refl _) _).alloc (by simp) _
  clear hlit hzer
  generalize (w.alloc (.cells (wv [s0, s1, s2, s3, s4, s5, s6, s7]).toArray 74)).alloc (.cells (wv (List.replicate 8 0)).toArray 74) = w1 at *
  generalize hB : w.heap.size = B at *
  have HBB := hide hB
  clear hB
  refine (words_any w1 v l (HSL.out.move (keep_below (by rw [HBB.out]; exact HL1.out))) HP.out).mono ?_
  rintro e w2 ⟨rfl, hb2⟩
  have HS2 := hide ((hb2.block B (blk_lt HS1.out)).trans HS1.out)
  have HR2 := hide ((hb2.block (B + 1) (blk_lt HR1.out)).trans HR1.out)
  have HL2 : Hid (Below B w w2) := HL1.out.trans (hb2.mono (by have := HL1.out.size; have := HBB.out; omega))
  clear hb2 HS1 HR1 HL1
  have HI64 := hide (info64w (wl l 0 64) (wl_len l 0 64))
  have HON := hide (one_w (wl l 0 64))
  have HWL := hide (wl_len l 0 64)
  have HWB := hide (wl_lt l 0 HSL.out.byte 64)
  have HSZ : Hid ((wv (List.replicate 64 0)).toArray.size = (wv (wl l 0 64)).toArray.size) := by show _ = _; simp [wv_len, wl_len]
  have HFB : Hid (FB ((w2.alloc (.cells (wv (List.replicate 64 0)).toArray 92)).setRow w2.heap.size (wv (wl l 0 64)).toArray) B w2.heap.size [s0, s1, s2, s3, s4, s5, s6, s7] (wl l 0 64)) := by
    have k0 := blk_lt HS2.out
    have k1 := blk_lt HR2.out
    have hlt := HCB.out.pos
    have hb : Below w2.heap.size w2 ((w2.alloc (.cells (wv (List.replicate 64 0)).toArray 92)).setRow w2.heap.size (wv (wl l 0 64)).toArray) := ((Below.refl _ _).alloc (Nat.le_refl _) _).trans ((row_kp _ _ _).below (by simp) (fun q e => by omega))
    exact ⟨by rw [row_other (by omega)]; exact blk_alloc _ HS2.out, by rw [row_other (by omega)]; exact blk_alloc _ HR2.out, row_same (heap_alloc_new w2 _), (HCB.out.below (by rw [HBB.out]; exact HL2.out)).below hb⟩
  have HL3 : Hid (Below B w ((w2.alloc (.cells (wv (List.replicate 64 0)).toArray 92)).setRow w2.heap.size (wv (wl l 0 64)).toArray)) := by
    have h2 := HL2.out.size
    have hB := HBB.out
    exact (HL2.out.alloc (by omega) _).trans ((row_kp _ _ _).below (by simp; omega) (fun q e => by omega))
  have HNB : Hid (B + 1 < w2.heap.size) := blk_lt HR2.out
  have HCM : Hid (cmp l 0 [s0, s1, s2, s3, s4, s5, s6, s7] = List.zipWith (fun x y => (x + y) % 4294967296) [s0, s1, s2, s3, s4, s5, s6, s7] (rl l 0 [s0, s1, s2, s3, s4, s5, s6, s7] 64)) := rfl
  have HWE : Hid (∀ i, i < 64 → (wl l 0 (i + 1)).getD i 0 = (wl l 0 64).getD i 0) := fun i hi => (wl_get l 0 (i + 1) 64 i (by omega) (by omega)).symm
  generalize wl l 0 64 = W at *
  go_wp2_with (refine wpList_storeRow rfl rfl w2.heap.size _ (wv W).toArray 92 rfl rfl (heap_alloc_new w2 _) HI64.out (by rw [← HSZ.out, zero64]) HON.out ?_; rw [← zero64]; generalize (w2.alloc (.cells (wv (List.replicate 64 0)).toArray 92)).setRow w2.heap.size (wv W).toArray = w3 at *; generalize w2.heap.size = N at *; have q0 : w3.cell? ⟨B, 0, none⟩ = some (.int .u32 (s0 : Nat)) := blk_cell HFB.out.s rfl; have q1 : w3.cell? ⟨B, 1, none⟩ = some (.int .u32 (s1 : Nat)) := blk_cell HFB.out.s rfl; have q2 : w3.cell? ⟨B, 2, none⟩ = some (.int .u32 (s2 : Nat)) := blk_cell HFB.out.s rfl; have q3 : w3.cell? ⟨B, 3, none⟩ = some (.int .u32 (s3 : Nat)) := blk_cell HFB.out.s rfl; have q4 : w3.cell? ⟨B, 4, none⟩ = some (.int .u32 (s4 : Nat)) := blk_cell HFB.out.s rfl; have q5 : w3.cell? ⟨B, 5, none⟩ = some (.int .u32 (s5 : Nat)) := blk_cell HFB.out.s rfl; have q6 : w3.cell? ⟨B, 6, none⟩ = some (.int .u32 (s6 : Nat)) := blk_cell HFB.out.s rfl; have q7 : w3.cell? ⟨B, 7, none⟩ = some (.int .u32 (s7 : Nat)) := blk_cell HFB.out.s rfl)
  go_simp
  go_quiet (fail)
  have HF4 := hide (HFB.out.drewN nq)
  have HL4 : Hid (Below B w (w3.drewN nq)) := below_drewN HL3.out _
  clear q0 q1 q2 q3 q4 q5 q6 q7 HFB HL3 HS2 HR2 HL2 HI64 HON HSZ
  generalize w3.drewN nq = w4 at *
  have q4 : w4.cell? ⟨B, 4, none⟩ = some (.int .u32 (s4 : Nat)) := blk_cell HF4.out.s rfl
  have q5 : w4.cell? ⟨B, 5, none⟩ = some (.int .u32 (s5 : Nat)) := blk_cell HF4.out.s rfl
  have q6 : w4.cell? ⟨B, 6, none⟩ = some (.int .u32 (s6 : Nat)) := blk_cell HF4.out.s rfl
  have q7 : w4.cell? ⟨B, 7, none⟩ = some (.int .u32 (s7 : Nat)) := blk_cell HF4.out.s rfl
  go_wp2_with fail
  go_quiet (fail)
  have HF5 := hide (HF4.out.drewN nq)
  have HL5 : Hid (Below B w (w4.drewN nq)) := below_drewN HL4.out _
  clear q4 q5 q6 q7 HF4 HL4
  generalize w4.drewN nq = w5 at *
  go_wp2_with fail
  have HRL0 : Hid (rl l 0 [s0, s1, s2, s3, s4, s5, s6, s7] 0 = [s0, s1, s2, s3, s4, s5, s6, s7]) := rfl
  have HRS : Hid (∀ n, rl l 0 [s0, s1, s2, s3, s4, s5, s6, s7] (n + 1) = rnd (rl l 0 [s0, s1, s2, s3, s4, s5, s6, s7] n) (kk.getD n 0) ((wl l 0 (n + 1)).getD n 0)) := fun _ => rfl
  have HRB : Hid (∀ n, ∀ x ∈ rl l 0 [s0, s1, s2, s3, s4, s5, s6, s7] n, x < 4294967296) := rl_lt l 0 _ HW.out
  have HRN : Hid (∀ n, (rl l 0 [s0, s1, s2, s3, s4, s5, s6, s7] n).length = 8) := rl_len l 0 _ rfl
  generalize hR : rl l 0 [s0, s1, s2, s3, s4, s5, s6, s7] = R at *
  clear hR
  go_loopw [6, 7, 8, 9, 10, 11, 12, 13, 35] (fun xa xb xc xd xe xf xg xh ii wx => ∃ i : Nat, i ≤ 64 ∧ ii = .int .i64 (i : Nat) ∧ xa = .int .u32 (((R i).getD 0 0 : Nat) : Int) ∧ xb = .int .u32 (((R i).getD 1 0 : Nat) : Int) ∧ xc = .int .u32 (((R i).getD 2 0 : Nat) : Int) ∧ xd = .int .u32 (((R i).getD 3 0 : Nat) : Int) ∧ xe = .int .u32 (((R i).getD 4 0 : Nat) : Int) ∧ xf = .int .u32 (((R i).getD 5 0 : Nat) : Int) ∧ xg = .int .u32 (((R i).getD 6 0 : Nat) : Int) ∧ xh = .int .u32 (((R i).getD 7 0 : Nat) : Int) ∧ Hid (FB wx B N [s0, s1, s2, s3, s4, s5, s6, s7] W) ∧ Hid (Below B w wx)) (fun _ _ _ _ _ _ _ _ ii _ => 64 - (intOf ii).toNat)
  case atStart => exact ⟨0, by omega, rfl, by rw [HRL0.out]; rfl, by rw [HRL0.out]; rfl, by rw [HRL0.out]; rfl, by rw [HRL0.out]; rfl, by rw [HRL0.out]; rfl, by rw [HRL0.out]; rfl, by rw [HRL0.out]; rfl, by rw [HRL0.out]; rfl, HF5, HL5⟩
  case round =>
    obtain ⟨i, hi, rfl, rfl, rfl, rfl, rfl, rfl, rfl, rfl, rfl, HF6, HL6⟩ := hrel
    clear HF5 HL5
    by_cases hlt : i < 64
    · have hlt' : (i : Int) < 64 := by omega
      have hkc := HF6.out.c.c i hlt
      have hwc : wr.cell? ⟨N, i, none⟩ = some (.int .u32 ((W.getD i 0 : Nat) : Int)) := blk_cell HF6.out.w (wvt_get (by rw [HWL.out]; exact hlt))
      have hwb := getD_w HWB.out i
      have hkb : kk.getD i 0 < 4294967296 := getD_w kk_lt i
      have HRX : Hid (R (i + 1) = rnd (R i) (kk.getD i 0) (W.getD i 0)) := by rw [← HWE.out i hlt]; exact HRS.out i
      generalize W.getD i 0 = wi at *
      generalize kk.getD i 0 = ki at *
      have hb0 := getD_w (HRB.out i) 0
      have hb1 := getD_w (HRB.out i) 1
      have hb2 := getD_w (HRB.out i) 2
      have hb3 := getD_w (HRB.out i) 3
      have hb4 := getD_w (HRB.out i) 4
      have hb5 := getD_w (HRB.out i) 5
      have hb6 := getD_w (HRB.out i) 6
      have hb7 := getD_w (HRB.out i) 7
      have HRT : Hid (rT (R i) ki wi = ((R i).getD 7 0 + us1 ((R i).getD 4 0) + cho ((R i).getD 4 0) ((R i).getD 5 0) ((R i).getD 6 0) + ki + wi) % 4294967296) := rfl
      have HRU : Hid (rU (R i) = (us0 ((R i).getD 0 0) + maj ((R i).getD 0 0) ((R i).getD 1 0) ((R i).getD 2 0)) % 4294967296) := rfl
      have HTL : Hid (rT (R i) ki wi < 4294967296) := Nat.mod_lt _ (by decide)
      have HUL : Hid (rU (R i) < 4294967296) := Nat.mod_lt _ (by decide)
      have HRN : Hid (R (i + 1) = [(rT (R i) ki wi + rU (R i)) % 4294967296, (R i).getD 0 0, (R i).getD 1 0, (R i).getD 2 0, ((R i).getD 3 0 + rT (R i) ki wi) % 4294967296, (R i).getD 4 0, (R i).getD 5 0, (R i).getD 6 0]) := HRX.out
      clear HRX
      generalize rT (R i) ki wi = T at *
      generalize rU (R i) = U at *
      generalize (R i).getD 0 0 = va at *
      generalize (R i).getD 1 0 = vb at *
      generalize (R i).getD 2 0 = vc at *
      generalize (R i).getD 3 0 = vd at *
      generalize (R i).getD 4 0 = ve at *
      generalize (R i).getD 5 0 = vf at *
      generalize (R i).getD 6 0 = vg at *
      generalize (R i).getD 7 0 = vh at *
      have hA4 := us1_lt hb4
      have hC4 := us0_lt hb0
      obtain ⟨M1, M2, M3, M4, M5, k1, k2, k3, k4, k5, hM5, k6⟩ := maj_bits va vb vc hb0 hb1 hb2
      obtain ⟨H0, H1, H2, H3, l0, l1, l2, l3, hH3, l4⟩ := cho_bits ve vf vg hb4 hb5 hb6
      rw [l4] at HRT
      rw [k6] at HRU
      clear k6 l4
      go_wp2_with fail
      go_quiet ((go_at_call 44; exact Calls.quiet_of_same (bigS1_any _ _ (by assumption))))
      have eT : (((vh : Int) + ((us1 ve : Nat) : Int) + (H3 : Int) + (ki : Int)) % 4294967296 + (wi : Int)) % 4294967296 = (T : Int) := by rw [HRT.out]; omega
      have HF7 := hide (HF6.out.drewN nq)
      have HL7 : Hid (Below B w (wr.drewN nq)) := below_drewN HL6.out _
      clear hkc hwc HF6 HL6
      generalize wr.drewN nq = w7 at *
      rw [eT]
      clear eT
      have hTL := HTL.out
      go_wp2_with fail
      refine (bigS0_any va w7 hb0).mono ?_
      rintro e w8 ⟨rfl, rfl⟩
      have eU : (((us0 va : Nat) : Int) + (M5 : Int)) % 4294967296 = (U : Int) := by rw [HRU.out]; omega
      have hUL := HUL.out
      go_wp2_with fail
      go_roundw
      case rel =>
        refine ⟨i + 1, by omega, by go_num, ?_, ?_, ?_, ?_, ?_, ?_, ?_, ?_, HF7, HL7⟩ <;> rw [HRN.out] <;> simp only [List.getD_cons_zero, List.getD_cons_succ]
        · exact congrArg (Value.int .u32) (by omega)
        · exact congrArg (Value.int .u32) (by omega)
      case measure => simp [intOf]; omega
    · have hi64 : i = 64 := by omega
      have hi6 : ¬ (i : Int) < 64 := by omega
      rw [← hi64] at HCM
      obtain ⟨r0, r1, r2, r3, r4, r5, r6, r7, hr⟩ := eight (R i) (HRN.out i)
      have HRR := hide hr
      rw [hr] at HCM ⊢
      clear hi64 hlt hi hr
      have HC2 : Hid (cmp l 0 [s0, s1, s2, s3, s4, s5, s6, s7] = [(s0 + r0) % 4294967296, (s1 + r1) % 4294967296, (s2 + r2) % 4294967296, (s3 + r3) % 4294967296, (s4 + r4) % 4294967296, (s5 + r5) % 4294967296, (s6 + r6) % 4294967296, (s7 + r7) % 4294967296]) := HCM.out
      clear HCM
      have e0 : ((s0 : Int) + (r0 : Int)) % 4294967296 = (((s0 + r0) % 4294967296 : Nat) : Int) := by omega
      have q0 : wr.cell? ⟨B, 0, none⟩ = some (.int .u32 (s0 : Nat)) := blk_cell HF6.out.s rfl
      generalize (s0 + r0) % 4294967296 = c0 at *
      have e1 : ((s1 : Int) + (r1 : Int)) % 4294967296 = (((s1 + r1) % 4294967296 : Nat) : Int) := by omega
      have q1 : wr.cell? ⟨B, 1, none⟩ = some (.int .u32 (s1 : Nat)) := blk_cell HF6.out.s rfl
      generalize (s1 + r1) % 4294967296 = c1 at *
      have e2 : ((s2 : Int) + (r2 : Int)) % 4294967296 = (((s2 + r2) % 4294967296 : Nat) : Int) := by omega
      have q2 : wr.cell? ⟨B, 2, none⟩ = some (.int .u32 (s2 : Nat)) := blk_cell HF6.out.s rfl
      generalize (s2 + r2) % 4294967296 = c2 at *
      have e3 : ((s3 : Int) + (r3 : Int)) % 4294967296 = (((s3 + r3) % 4294967296 : Nat) : Int) := by omega
      have q3 : wr.cell? ⟨B, 3, none⟩ = some (.int .u32 (s3 : Nat)) := blk_cell HF6.out.s rfl
      generalize (s3 + r3) % 4294967296 = c3 at *
      have e4 : ((s4 : Int) + (r4 : Int)) % 4294967296 = (((s4 + r4) % 4294967296 : Nat) : Int) := by omega
      have q4 : wr.cell? ⟨B, 4, none⟩ = some (.int .u32 (s4 : Nat)) := blk_cell HF6.out.s rfl
      generalize (s4 + r4) % 4294967296 = c4 at *
      have e5 : ((s5 : Int) + (r5 : Int)) % 4294967296 = (((s5 + r5) % 4294967296 : Nat) : Int) := by omega
      have q5 : wr.cell? ⟨B, 5, none⟩ = some (.int .u32 (s5 : Nat)) := blk_cell HF6.out.s rfl
      generalize (s5 + r5) % 4294967296 = c5 at *
      have e6 : ((s6 : Int) + (r6 : Int)) % 4294967296 = (((s6 + r6) % 4294967296 : Nat) : Int) := by omega
      have q6 : wr.cell? ⟨B, 6, none⟩ = some (.int .u32 (s6 : Nat)) := blk_cell HF6.out.s rfl
      generalize (s6 + r6) % 4294967296 = c6 at *
      have e7 : ((s7 : Int) + (r7 : Int)) % 4294967296 = (((s7 + r7) % 4294967296 : Nat) : Int) := by omega
      have q7 : wr.cell? ⟨B, 7, none⟩ = some (.int .u32 (s7 : Nat)) := blk_cell HF6.out.s rfl
      generalize (s7 + r7) % 4294967296 = c7 at *
      have HR := hide HF6.out.r
      simp only [List.getD_cons_zero, List.getD_cons_succ]
      go_wp2_with (refine wpList_storeRow rfl rfl (B + 1) _ (wv [c0, c1, c2, c3, c4, c5, c6, c7]).toArray 74 rfl rfl HR.out (info8w _ rfl) rfl (one_w _) ?_)
      refine bodyPost_ret (v := .agg (wv [c0, c1, c2, c3, c4, c5, c6, c7]).toArray) ((results_one (p := 4) (ty := 74) rfl _ _ _).trans (run_loadVar_row (P := Tryd.prog) _ (B + 1) 74 74 (wv [c0, c1, c2, c3, c4, c5, c6, c7]).toArray (0, 0) _ (row_same HR.out) Tryd.underlying74 rfl (info8w _ rfl))) rfl ⟨by rw [HC2.out], ?_⟩
      rw [HBB.out]
      exact HL6.out.trans ((row_kp wr (B + 1) _).below (by have := HL6.out.size; have := HBB.out; omega) (fun q e => by omega))
end
section
open Go.RowKit
set_option maxRecDepth 1000000 in
theorem first_any (w : World) : Calls Tryd.prog 30 #[] w fun e w' => e = .returned (.agg (wv hh).toArray) ∧ Below w.heap.size w w' := by
  go_enter Tryd.func30, Tryd.ntmps30
  go_wp2
  refine bodyPost_ret (v := .agg #[.int .u32 1779033703, .int .u32 3144134277, .int .u32 1013904242, .int .u32 2773480762, .int .u32 1359893119, .int .u32 2600822924, .int .u32 528734635, .int .u32 1541459225]) ((results_one (p := 0) (ty := 74) rfl _ _ _).trans (by go_simp; first | done | rfl)) rfl ⟨by kernel_rfl, ?_⟩
  exact (Below.refl _ _).alloc (Nat.le_refl _) _

/-! ### A hash under way -/
/-- The cells of a hash. -/
def hc (s r : List Nat) (c : Nat) : List Value := wv s ++ (bv r ++ [.int .u64 ((c : Nat) : Int)])
theorem hc_len {s r : List Nat} {c : Nat} (hs : s.length = 8) (hr : r.length = 64) : (hc s r c).length = 73 := by simp [hc, wv, bv, hs, hr]
/-- What has not gone into the state. -/
def tl (xs : List Nat) : List Nat := xs.drop (64 * (xs.length / 64))
theorem tl_len (xs : List Nat) : (tl xs).length = xs.length % 64 := by simp [tl]; omega
def fillz (l : List Nat) : List Nat := l ++ List.replicate (64 - l.length) 0
theorem fillz_len {l : List Nat} (h : l.length ≤ 64) : (fillz l).length = 64 := by simp [fillz]; omega
/-- A block that holds a hash to which these bytes were written. -/
structure HS (w : World) (g : Nat) (xs : List Nat) : Prop where
  b : w.heap[g]? = some (.cells (hc (abs xs hh (xs.length / 64)) (fillz (tl xs)) xs.length).toArray 78 (0, 0))
theorem HS.kp {S : Nat → Prop} {w w' : World} {g : Nat} {xs : List Nat} (h : HS w g xs) (hk : Kp S w w') (hs : ¬ S g) : HS w' g xs := ⟨(hk.block g (blk_lt h.b) hs).trans h.b⟩
theorem HS.below {w w' : World} {g : Nat} {xs : List Nat} (h : HS w g xs) (hb : Below w.heap.size w w') : HS w' g xs := ⟨(hb.block g (blk_lt h.b)).trans h.b⟩
def Tryd.zeroCells78 : Array Value := #[.int .u32 0, .int .u32 0, .int .u32 0, .int .u32 0, .int .u32 0, .int .u32 0, .int .u32 0, .int .u32 0, .int .u8 0, .int .u8 0, .int .u8 0, .int .u8 0, .int .u8 0, .int .u8 0, .int .u8 0, .int .u8 0, .int .u8 0, .int .u8 0, .int .u8 0, .int .u8 0, .int .u8 0, .int .u8 0, .int .u8 0, .int .u8 0, .int .u8 0, .int .u8 0, .int .u8 0, .int .u8 0, .int .u8 0, .int .u8 0, .int .u8 0, .int .u8 0, .int .u8 0, .int .u8 0, .int .u8 0, .int .u8 0, .int .u8 0, .int .u8 0, .int .u8 0, .int .u8 0, .int .u8 0, .int .u8 0, .int .u8 0, .int .u8 0, .int .u8 0, .int .u8 0, .int .u8 0, .int .u8 0, .int .u8 0, .int .u8 0, .int .u8 0, .int .u8 0, .int .u8 0, .int .u8 0, .int .u8 0, .int .u8 0, .int .u8 0, .int .u8 0, .int .u8 0, .int .u8 0, .int .u8 0, .int .u8 0, .int .u8 0, .int .u8 0, .int .u8 0, .int .u8 0, .int .u8 0, .int .u8 0, .int .u8 0, .int .u8 0, .int .u8 0, .int .u8 0, .int .u64 0]
@[simp] theorem zeroHash_run (w : World) : Sem.run Tryd.prog (zeroValue 78) w = .ok (.agg Tryd.zeroCells78) w := rfl
@[simp] theorem zeroHash_size : Tryd.zeroCells78.size = 73 := rfl
@[simp] theorem zeroHash_ne : Tryd.zeroCells78 ≠ #[] := fun h => by have := congrArg Array.size h; simp at this
theorem newCells : List.foldl (fun cs x => cs.setIfInBounds x.snd x.fst) Tryd.zeroCells78 (wv hh).zipIdx = (hc hh (List.replicate 64 0) 0).toArray := by kernel_rfl

set_option maxRecDepth 1000000 in
theorem new_any (w : World) : Calls Tryd.prog 15 #[] w fun e w' => ∃ g, e = .returned (.pointer (some ⟨g, 0, none⟩)) ∧ w.heap.size ≤ g ∧ HS w' g [] ∧ Below w.heap.size w w' := by
  go_enter Tryd.func15, Tryd.ntmps15
  go_wp2_with fail
  refine (first_any _).mono ?_
  rintro e w1 ⟨rfl, hb1⟩
  go_wp2_with fail
  rw [newCells]
  go_ret
  exact ⟨w1.heap.size, rfl, hb1.size, ⟨heap_alloc_new w1 _⟩, hb1.alloc hb1.size _⟩
end
section
open Go.RowKit
/-- What is written behind all bytes. -/
def endg (n : Nat) : List Nat := [128] ++ List.replicate (zer n) 0 ++ beb 8 (8 * n)
theorem pad_endg (xs : List Nat) : pad xs = xs ++ endg xs.length := by simp [pad, endg]
theorem make128 (w : World) : (Instr.makeSlice 30 (.int .i64 0) (.int .i64 128)).run Tryd.prog w = .ok (.slice (some ⟨w.heap.size, 0, none⟩) 0 128) (w.alloc (.cells (bv (List.replicate 128 0)).toArray 5)) := by kernel_rfl
theorem own_make {w : World} {c : Nat} {cs : List Value} (hl : cs.length = c) (hc : c ≤ maxLen) : (w.alloc (.cells cs.toArray 5)).ownsRow w.heap.size 5 1 (.slice (some ⟨w.heap.size, 0, none⟩) 0 c) 0 (bv []) :=
  ⟨rfl, .inr ⟨w.heap.size, c, _, rfl, Nat.le_refl _, heap_alloc_new w _, Nat.zero_le _, hc, by simpa using hl, by simp [bv]⟩⟩

set_option maxRecDepth 1000000 in
set_option maxHeartbeats 1000000 in
theorem ending_any (w : World) (n : Nat) (hlen : n ≤ 140737488355328) :
    Calls Tryd.prog 32 #[.int .u64 (n : Nat)] w fun e w' => ∃ v', e = .returned v' ∧ w'.ownsRow w.heap.size 5 1 v' (endg n).length (bv (endg n)) ∧ Below w.heap.size w w' := by
  generalize hB : w.heap.size = B at *
  have HB := hide hB
  clear hB
  have HL := hide hlen
  clear hlen
  have hmk := make128 w
  have HO0 : Hid ((w.alloc (.cells (bv (List.replicate 128 0)).toArray 5)).ownsRow w.heap.size 5 1 (.slice (some ⟨w.heap.size, 0, none⟩) 0 128) 0 (bv [])) := own_make (by simp [bv_len]) (by unfold maxLen; decide)
  have HB0 : Hid (Below B w (w.alloc (.cells (bv (List.replicate 128 0)).toArray 5))) := (Below.refl _ _).alloc (by have := HB.out; omega) _
  have hB0 : w.heap.size = B := HB.out
  rw [hB0] at hmk HO0
  clear hB0
  generalize w.alloc (.cells (bv (List.replicate 128 0)).toArray 5) = w0 at *
  have hs0 : B ≤ w0.heap.size := by have := HB0.out.size; have := HB.out; omega
  have HS1 := hide (one_bsl w0 128 (by decide))
  have HA1 := hide (HO0.out.alloc (.cells #[.int .u8 128] 5))
  go_enter Tryd.func32, Tryd.ntmps32
  go_wp2_with (at_builtin; refine append_bsl rfl _ _ rfl B _ 0 [] rfl HA1.out _ [128] rfl HS1.out ?b1 ?b2 ?_)
  case b1 => simp
  case b2 => simp; omega
  intro v2 w2 ho2 hg2
  have hlo := fun g (h : _ = some g) => (HA1.out.lt g h).1
  have HB2 : Hid (Below B w w2) := (HB0.out.alloc hs0 _).grown hg2 (by simp; omega) (fun g hg => hlo g hg)
  have HO2 := hide ho2
  clear ho2 hg2 hlo HA1 HS1 HO0 HB0 hs0 hmk
  go_wp2
  go_loopw [3] (fun u wx => ∃ z : Nat, z ≤ zer n ∧ lenOf u = 1 + z ∧ Hid (wx.ownsRow B 5 1 u (1 + z) (bv ([128] ++ List.replicate z 0))) ∧ Hid (Below B w wx)) (fun u _ => 1 + zer n - lenOf u)
  case atStart => exact ⟨0, Nat.zero_le _, own_lenOf HO2.out, by show World.ownsRow _ _ _ _ _ _ _; simpa using HO2.out, HB2⟩
  case round =>
    obtain ⟨z, hz, hlz, HO, HBL⟩ := hrel
    clear HO2 HB2
    obtain ⟨au, cu, hv, hv1, hv2, hv3⟩ := own_form HO.out
    subst hv
    clear hv1 hv2 hv3
    have hzl := zer_lt n
    have hzm := zer_mod n
    have hs3 : B ≤ wr.heap.size := by have := HBL.out.size; have := HB.out; omega
    have hl8 : n ≤ 140737488355328 := HL.out
    by_cases hlt : z < zer n
    · have hne : (((n : Int) + (1 + (z : Int)) + 8) % 64 != 0) = true := bne_iff_ne.2 (by omega)
      have HS1 := hide (one_bsl wr 0 (by decide))
      have HA1 := hide (HO.out.alloc (.cells #[.int .u8 0] 5))
      go_wp2_with (at_builtin; refine append_bsl rfl _ _ rfl B _ (1 + z) _ rfl HA1.out _ [0] rfl HS1.out ?b1 ?b2 ?_)
      case b1 => simp; omega
      case b2 => simp; omega
      intro v3 w3 ho3 hg3
      have hlo := fun g (h : _ = some g) => (HA1.out.lt g h).1
      have HB3 : Hid (Below B w w3) := (HBL.out.alloc hs3 _).grown hg3 (by simp; omega) (fun g hg => hlo g hg)
      have HO3 : Hid (w3.ownsRow B 5 1 v3 (1 + (z + 1)) (bv ([128] ++ List.replicate (z + 1) 0))) := by
        show World.ownsRow _ _ _ _ _ _ _
        have h := ho3
        rw [List.replicate_succ']
        simpa [Nat.add_assoc] using h
      clear ho3 hg3 hlo HA1 HS1
      obtain ⟨a3, c3, hv3, hv1, hv2, hv4⟩ := own_form HO3.out
      subst hv3
      clear hv1 hv2 hv4
      go_wp2
      go_roundw
      case rel => exact ⟨z + 1, by omega, rfl, HO3, HB3⟩
      case measure => simp [lenOf]; omega
    · have hzz : z = zer n := by omega
      have hne : (((n : Int) + (1 + (z : Int)) + 8) % 64 != 0) = false := bne_eq_false_iff_eq.2 (by omega)
      have HPD : Hid (endg n = [128] ++ List.replicate z 0 ++ beb 8 (8 * n)) := by show _ = _; rw [hzz]; rfl
      have HPL : Hid (([128] ++ List.replicate z 0).length = 1 + z) := by show _ = _; simp; omega
      generalize [128] ++ List.replicate z 0 = D at *
      have hL9 : 1 + z ≤ 100 := by omega
      have HL9 := hide hL9
      clear hzm hzl hlt hz hzz hlz
      go_wp2
      clear hne
      have hNN : 8 * (n : Int) = ((8 * n : Nat) : Int) := by omega
      go_loopw [3, 4] (fun u q wx => ∃ j : Nat, j ≤ 8 ∧ q = .int .i64 (7 - (j : Int)) ∧ Hid (wx.ownsRow B 5 1 u (1 + z + j) (bv (D ++ (beb 8 (8 * n)).take j))) ∧ Hid (Below B w wx)) (fun _ q _ => (intOf q + 1).toNat)
      case atStart => exact ⟨0, by omega, by simp, by show World.ownsRow _ _ _ _ _ _ _; simpa using HO.out, HBL⟩
      case round =>
        obtain ⟨j, hj, rfl, HO4, HBL4⟩ := hrel
        clear HO HBL
        rename World => wz
        have hs4 : B ≤ wz.heap.size := by have := HBL4.out.size; have := HB.out; omega
        by_cases hlt2 : j < 8
        · have hlt2' : (0 : Int) ≤ 7 - (j : Int) := by omega
          have hidx : (7 - (j : Int)) = ((7 - j : Nat) : Int) := by omega
          rw [hidx]
          have hq8 : 7 - j < 8 := by omega
          have HTK : Hid ((beb 8 (8 * n)).take (j + 1) = (beb 8 (8 * n)).take j ++ [8 * n / 256 ^ (7 - j) % 256]) := by
            show _ = _
            rw [← beb_get 8 (8 * n) j hlt2]
            exact take_snoc3 _ _ (by rw [beb_len]; exact hlt2)
          have HID : Hid (((7 - j : Nat) : Int) - 1 = 7 - ((j + 1 : Nat) : Int)) := by show _ = _; omega
          generalize 7 - j = q at *
          clear hidx hlt2'
          have hc : ((8 * n / 256 ^ q % 256 : Nat) : Int) = 8 * (n : Int) / 2 ^ (8 * q) % 256 := by rw [pow_int8]; rw [Int.natCast_emod, Int.natCast_ediv, Int.natCast_mul]; rfl
          have HS1 := hide (one_bsl wz (8 * n / 256 ^ q % 256) (Nat.mod_lt _ (by decide)))
          rw [hc] at HS1
          have HA1 := hide (HO4.out.alloc (.cells #[.int .u8 (8 * (n : Int) / 2 ^ (8 * q) % 256)] 5))
          clear hc HO4 hNN
          go_wp2_with (at_builtin; refine append_bsl rfl _ _ rfl B _ (1 + z + j) _ rfl HA1.out _ [8 * n / 256 ^ q % 256] rfl HS1.out ?b1 ?b2 ?_)
          case b1 => have := HL9.out; simp; omega
          case b2 => simp; omega
          intro v5 w5 ho5 hg5
          have hlo := fun g (h : _ = some g) => (HA1.out.lt g h).1
          have HB5 : Hid (Below B w w5) := (HBL4.out.alloc hs4 _).grown hg5 (by simp; omega) (fun g hg => hlo g hg)
          have HO5 : Hid (w5.ownsRow B 5 1 v5 (1 + z + (j + 1)) (bv (D ++ (beb 8 (8 * n)).take (j + 1)))) := by
            show World.ownsRow _ _ _ _ _ _ _
            rw [HTK.out]
            have h := ho5
            simpa [Nat.add_assoc] using h
          clear ho5 hg5 hlo HA1 HS1 HTK
          go_wp2
          go_roundw
          case rel => exact ⟨j + 1, by omega, by rw [← HID.out], HO5, HB5⟩
          case measure => simp [intOf]
        · have hj8 : j = 8 := by omega
          subst hj8
          have ho := HO4.out
          rw [List.take_of_length_le (by rw [beb_len]; exact Nat.le_refl _), ← HPD.out] at ho
          have HO6 := hide ho
          clear ho HO4
          go_wp2
          go_ret
          have e : (endg n).length = 1 + z + 8 := by rw [HPD.out, List.length_append, beb_len, HPL.out]
          rw [e]
          exact ⟨_, rfl, HO6.out, HBL4.out⟩
end
section
open Go.RowKit
theorem sha_len (xs : List Nat) : (sha xs).length = 32 := outb_len _ (abs_len _ hh rfl _)
theorem sha_byte (xs : List Nat) : ∀ x ∈ sha xs, x < 256 := outb_byte _
/-- A block of bytes, as a slice of all of it. -/
theorem bsl_block {w : World} {g : Nat} {xs : List Nat} {t : TypeId} (h : w.heap[g]? = some (.cells (bv xs).toArray t (0, 0))) (hb : ∀ x ∈ xs, x < 256) (hl : xs.length ≤ 9223372036854775807) : BSl w (.slice (some ⟨g, 0, none⟩) xs.length xs.length) xs := by
  refine ⟨⟨_, xs.length, rfl, ⟨Nat.le_refl _, fun h => by cases h⟩, .inr ⟨g, 0, rfl, fun j hj => ?_⟩⟩, hl, hb⟩
  rw [Nat.zero_add]
  exact blk_cell h (by rw [List.getElem?_toArray]; exact bv_get hj)
/-- What Holds of the document tells. -/
def dholds (h : Nat) (d xs : List Nat) : Bool := if h = 18 then decide (d = sha xs) else decide (h = 0) && (decide (d.length ≤ 64) && decide (d = xs))

theorem info32d (xs : List Nat) : (Tryd.prog.info? 38).map (·.size) = some (bv (sha xs)).toArray.size := by
  have h := info32
  simpa [bv_len, sha_len] using h
theorem one32 (xs : List Nat) : (bv (sha xs)).toArray.all (·.oneCell') = true := by
  rw [Array.all_eq_true_iff_forall_mem]
  intro u hu
  exact bv_one _ u (by simpa using hu)
end
end Go.Proofs.YtidglddjinfncabDoor

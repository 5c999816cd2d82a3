import Derived.Test.YtedgdnoafajhoaaDoorPm
import Derived.Test.YtedgdnoafajhoaaDoorWa
import Derived.Test.YtedgdnoafajhoaaDoorRs
import Derived.Test.YtedgdnoafajhoaaDoorQh
namespace Go.Proofs.YtedgdnoafajhoaaDoor
open Go.RowKit Go

/-- What DigestExact has in hand. -/
structure Xs (w wx : World) (P : Nat) : Prop where
  c : Cb wx
  l : Below w.heap.size w wx
  p : Pla wx w.heap.size wx.heap.size P
  z : 0 < w.heap.size
theorem Xs.below {w wx wy : World} {P : Nat} (h : Xs w wx P) (hb : Below wx.heap.size wx wy) : Xs w wy P := ⟨h.c.below hb, h.l.trans (hb.mono h.l.size), (h.p.below hb).mono hb.size, h.z⟩
/-- Within a round: with the digest that is due. -/
structure Xt (w wx : World) (M P dd : Nat) (D : List Nat) : Prop where
  c : Cb wx
  l : Below w.heap.size w wx
  p : Pla wx w.heap.size M P
  z : 0 < w.heap.size
  d : wx.heap[dd]? = some (.cells (bv D).toArray 28 (0, 0))
  md : M ≤ dd
  ml : w.heap.size ≤ M
  mx : M ≤ wx.heap.size
theorem Xt.below {w wx wy : World} {M P dd : Nat} {D : List Nat} (h : Xt w wx M P dd D) (hb : Below wx.heap.size wx wy) : Xt w wy M P dd D := ⟨h.c.below hb, h.l.trans (hb.mono h.l.size), h.p.below hb, h.z, (hb.block _ (blk_lt h.d)).trans h.d, h.md, h.ml, Nat.le_trans h.mx hb.size⟩
theorem Lnt.below {w w' : World} {base g cap : Nat} {xs : List Nat} (h : Lnt w base g cap xs) (hb : Below w.heap.size w w') : Lnt w' base g cap xs := h.kp (Kp.of_below (S := fun _ => False) hb) (fun h => h)
/-- With the place's list and other bytes. -/
structure Xu (w wx : World) (P dd : Nat) (D : List Nat) (vb : Value) (xs : List Nat) (vo : Value) (os : List Nat) : Prop where
  c : Cb wx
  l : Below w.heap.size w wx
  p : Plr wx w.heap.size P vb xs
  z : 0 < w.heap.size
  d : wx.heap[dd]? = some (.cells (bv D).toArray 28 (0, 0))
  o : wx.ownsRow w.heap.size 5 1 vo os.length (bv os)
theorem Xu.below {w wx wy : World} {P dd : Nat} {D xs os : List Nat} {vb vo : Value} (h : Xu w wx P dd D vb xs vo os) (hb : Below wx.heap.size wx wy) : Xu w wy P dd D vb xs vo os := ⟨h.c.below hb, h.l.trans (hb.mono h.l.size), h.p.below hb, h.z, (hb.block _ (blk_lt h.d)).trans h.d, own_below h.o hb (rfl : 0 = 0)⟩
theorem same3t (w : World) (D : List Nat) (h : D.length = 32) : Calls Tryd.prog 12 #[.agg (bv D).toArray, .agg (bv D).toArray] w fun e w' => e = .returned (.bool true) ∧ Below w.heap.size w w' := by
  have h := same3l_any w D D h h
  simpa using h
theorem intactb {w : World} {base g cap : Nat} {xs : List Nat} (h : Lnt w base g cap xs) (vb : Value) (hb : BSl w vb xs) :
    Calls Tryd.prog 14 #[.slice (some ⟨g, 0, none⟩) xs.length cap, vb] w fun e w' => e = .returned (.bool true) ∧ Below w.heap.size w w' :=
  (intact_any h vb hb).mono fun _ _ ⟨he, hk⟩ => ⟨he, hk.below (Nat.le_refl _) (fun _ h => h.elim)⟩

set_option maxRecDepth 1000000 in
set_option maxHeartbeats 1000000 in
theorem exact_any (b off len cap : Nat) (w : World) (hcb : Cb w) (hl : len ≤ 9223372036854775807) (hrow : ∀ i, i < len → ∃ u xs, w.cell? ⟨b, off + i, none⟩ = some u ∧ BSl w u xs ∧ xs.length ≤ 140737488351232) :
    Calls Tryd.prog 3 #[.slice (some ⟨b, off, none⟩) len cap] w fun e w' => e = .returned (.bool true) ∧ Below w.heap.size w w' := by
  have HCB := hide hcb
  have HROW := hide hrow
  clear hcb hrow
  go_enter Tryd.func3, Tryd.ntmps3
  go_wp2_with fail
  refine (begun_any w HCB.out).mono ?_
  rintro e w1 ⟨rfl, hb1⟩
  have HC1 := hide (HCB.out.below hb1)
  have HB1 := hide hb1
  clear hb1
  go_wp2_with fail
  have HX1 : Hid (Xs w (w1.alloc (.cells #[.slice none 0 0, .slice none 0 0] 26)) w1.heap.size) :=
    ⟨HC1.out.below (below_alloc w1 _), HB1.out.trans ((below_alloc w1 _).mono HB1.out.size), ⟨HB1.out.size, by simp, .inl (heap_alloc_new w1 _)⟩, HCB.out.pos⟩
  clear HC1 HB1
  generalize w1.alloc _ = w2 at *
  generalize w1.heap.size = P at *
  go_loopw [4, 5] (fun aa ii wx => ∃ (i a : Nat), i ≤ len ∧ i ≤ 2000 ∧ a ≤ 1048576 ∧ ii = .int .i64 (i : Nat) ∧ aa = .int .i64 (a : Nat) ∧ Hid (Xs w wx P)) (fun _ ii _ => 2000 - (intOf ii).toNat)
  case atStart => exact ⟨0, 0, by omega, by omega, by omega, rfl, rfl, HX1⟩
  case round =>
    obtain ⟨i, a, hi, hi2, ha, rfl, rfl, HX⟩ := hrel
    clear HX1
    by_cases hil : i < len ∧ i < 2000
    · obtain ⟨hil, hi2000⟩ := hil
      have g1 : (i : Int) < (len : Int) := by omega
      have g2 : (i : Int) < 2000 := by omega
      obtain ⟨u, xs, hcu, hbu, hxl⟩ := HROW.out i hil
      have cu : wr.cell? ⟨b, off + i, none⟩ = some u := keep_below HX.out.l _ _ hcu
      have HU : Hid (BSl wr u xs) := hbu.move (keep_below HX.out.l)
      have HXL := hide hxl
      have HCU := hide hcu
      have HU0 := hide hbu
      obtain ⟨⟨au, cau, hu, hnu, hcau⟩, hmu, hbyu⟩ := hbu
      subst hu
      clear hcu hxl hnu hcau hbyu
      have hxl2 := HXL.out
      by_cases hsz : 1048576 < a + xs.length
      · have g3 : (1048576 : Int) < (a : Int) + (xs.length : Int) := by omega
        go_wp2_with fail
        refine (begun_any wr HX.out.c).mono ?_
        rintro e w9 ⟨rfl, hb9⟩
        have HB9 : Hid (Below w.heap.size w w9) := HX.out.l.trans (hb9.mono HX.out.l.size)
        clear hb9
        go_wp2_with fail
        go_ret
        exact ⟨rfl, HB9.out⟩
      · have g3 : ¬ (1048576 : Int) < (a : Int) + (xs.length : Int) := by omega
        have hx6 : xs.length ≤ 1048576 := by omega
        have HZ : Hid (a + xs.length ≤ 1048576) := by show _ ≤ _; omega
        go_wp2_with fail
        refine (refSum_any wr _ xs HU.out HXL.out).mono ?_
        rintro e w4 ⟨rfl, hb4⟩
        have HI := hide (info32d xs)
        have HON := hide (one32 xs)
        have HSL := hide (sha_len xs)
        have HSB := hide (sha_byte xs)
        have HSM : Hid (∀ wx v, Cb wx → BSl wx v xs → Calls Tryd.prog 13 #[v] wx fun e w' => e = .returned (.agg (bv (sha xs)).toArray) ∧ Below wx.heap.size wx w') := fun wx v h1 h2 => sum_any wx v xs h1 h2 HXL.out
        have HX5 : Hid (Xt w (w4.alloc (.cells (bv (sha xs)).toArray 28)) wr.heap.size P w4.heap.size (sha xs)) := by
          have hb := hb4.trans ((below_alloc w4 (.cells (bv (sha xs)).toArray 28)).mono hb4.size)
          have h := HX.out.below hb
          exact ⟨h.c, h.l, HX.out.p.below hb, h.z, heap_alloc_new w4 _, hb4.size, HX.out.l.size, hb.size⟩
        clear hb4 cu HU
        generalize sha xs = D at *
        have cu5 : (w4.alloc (.cells (bv D).toArray 28)).cell? ⟨b, off + i, none⟩ = some (.slice au xs.length cau) := keep_below HX5.out.l _ _ HCU.out
        go_wp2_with (refine wpList_storeRow rfl rfl w4.heap.size _ (bv D).toArray 28 rfl rfl (heap_alloc_new w4 _) HI.out (by simp [bv_len, HSL.out]) HON.out ?_; rw [World.setRow_alloc_new]; generalize w4.alloc (.cells (bv D).toArray 28) = w5 at *; generalize w4.heap.size = dd at *)
        have HU5 : Hid (BSl w5 (.slice au xs.length cau) xs) := HU0.out.move (keep_below HX5.out.l)
        refine (lend_any w5 _ xs HU5.out HXL.out).mono ?_
        rintro e w6 ⟨g, cap6, rfl, ho6, hb6⟩
        have HX6 := hide (HX5.out.below hb6)
        have HL6 : Hid (Lnt w6 w5.heap.size g cap6 xs) := ⟨ho6, HU5.out.byte, HXL.out⟩
        clear ho6 hb6 HX5 HU5 cu5
        go_wp2_with fail
        have HI2 : Hid ((Tryd.prog.info? 28).map (·.size) = some (bv D).length) := by
          show _ = _
          rw [bv_len, HSL.out]
          exact info32
        refine heldStart (S := fun w' => Xt w w' wr.heap.size P dd D ∧ Lnt w' w5.heap.size g cap6 xs) (by kernel_rfl) ?_
        have hS : Xt w w6.drew wr.heap.size P dd D ∧ Lnt w6.drew w5.heap.size g cap6 xs := ⟨HX6.out.below ((Below.refl _ _).drew), HL6.out.below ((Below.refl _ _).drew)⟩
        clear HX6 HL6
        refine heldTake 0 _ rfl (by kernel_rfl) (by kernel_rfl) (by kernel_rfl) (fun _ _ _ h => h) rfl hS (fun wy hy => by first | rfl | (go_simp; done) | (go_simp; rfl)) ?_
        try simp only [Act.put, List.setIfInBounds_toArray, List.set_cons_zero, List.set_cons_succ]
        refine heldTake 2 _ rfl (by kernel_rfl) (by kernel_rfl) (by kernel_rfl) (fun _ _ _ h => h) rfl hS (fun wy hy => loadA_run wy (cells_of hy.1.d) rfl rfl HI2.out Tryd.underlying28) ?_
        try simp only [Act.put, List.setIfInBounds_toArray, List.set_cons_zero, List.set_cons_succ]
        refine heldStep 1 rfl (by kernel_rfl) (fun K hK => ?_)
        go_simp
        refine (HSM.out _ _ hS.1.c hS.2.bsl).mono ?_
        rintro e wn ⟨rfl, hbn⟩
        refine (Hid.out hK) _ _ ⟨hS.1.below hbn, hS.2.below hbn⟩ (fun hS2 => ?_)
        clear hK K hS
        have hS := hS2
        clear hS2
        try simp only [Act.put, List.setIfInBounds_toArray, List.set_cons_zero, List.set_cons_succ]
        clear hbn
        refine heldStep 3 rfl (by kernel_rfl) (fun K hK => ?_)
        go_simp
        refine (same3t _ D HSL.out).mono ?_
        rintro e wn ⟨rfl, hbn⟩
        refine (Hid.out hK) _ _ ⟨hS.1.below hbn, hS.2.below hbn⟩ (fun hS2 => ?_)
        clear hK K hS
        have hS := hS2
        clear hS2
        try simp only [Act.put, List.setIfInBounds_toArray, List.set_cons_zero, List.set_cons_succ]
        clear hbn
        refine heldTake 4 _ rfl (by kernel_rfl) (by kernel_rfl) (by kernel_rfl) (fun _ _ _ h => h) rfl hS (fun wy hy => by first | rfl | (go_simp; done) | (go_simp; rfl)) ?_
        try simp only [Act.put, List.setIfInBounds_toArray, List.set_cons_zero, List.set_cons_succ]
        refine heldTake 5 _ rfl (by kernel_rfl) (by kernel_rfl) (by kernel_rfl) (fun _ _ _ h => h) rfl hS (fun wy hy => by first | rfl | (go_simp; done) | (go_simp; rfl)) ?_
        try simp only [Act.put, List.setIfInBounds_toArray, List.set_cons_zero, List.set_cons_succ]
        refine heldTake 6 _ rfl (by kernel_rfl) (by kernel_rfl) (by kernel_rfl) (fun _ _ _ h => h) rfl hS (fun wy hy => by first | rfl | (go_simp; done) | (go_simp; rfl)) ?_
        try simp only [Act.put, List.setIfInBounds_toArray, List.set_cons_zero, List.set_cons_succ]
        refine heldTake 7 _ rfl (by kernel_rfl) (by kernel_rfl) (by kernel_rfl) (fun _ _ _ h => h) rfl hS (fun wy hy => by first | rfl | (go_simp; done) | (go_simp; rfl)) ?_
        try simp only [Act.put, List.setIfInBounds_toArray, List.set_cons_zero, List.set_cons_succ]
        refine heldTake 8 _ rfl (by kernel_rfl) (by kernel_rfl) (by kernel_rfl) (fun _ _ _ h => h) rfl hS (fun wy hy => by first | rfl | (go_simp; done) | (go_simp; rfl)) ?_
        try simp only [Act.put, List.setIfInBounds_toArray, List.set_cons_zero, List.set_cons_succ]
        refine heldTake 9 _ rfl (by kernel_rfl) (by kernel_rfl) (by kernel_rfl) (fun _ _ _ h => h) rfl hS (fun wy hy => by first | rfl | (go_simp; done) | (go_simp; rfl)) ?_
        try simp only [Act.put, List.setIfInBounds_toArray, List.set_cons_zero, List.set_cons_succ]
        refine heldTake 10 _ rfl (by kernel_rfl) (by kernel_rfl) (by kernel_rfl) (fun _ _ _ h => h) rfl hS (fun wy hy => by have cu := keep_below hy.1.l _ _ HCU.out; go_simp; rfl) ?_
        try simp only [Act.put, List.setIfInBounds_toArray, List.set_cons_zero, List.set_cons_succ]
        refine heldStep 11 rfl (by kernel_rfl) (fun K hK => ?_)
        go_simp
        refine (intactb hS.2 _ (HU0.out.move (keep_below hS.1.l))).mono ?_
        rintro e wn ⟨rfl, hbn⟩
        refine (Hid.out hK) _ _ ⟨hS.1.below hbn, hS.2.below hbn⟩ (fun hS2 => ?_)
        clear hK K hS
        have hS := hS2
        clear hS2
        try simp only [Act.put, List.setIfInBounds_toArray, List.set_cons_zero, List.set_cons_succ]
        clear hbn
        refine heldTake 12 _ rfl (by kernel_rfl) (by kernel_rfl) (by kernel_rfl) (fun _ _ _ h => h) rfl hS (fun wy hy => by first | rfl | (go_simp; done) | (go_simp; rfl)) ?_
        try simp only [Act.put, List.setIfInBounds_toArray, List.set_cons_zero, List.set_cons_succ]
        refine heldTake 13 _ rfl (by kernel_rfl) (by kernel_rfl) (by kernel_rfl) (fun _ _ _ h => h) rfl hS (fun wy hy => by first | rfl | (go_simp; done) | (go_simp; rfl)) ?_
        try simp only [Act.put, List.setIfInBounds_toArray, List.set_cons_zero, List.set_cons_succ]
        refine heldDone (by kernel_rfl) ?_
        have HX7 := hide hS.1
        clear hS
        have cu7 : wn.cell? ⟨b, off + i, none⟩ = some (.slice au xs.length cau) := keep_below HX7.out.l _ _ HCU.out
        go_wp2_with fail
        refine (other_any wn _ xs (HU0.out.move (keep_below HX7.out.l)) HXL.out).mono ?_
        rintro e w8 ⟨vo, rfl, ho8⟩
        obtain ⟨os, ho, hob, hol, hb8⟩ := ho8.out
        have HX8 := hide (HX7.out.below hb8)
        have HO8 := hide ho
        have HOB := hide hob
        have HOL := hide hol
        have HMB : Hid (wr.heap.size ≤ wn.heap.size) := HX7.out.mx
        clear ho8 ho hob hol hb8 cu7 HX7
        have cu8 : w8.cell? ⟨b, off + i, none⟩ = some (.slice au xs.length cau) := keep_below HX8.out.l _ _ HCU.out
        go_wp2_with fail
        refine (pbytes_any w8 w.heap.size wr.heap.size P _ xs HX8.out.p HX8.out.l.size HXL.out (fun w' hb => HU0.out.move (keep_below (HX8.out.l.trans hb)))).mono ?_
        rintro e w9 ⟨vb, rfl, hp9, hb9, hk9, hv9⟩
        have HX9 : Hid (Xu w w9 P dd D vb xs vo os) := by
          have h := HX8.out
          refine ⟨h.c.kp hk9 (fun e => by have := h.z; omega), h.l.trans hb9, hp9, h.z, (hk9.block dd (blk_lt h.d) (fun e => by have := h.md; omega)).trans h.d, ?_⟩
          exact own_mono (hk9.owns HO8.out (fun k hk e => by have := (HO8.out.lt k hk).1; have := HMB.out; omega)) (Nat.le_trans h.ml HMB.out)
        have HNO : Hid (∀ k, vb.ownBlock = some k → vo.ownBlock ≠ some k) := fun k h1 h2 => by
          have h3 := HO8.out.lt k h2
          have h4 := hv9 k h1
          have := HMB.out
          omega
        clear hp9 hb9 hk9 hv9 HX8 HO8 cu8
        go_wp2_with fail
        have HXB := hide HU0.out.byte
        refine heldStart (S := fun w' => Xu w w' P dd D vb xs vo os) (by kernel_rfl) ?_
        have hS : Xu w w9.drew P dd D vb xs vo os := HX9.out.below ((Below.refl _ _).drew)
        clear HX9
        refine heldTake 0 _ rfl (by kernel_rfl) (by kernel_rfl) (by kernel_rfl) (fun _ _ _ h => h) rfl hS (fun wy hy => by first | rfl | (go_simp; done) | (go_simp; rfl)) ?_
        try simp only [Act.put, List.setIfInBounds_toArray, List.set_cons_zero, List.set_cons_succ]
        refine heldTake 2 _ rfl (by kernel_rfl) (by kernel_rfl) (by kernel_rfl) (fun _ _ _ h => h) rfl hS (fun wy hy => loadA_run wy (cells_of hy.d) rfl rfl HI2.out Tryd.underlying28) ?_
        try simp only [Act.put, List.setIfInBounds_toArray, List.set_cons_zero, List.set_cons_succ]
        refine heldStep 1 rfl (by kernel_rfl) (fun K hK => ?_)
        go_simp
        refine (HSM.out _ _ hS.c (BSl.own hS.p.own HXB.out)).mono ?_
        rintro e wn ⟨rfl, hbn⟩
        refine (Hid.out hK) _ _ (hS.below hbn) (fun hS2 => ?_)
        clear hK K hS
        have hS := hS2
        clear hS2
        try simp only [Act.put, List.setIfInBounds_toArray, List.set_cons_zero, List.set_cons_succ]
        clear hbn
        refine heldStep 3 rfl (by kernel_rfl) (fun K hK => ?_)
        go_simp
        refine (same3t _ D HSL.out).mono ?_
        rintro e wn ⟨rfl, hbn⟩
        refine (Hid.out hK) _ _ (hS.below hbn) (fun hS2 => ?_)
        clear hK K hS
        have hS := hS2
        clear hS2
        try simp only [Act.put, List.setIfInBounds_toArray, List.set_cons_zero, List.set_cons_succ]
        clear hbn
        refine heldTake 4 _ rfl (by kernel_rfl) (by kernel_rfl) (by kernel_rfl) (fun _ _ _ h => h) rfl hS (fun wy hy => by first | rfl | (go_simp; done) | (go_simp; rfl)) ?_
        try simp only [Act.put, List.setIfInBounds_toArray, List.set_cons_zero, List.set_cons_succ]
        refine heldTake 5 _ rfl (by kernel_rfl) (by kernel_rfl) (by kernel_rfl) (fun _ _ _ h => h) rfl hS (fun wy hy => by first | rfl | (go_simp; done) | (go_simp; rfl)) ?_
        try simp only [Act.put, List.setIfInBounds_toArray, List.set_cons_zero, List.set_cons_succ]
        refine heldTake 6 _ rfl (by kernel_rfl) (by kernel_rfl) (by kernel_rfl) (fun _ _ _ h => h) rfl hS (fun wy hy => by first | rfl | (go_simp; done) | (go_simp; rfl)) ?_
        try simp only [Act.put, List.setIfInBounds_toArray, List.set_cons_zero, List.set_cons_succ]
        refine heldTake 7 _ rfl (by kernel_rfl) (by kernel_rfl) (by kernel_rfl) (fun _ _ _ h => h) rfl hS (fun wy hy => by first | rfl | (go_simp; done) | (go_simp; rfl)) ?_
        try simp only [Act.put, List.setIfInBounds_toArray, List.set_cons_zero, List.set_cons_succ]
        refine heldTake 8 _ rfl (by kernel_rfl) (by kernel_rfl) (by kernel_rfl) (fun _ _ _ h => h) rfl hS (fun wy hy => by first | rfl | (go_simp; done) | (go_simp; rfl)) ?_
        try simp only [Act.put, List.setIfInBounds_toArray, List.set_cons_zero, List.set_cons_succ]
        refine heldTake 9 _ rfl (by kernel_rfl) (by kernel_rfl) (by kernel_rfl) (fun _ _ _ h => h) rfl hS (fun wy hy => by first | rfl | (go_simp; done) | (go_simp; rfl)) ?_
        try simp only [Act.put, List.setIfInBounds_toArray, List.set_cons_zero, List.set_cons_succ]
        refine heldTake 10 _ rfl (by kernel_rfl) (by kernel_rfl) (by kernel_rfl) (fun _ _ _ h => h) rfl hS (fun wy hy => by have cu := keep_below hy.l _ _ HCU.out; go_simp; rfl) ?_
        try simp only [Act.put, List.setIfInBounds_toArray, List.set_cons_zero, List.set_cons_succ]
        refine heldStep 11 rfl (by kernel_rfl) (fun K hK => ?_)
        go_simp
        refine (eq_same _ _ _ xs (BSl.own hS.p.own HXB.out) (HU0.out.move (keep_below hS.l))).mono ?_
        rintro e wn ⟨rfl, hbn⟩
        refine (Hid.out hK) _ _ (hS.below hbn) (fun hS2 => ?_)
        clear hK K hS
        have hS := hS2
        clear hS2
        try simp only [Act.put, List.setIfInBounds_toArray, List.set_cons_zero, List.set_cons_succ]
        clear hbn
        refine heldTake 12 _ rfl (by kernel_rfl) (by kernel_rfl) (by kernel_rfl) (fun _ _ _ h => h) rfl hS (fun wy hy => by first | rfl | (go_simp; done) | (go_simp; rfl)) ?_
        try simp only [Act.put, List.setIfInBounds_toArray, List.set_cons_zero, List.set_cons_succ]
        refine heldTake 13 _ rfl (by kernel_rfl) (by kernel_rfl) (by kernel_rfl) (fun _ _ _ h => h) rfl hS (fun wy hy => by first | rfl | (go_simp; done) | (go_simp; rfl)) ?_
        try simp only [Act.put, List.setIfInBounds_toArray, List.set_cons_zero, List.set_cons_succ]
        refine heldDone (by kernel_rfl) ?_
        have HXa := hide hS
        clear hS
        go_wp2_with fail
        refine (intoR_any HXa.out.p.own HXL.out vo (BSl.own HXa.out.o HOB.out) HOL.out HNO.out).mono ?_
        rintro e wb ⟨rfl, hob, hkb⟩
        have HXb : Hid (Xu w wb P dd D vb os vo os) := by
          have h := HXa.out
          have hlo : ∀ k, vb.ownBlock = some k → w.heap.size ≤ k := fun k hk => (h.p.own.lt k hk).1
          exact ⟨h.c.kp hkb (fun e => by have := hlo 0 e; have := h.z; omega), h.l.trans (hkb.below h.l.size hlo), h.p.over hkb hob, h.z, (hkb.block dd (blk_lt h.d) (fun e => own_not h.p.own h.d (by decide) e)).trans h.d, hkb.owns h.o (fun k hk e => HNO.out k e hk)⟩
        clear hob hkb HXa
        have HSO : Hid (os.length ≤ 140737488351232) := by show _ ≤ _; rw [HOL.out]; exact HXL.out
        have HSLo := hide (sha_len os)
        go_wp2_with fail
        refine (sum_any wb vb os HXb.out.c (BSl.own HXb.out.p.own HOB.out) HSO.out).mono ?_
        rintro e wc ⟨rfl, hbc⟩
        have HXc := hide (HXb.out.below hbc)
        clear hbc HXb
        go_wp2_with fail
        refine (refSum_any wc vo os (BSl.own HXc.out.o HOB.out) HSO.out).mono ?_
        rintro e wd ⟨rfl, hbd⟩
        have HXd := hide (HXc.out.below hbd)
        clear hbd HXc
        go_wp2_with fail
        refine (same3t wd (sha os) HSLo.out).mono ?_
        rintro e we ⟨rfl, hbe⟩
        have HXe := hide (HXd.out.below hbe)
        clear hbe HXd
        go_wp2_with fail
        go_roundw
        case rel => exact ⟨i + 1, a + xs.length, by omega, by omega, by omega, by go_num, by go_num, ⟨HXe.out.c, HXe.out.l, HXe.out.p.pla, HXe.out.z⟩⟩
        case measure => simp [intOf]; omega
    · have g0 : ¬ (i : Int) < (len : Int) ∨ ((i : Int) < (len : Int) ∧ ¬ (i : Int) < 2000) := by omega
      rcases g0 with g1 | ⟨g1, g2⟩
      all_goals
        go_wp2_with fail
        refine (begun_any wr HX.out.c).mono ?_
        rintro e w9 ⟨rfl, hb9⟩
        have HB9 : Hid (Below w.heap.size w w9) := HX.out.l.trans (hb9.mono HX.out.l.size)
        clear hb9
        go_wp2_with fail
        go_ret
        exact ⟨rfl, HB9.out⟩
end Go.Proofs.YtedgdnoafajhoaaDoor

import Derived.Test.YtedgdnoafajhoaaDoorLb
import Derived.Test.YtedgdnoafajhoaaDoorOpen
namespace Go.Proofs.YtedgdnoafajhoaaDoor
open Go.RowKit Go

/-- What DigestWhole has in hand. -/
structure Wh (w wx : World) (g : Nat) (va : Value) (all : List Nat) : Prop where
  h : HS wx g all
  a : wx.ownsRow w.heap.size 5 1 va all.length (bv all)
  c : Cb wx
  l : Below w.heap.size w wx
  ab : ∀ x ∈ all, x < 256
  al : all.length ≤ 65536
  g0 : w.heap.size ≤ g
  p0 : 0 < w.heap.size
theorem Wh.below {w wx wy : World} {g : Nat} {va : Value} {all : List Nat} (h : Wh w wx g va all) (hb : Below wx.heap.size wx wy) : Wh w wy g va all :=
  ⟨h.h.below hb, own_below h.a hb (rfl : 0 = 0), h.c.below hb, h.l.trans (hb.mono h.l.size), h.ab, h.al, h.g0, h.p0⟩
theorem Wh.ag {w wx : World} {g : Nat} {va : Value} {all : List Nat} (h : Wh w wx g va all) : va.ownBlock ≠ some g := own_not h.a h.h.b (by decide)
theorem Wh.s {w wx : World} {g : Nat} {va : Value} {all : List Nat} (h : Wh w wx g va all) : BSl wx va all := BSl.own h.a h.ab

theorem Wh.kp {w wx wy : World} {g gx : Nat} {va : Value} {all : List Nat} (h : Wh w wx g va all) (hk : Kp (fun q => q = gx) wx wy) (h1 : g ≠ gx) (h2 : ∀ k, va.ownBlock = some k → ¬ k = gx) (h3 : w.heap.size ≤ gx) : Wh w wy g va all :=
  ⟨h.h.kp hk h1, hk.owns h.a h2, h.c.kp hk (fun e => by have := h.p0; omega), h.l.trans (hk.below h.l.size (fun q e => by omega)), h.ab, h.al, h.g0, h.p0⟩
theorem bv_set (l : List Nat) (j x : Nat) : (bv l).set j (.int .u8 ((x : Nat) : Int)) = bv (l.set j x) := by simp [bv, List.map_set]
theorem flip_bit (q j : Nat) (hq : q < 256) (hj : j < 8) : ∃ z : Nat, bits .xor .u8 (q : Int) (2 ^ j % 256) = (z : Int) ∧ z < 256 ∧ z ≠ q := by
  have h2 : 2 ^ j < 256 := by
    have : 2 ^ j ≤ 2 ^ 7 := Nat.pow_le_pow_right (by decide) (by omega)
    have e : 2 ^ 7 = 128 := rfl
    omega
  have e : (2 : Int) ^ j % 256 = ((2 ^ j : Nat) : Int) := by
    rw [Int.emod_eq_of_lt (Int.pow_nonneg (by decide))]
    · rw [Int.natCast_pow]; rfl
    · have : ((2 ^ j : Nat) : Int) < 256 := by omega
      rw [Int.natCast_pow] at this
      exact this
  refine ⟨q ^^^ 2 ^ j, by rw [e, u8_xor_nat _ _ hq h2], Nat.xor_lt_two_pow (n := 8) hq h2, fun h => ?_⟩
  have h3 : q ^^^ 2 ^ j ^^^ q = 0 := by rw [h, Nat.xor_self]
  rw [Nat.xor_comm, ← Nat.xor_assoc, Nat.xor_self, Nat.zero_xor] at h3
  have : 0 < 2 ^ j := Nat.pow_pos (by decide)
  omega
theorem cells_of {w : World} {d : Nat} {l : List Value} {t : TypeId} (h : w.heap[d]? = some (.cells l.toArray t (0, 0))) : w.rangeAt d 0 l := fun j v hv => by
  rw [Nat.zero_add]
  exact blk_cell h (by rw [List.getElem?_toArray]; exact hv)
theorem loadA_run (wy : World) {d n : Nat} {cs : List Value} {T e : TypeId} (h : wy.rangeAt d 0 cs) {o : Oper} {a : Act} {p : Operand} (ho : o.op = .load T p) (hp : a.eval p = .pointer (some ⟨d, 0, none⟩)) (hi : (Tryd.prog.info? T).map (·.size) = some cs.length) (hu : Tryd.prog.underlying T = some (.array n e)) : (execOp a.eval o).run Tryd.prog wy = .ok (.value (.agg cs.toArray)) wy := by
  have hr := part_load (w := wy) d 0 cs hu hi h
  unfold execOp
  simp only [ho, Sem.run_bind, hp, hr, Result.andThen_ok]
  rfl
theorem bslD_of {w : World} {d : Nat} {D : List Nat} {t : TypeId} (h : w.heap[d]? = some (.cells (bv D).toArray t (0, 0))) (hb : ∀ x ∈ D, x < 256) (hl : D.length = 32) : BSl w (.slice (some ⟨d, 0, none⟩) 32 32) D := by
  have h2 := bsl_block h hb (by rw [hl]; decide)
  rw [hl] at h2
  exact h2

set_option maxRecDepth 1000000 in
set_option maxHeartbeats 1000000 in
theorem whole_any (b off len cap : Nat) (w : World) (hcb : Cb w) (hl : len ≤ 9223372036854775807) (hrow : ∀ i, i < len → ∃ u xs, w.cell? ⟨b, off + i, none⟩ = some u ∧ BSl w u xs ∧ xs.length ≤ 140737488351232) :
    Calls Tryd.prog 7 #[.slice (some ⟨b, off, none⟩) len cap] w fun e w' => e = .returned (.bool true) ∧ Below w.heap.size w w' := by
  have HCB := hide hcb
  have HROW := hide hrow
  clear hcb hrow
  go_enter Tryd.func7, Tryd.ntmps7
  go_wp2_with fail
  refine (begun_any w HCB.out).mono ?_
  rintro e w1 ⟨rfl, hb1⟩
  have HC1 := hide (HCB.out.below hb1)
  have HB1 := hide hb1
  clear hb1
  go_wp2_with fail
  refine (new_any w1).mono ?_
  rintro e w2 ⟨g, rfl, hg2, hs2, hb2⟩
  have HG : Hid (w.heap.size ≤ g) := by have := HB1.out.size; show _ ≤ _; omega
  have HS2 := hide hs2
  have HB2 : Hid (Below w.heap.size w w2) := HB1.out.trans (hb2.mono HB1.out.size)
  clear hg2 hs2 hb2 HC1 HB1
  go_wp2_with fail
  have HW2 : Hid (Wh w w2 g (.slice none 0 0) []) := ⟨HS2.out, World.ownsRow_nil _ _ _ _, HCB.out.below HB2.out, HB2.out, by simp, by simp, HG.out, HCB.out.pos⟩
  clear HS2 HB2 HG
  go_loopw [4, 5] (fun va ii wx => ∃ (i : Nat) (all : List Nat), i ≤ len ∧ i ≤ 300 ∧ ii = .int .i64 (i : Nat) ∧ Hid (Wh w wx g va all)) (fun _ ii _ => 300 - (intOf ii).toNat)
  case atStart => exact ⟨0, [], by omega, by omega, rfl, HW2⟩
  case round =>
    obtain ⟨i, all, hi, hi3, rfl, HW⟩ := hrel
    clear HW2
    obtain ⟨aa, ca, hv, _, _, _⟩ := own_form HW.out.a
    subst hv
    by_cases hil : i < len ∧ i < 300
    · obtain ⟨hil, hi300⟩ := hil
      have g1 : (i : Int) < (len : Int) := by omega
      have g2 : (i : Int) < 300 := by omega
      obtain ⟨u, xs, hcu, hbu, hxl⟩ := HROW.out i hil
      have cu : wr.cell? ⟨b, off + i, none⟩ = some u := keep_below HW.out.l _ _ hcu
      have HU : Hid (BSl wr u xs) := hbu.move (keep_below HW.out.l)
      have HXL := hide hxl
      have HCU := hide hcu
      have HU0 := hide hbu
      obtain ⟨⟨au, cau, hu, hnu, hcau⟩, hmu, hbyu⟩ := hbu
      subst hu
      clear hcu hxl hnu hcau hbyu
      by_cases hsz : 65536 < all.length + xs.length
      · have g3 : (65536 : Int) < (all.length : Int) + (xs.length : Int) := by omega
        have hal := HW.out.al
        have hxl2 := HXL.out
        go_wp2_with fail
        refine (begun_any wr HW.out.c).mono ?_
        rintro e w9 ⟨rfl, hb9⟩
        have HB9 : Hid (Below w.heap.size w w9) := HW.out.l.trans (hb9.mono HW.out.l.size)
        clear hb9
        go_wp2_with fail
        go_ret
        exact ⟨rfl, HB9.out⟩
      · have g3 : ¬ (65536 : Int) < (all.length : Int) + (xs.length : Int) := by omega
        have hal := HW.out.al
        have hx6 : xs.length ≤ 65536 := by omega
        have HZ : Hid (all.length + xs.length ≤ 65536) := by show _ ≤ _; omega
        go_wp2_with fail
        refine (copy_any wr _ xs HU.out HXL.out).mono ?_
        rintro e w1 ⟨v1, rfl, ho1, hb1⟩
        have HW1 := hide (HW.out.below hb1)
        have HV1 : Hid (BSl w1 v1 xs) := BSl.own ho1 HU.out.byte
        have HN1 : Hid (v1.ownBlock ≠ some g) := fun e => by
          have h1 := (ho1.lt g e).1
          have h2 := blk_lt HW.out.h.b
          omega
        clear ho1 hb1 HU
        go_wp2_with fail
        refine (write_any w1 g v1 all xs HW1.out.c (by have := HW1.out.g0; have := HW1.out.p0; omega) HW1.out.h HW1.out.ab HV1.out (fun _ => HN1.out) (by omega)).mono ?_
        rintro e w2 ⟨rfl, hs2, hk2⟩
        have HL2 : Hid (Below w.heap.size w w2) := HW1.out.l.trans (hk2.below HW1.out.l.size (fun q e => by have := HW1.out.g0; omega))
        have HO2 := hide (hk2.owns HW1.out.a (fun k hk e => HW1.out.ag (by rw [hk, e])))
        have HS2 := hide hs2
        have HC2 := hide (HW1.out.c.kp hk2 (fun e => by have := HW1.out.g0; have := HW1.out.p0; omega))
        have cu2 : w2.cell? ⟨b, off + i, none⟩ = some (.slice au xs.length cau) := keep_below HL2.out _ _ HCU.out
        have HXX : Hid (BSl w2 (.slice au xs.length cau) xs) := HU0.out.move (keep_below HL2.out)
        clear hs2 hk2 HV1 HN1 cu
        go_wp2_with (at_builtin; refine append_bsl rfl _ _ rfl w.heap.size _ all.length all rfl HO2.out _ xs rfl HXX.out ?b1 ?b2 ?_)
        case b1 => omega
        case b2 => exact HL2.out.size
        intro v3 w3 ho3 hg3
        have HW3 : Hid (Wh w w3 g v3 (all ++ xs)) := by
          have hk : Kp (fun q => (Value.slice aa all.length ca).ownBlock = some q) w2 w3 := (Kp.refl _ _).grown hg3 (fun k _ h => h)
          have hgn : ¬ (Value.slice aa all.length ca).ownBlock = some g := HW1.out.ag
          have hlo : ∀ q, (Value.slice aa all.length ca).ownBlock = some q → w.heap.size ≤ q := fun q hq => (HO2.out.lt q hq).1
          refine ⟨HS2.out.kp hk hgn, by rw [List.length_append, bv_app]; rw [bv_app] at ho3; exact ho3, HC2.out.kp hk (fun e => by have := hlo 0 e; have := HW1.out.p0; omega), HL2.out.trans (hk.below HL2.out.size hlo), ?_, by rw [List.length_append]; exact HZ.out, HW1.out.g0, HW1.out.p0⟩
          intro x hx
          rcases List.mem_append.1 hx with hx | hx
          · exact HW1.out.ab x hx
          · exact HU0.out.byte x hx
        clear ho3 hg3 HW1 HO2 HS2 HC2 HL2 HXX cu2 HW
        obtain ⟨a3, c3, hv3, _, _, _⟩ := own_form HW3.out.a
        subst hv3
        have HAL := hide HW3.out.al
        generalize all ++ xs = al2 at *
        go_wp2_with fail
        refine (hsum_any w3 g al2 HW3.out.c HW3.out.h HW3.out.ab (by have := HW3.out.al; omega)).mono ?_
        rintro e w4 ⟨rfl, hb4⟩
        have HW4 := hide (HW3.out.below hb4)
        have HI := hide (info32d al2)
        have HON := hide (one32 al2)
        have HSL := hide (sha_len al2)
        have HSB := hide (sha_byte al2)
        have HDH : Hid (∀ d, dholds 18 d al2 = decide (d = sha al2)) := by intro d; simp [dholds]
        have HSM : Hid (∀ wx v, Cb wx → BSl wx v al2 → Calls Tryd.prog 13 #[v] wx fun e w' => e = .returned (.agg (bv (sha al2)).toArray) ∧ Below wx.heap.size wx w') := fun wx v h1 h2 => sum_any wx v al2 h1 h2 (by have := HAL.out; omega)
        clear hb4 HW3
        generalize sha al2 = D at *
        go_wp2_with (refine wpList_storeRow rfl rfl w4.heap.size _ (bv D).toArray 28 rfl rfl (heap_alloc_new w4 _) HI.out (by simp [bv_len, HSL.out]) HON.out ?_; rw [World.setRow_alloc_new])
        have HD5 : Hid ((w4.alloc (.cells (bv D).toArray 28)).heap[w4.heap.size]? = some (.cells (bv D).toArray 28 (0, 0))) := heap_alloc_new w4 _
        have HW5 := hide (HW4.out.below (below_alloc w4 (.cells (bv D).toArray 28)))
        clear HW4
        generalize w4.alloc (.cells (bv D).toArray 28) = w5 at *
        generalize w4.heap.size = dd at *
        have he : ∀ wy, Sem.run Tryd.prog (Op.equalIn 10000 28 (.agg (bv D).toArray) (.agg (bv D).toArray)) wy = .ok true wy := fun wy => by
          have h := eqin32 wy D D HSL.out HSL.out
          simpa using h
        have HI2 : Hid ((Tryd.prog.info? 28).map (·.size) = some (bv D).length) := by
          show _ = _
          rw [bv_len, HSL.out]
          exact info32
        have HAL2 : Hid (al2.length ≤ 140737488351232) := by have := HAL.out; show _ ≤ _; omega
        have HDL : Hid (D.length ≤ 140737488351232) := by show _ ≤ _; rw [HSL.out]; decide
        have HHT : Hid (∀ wx v u, Cb wx → BSl wx v D → BSl wx u al2 → Calls Tryd.prog 33 #[.int .u64 18, v, u] wx fun e w' => e = .returned (.bool true) ∧ Below wx.heap.size wx w') := by
          intro wx v u h1 h2 h3
          have h := holds3_any wx 18 v u D al2 h1 (by omega) h2 h3 HAL2.out
          rw [HDH.out] at h
          simpa using h
        refine heldStart (S := fun w' => Wh w w' g (.slice a3 al2.length c3) al2 ∧ w'.heap[dd]? = some (.cells (bv D).toArray 28 (0, 0))) (by kernel_rfl) ?_
        have hS : Wh w w5.drew g (.slice a3 al2.length c3) al2 ∧ w5.drew.heap[dd]? = some (.cells (bv D).toArray 28 (0, 0)) := ⟨HW5.out.below ((Below.refl _ _).drew), HD5.out⟩
        clear HW5 HD5
        refine heldTake 0 _ rfl (by kernel_rfl) (by kernel_rfl) (by kernel_rfl) (fun _ _ _ h => h) rfl hS (fun wy hy => loadA_run wy (cells_of hy.2) rfl rfl HI2.out Tryd.underlying28) ?_
        try simp only [Act.put, List.setIfInBounds_toArray, List.set_cons_zero, List.set_cons_succ]
        refine heldTake 1 _ rfl (by kernel_rfl) (by kernel_rfl) (by kernel_rfl) (fun _ _ _ h => h) rfl hS (fun wy hy => by first | rfl | (go_simp; done) | (go_simp; rfl)) ?_
        try simp only [Act.put, List.setIfInBounds_toArray, List.set_cons_zero, List.set_cons_succ]
        refine heldStep 2 rfl (by kernel_rfl) (fun K hK => ?_)
        go_simp
        refine (copy_any _ _ al2 hS.1.s HAL2.out).mono ?_
        rintro e wn ⟨vc, rfl, hoc, hbn⟩
        have HC1 := hide (BSl.own hoc hS.1.ab)
        clear hoc
        refine hK.out _ _ (⟨hS.1.below hbn, (hbn.block _ (blk_lt hS.2)).trans hS.2⟩) (fun hS2 => ?_)
        clear hK K hS
        have hS := hS2
        clear hS2 hbn
        try simp only [Act.put, List.setIfInBounds_toArray, List.set_cons_zero, List.set_cons_succ]
        refine heldStep 3 rfl (by kernel_rfl) (fun K hK => ?_)
        go_simp
        refine (HSM.out _ _ hS.1.c HC1.out).mono ?_
        rintro e wn ⟨rfl, hbn⟩
        refine hK.out _ _ (⟨hS.1.below hbn, (hbn.block _ (blk_lt hS.2)).trans hS.2⟩) (fun hS2 => ?_)
        clear hK K hS
        have hS := hS2
        clear hS2 hbn
        try simp only [Act.put, List.setIfInBounds_toArray, List.set_cons_zero, List.set_cons_succ]
        refine heldTake 4 _ rfl (by kernel_rfl) (by kernel_rfl) (by kernel_rfl) (fun _ _ _ h => h) rfl hS (fun wy hy => by first | rfl | (go_simp; done) | (go_simp; rfl)) ?_
        try simp only [Act.put, List.setIfInBounds_toArray, List.set_cons_zero, List.set_cons_succ]
        refine heldTake 5 _ rfl (by kernel_rfl) (by kernel_rfl) (by kernel_rfl) (fun _ _ _ h => h) rfl hS (fun wy hy => by first | rfl | (go_simp; done) | (go_simp; rfl)) ?_
        try simp only [Act.put, List.setIfInBounds_toArray, List.set_cons_zero, List.set_cons_succ]
        refine heldTake 6 _ rfl (by kernel_rfl) (by kernel_rfl) (by kernel_rfl) (fun _ _ _ h => h) rfl hS (fun wy hy => by first | rfl | (go_simp; done) | (go_simp; rfl)) ?_
        try simp only [Act.put, List.setIfInBounds_toArray, List.set_cons_zero, List.set_cons_succ]
        refine heldTake 8 _ rfl (by kernel_rfl) (by kernel_rfl) (by kernel_rfl) (fun _ _ _ h => h) rfl hS (fun wy hy => by first | rfl | (go_simp; done) | (go_simp; rfl)) ?_
        try simp only [Act.put, List.setIfInBounds_toArray, List.set_cons_zero, List.set_cons_succ]
        refine heldStep 7 rfl (by kernel_rfl) (fun K hK => ?_)
        go_simp
        refine (copy_any _ _ D (bslD_of hS.2 HSB.out HSL.out) HDL.out).mono ?_
        rintro e wn ⟨vd, rfl, hod, hbn⟩
        have HC2 := hide (BSl.own hod HSB.out)
        clear hod
        refine hK.out _ _ (⟨hS.1.below hbn, (hbn.block _ (blk_lt hS.2)).trans hS.2⟩) (fun hS2 => ?_)
        clear hK K hS
        have hS := hS2
        clear hS2 hbn
        try simp only [Act.put, List.setIfInBounds_toArray, List.set_cons_zero, List.set_cons_succ]
        refine heldStep 9 rfl (by kernel_rfl) (fun K hK => ?_)
        go_simp
        refine (copy_any _ _ al2 hS.1.s HAL2.out).mono ?_
        rintro e wn ⟨ve, rfl, hoe, hbn⟩
        have HC3 := hide (BSl.own hoe hS.1.ab)
        have HC4 := hide (HC2.out.move (keep_below hbn))
        clear hoe HC2
        refine hK.out _ _ (⟨hS.1.below hbn, (hbn.block _ (blk_lt hS.2)).trans hS.2⟩) (fun hS2 => ?_)
        clear hK K hS
        have hS := hS2
        clear hS2 hbn
        try simp only [Act.put, List.setIfInBounds_toArray, List.set_cons_zero, List.set_cons_succ]
        refine heldStep 10 rfl (by kernel_rfl) (fun K hK => ?_)
        go_simp
        refine (HHT.out _ _ _ hS.1.c HC4.out HC3.out).mono ?_
        rintro e wn ⟨rfl, hbn⟩
        refine hK.out _ _ (⟨hS.1.below hbn, (hbn.block _ (blk_lt hS.2)).trans hS.2⟩) (fun hS2 => ?_)
        clear hK K hS
        have hS := hS2
        clear hS2 hbn
        try simp only [Act.put, List.setIfInBounds_toArray, List.set_cons_zero, List.set_cons_succ]
        refine heldTake 11 _ rfl (by kernel_rfl) (by kernel_rfl) (by kernel_rfl) (fun _ _ _ h => h) rfl hS (fun wy hy => by first | rfl | (go_simp; done) | (go_simp; rfl)) ?_
        try simp only [Act.put, List.setIfInBounds_toArray, List.set_cons_zero, List.set_cons_succ]
        refine heldTake 12 _ rfl (by kernel_rfl) (by kernel_rfl) (by kernel_rfl) (fun _ _ _ h => h) rfl hS (fun wy hy => by first | rfl | (go_simp; done) | (go_simp; rfl)) ?_
        try simp only [Act.put, List.setIfInBounds_toArray, List.set_cons_zero, List.set_cons_succ]
        refine heldDone (by kernel_rfl) ?_
        go_wp2_with fail
        refine (copy_any _ _ D (bslD_of hS.2 HSB.out HSL.out) HDL.out).mono ?_
        rintro e w6 ⟨vx, rfl, ho6, hb6⟩
        have HW6 := hide (hS.1.below hb6)
        have HBA : Hid (g < wn.heap.size ∧ (∀ k, (Value.slice a3 al2.length c3).ownBlock = some k → k < wn.heap.size) ∧ w.heap.size ≤ wn.heap.size) := ⟨blk_lt hS.1.h.b, fun k hk => (hS.1.a.lt k hk).2, hS.1.l.size⟩
        clear hS he
        rw [HSL.out] at ho6
        obtain ⟨ax, cx, hvx, _, _, hcell⟩ := own_form ho6
        subst hvx
        obtain ⟨gx, hgx, _⟩ := hcell 0 _ (bv_get (xs := D) (j := 0) (by rw [HSL.out]; decide))
        subst hgx
        have HO6 := hide ho6
        have hk32 : i % 32 < 32 := Nat.mod_lt _ (by decide)
        have cq := own_cell ho6 (bv_get (xs := D) (j := i % 32) (by rw [HSL.out]; exact hk32))
        have c6 := cq.1
        have f6 := cq.2
        have hq8 := getD_lt HSB.out (i % 32)
        clear hcell ho6 hb6 cq
        generalize hqe : D.getD (i % 32) 0 = q at *
        obtain ⟨z, hz, hz8, hzn⟩ := flip_bit q (i / 32 % 8) hq8 (Nat.mod_lt _ (by decide))
        have HZN : Hid (D.getD (i % 32) 0 = q → D.set (i % 32) z ≠ D) := fun h e => hzn (by
          have h2 := congrArg (fun l => l.getD (i % 32) 0) e
          have h3 : (D.set (i % 32) z).getD (i % 32) 0 = z := by rw [List.getD_eq_getElem?_getD, List.getElem?_set_self (by rw [HSL.out]; exact hk32), Option.getD_some]
          rw [← h3, ← h]
          exact h2)
        have HQE : Hid (D.getD (i % 32) 0 = q) := hqe
        clear hqe
        go_wp2_with fail
        have HGX : Hid (wn.heap.size ≤ gx) := (HO6.out.lt gx rfl).1
        have HO7 := hide (own_set (j := i % 32) (.int .u8 ((z : Nat) : Int)) HO6.out)
        have HW7 : Hid (Wh w (w6.setCell ⟨gx, i % 32, none⟩ (.int .u8 ((z : Nat) : Int))) g (.slice a3 al2.length c3) al2) := by
          have hb := HBA.out
          have hx := HGX.out
          refine HW6.out.kp ((Kp.refl (fun q => q = gx) w6).setCell _ _ (fun _ => rfl)) (by omega) (fun k hk e => by have := hb.2.1 k hk; omega) (by omega)
        generalize w6.setCell ⟨gx, i % 32, none⟩ (.int .u8 ((z : Nat) : Int)) = w7 at *
        have HX7 : Hid (BSl w7 (.slice (some ⟨gx, 0, none⟩) 32 cx) (D.set (i % 32) z)) := by
          have h := HO7.out
          rw [bv_set] at h
          refine BSl.own h ?_
          intro x hx
          rcases List.mem_or_eq_of_mem_set hx with hx | hx
          · exact HSB.out x hx
          · rw [hx]; exact hz8
        clear HW6 HO6 HO7 c6 f6 hz hzn hq8 hz8
        refine (copy_any _ _ al2 HW7.out.s HAL2.out).mono ?_
        rintro e w8 ⟨ve, rfl, ho8, hb8⟩
        have HV8 := hide (BSl.own ho8 HW7.out.ab)
        have HX8 := hide (HX7.out.move (keep_below hb8))
        have HW8 := hide (HW7.out.below hb8)
        have HHF : Hid (∀ wx v u, Cb wx → BSl wx v (D.set (i % 32) z) → BSl wx u al2 → Calls Tryd.prog 33 #[.int .u64 18, v, u] wx fun e w' => e = .returned (.bool false) ∧ Below wx.heap.size wx w') := by
          intro wx v u h1 h2 h3
          have h := holds3_any wx 18 v u _ al2 h1 (by omega) h2 h3 HAL2.out
          rw [HDH.out, decide_eq_false (HZN.out HQE.out)] at h
          exact h
        clear ho8 hb8 HW7 HX7
        go_wp2_with fail
        refine (HHF.out _ _ _ HW8.out.c HX8.out HV8.out).mono ?_
        rintro e w9 ⟨rfl, hb9⟩
        have HW9 := hide (HW8.out.below hb9)
        clear hb9 HW8 HX8 HV8
        go_wp2_with fail
        go_roundw
        case rel => exact ⟨i + 1, al2, by omega, by omega, by go_num, HW9⟩
        case measure => simp [intOf]; omega
    · by_cases h1 : i < len
      · have g1 : (i : Int) < (len : Int) := by omega
        have g2 : ¬ (i : Int) < 300 := by omega
        go_wp2_with fail
        refine (begun_any wr HW.out.c).mono ?_
        rintro e w9 ⟨rfl, hb9⟩
        have HB9 : Hid (Below w.heap.size w w9) := HW.out.l.trans (hb9.mono HW.out.l.size)
        clear hb9
        go_wp2_with fail
        go_ret
        exact ⟨rfl, HB9.out⟩
      · have g1 : ¬ (i : Int) < (len : Int) := by omega
        go_wp2_with fail
        refine (begun_any wr HW.out.c).mono ?_
        rintro e w9 ⟨rfl, hb9⟩
        have HB9 : Hid (Below w.heap.size w w9) := HW.out.l.trans (hb9.mono HW.out.l.size)
        clear hb9
        go_wp2_with fail
        go_ret
        exact ⟨rfl, HB9.out⟩
end Go.Proofs.YtedgdnoafajhoaaDoor

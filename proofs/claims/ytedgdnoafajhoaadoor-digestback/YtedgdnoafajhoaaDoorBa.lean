import Derived.Test.YtedgdnoafajhoaaDoorWa
import Derived.Test.YtedgdnoafajhoaaDoorRw
import Derived.Test.YtedgdnoafajhoaaDoorBm
namespace Go.Proofs.YtedgdnoafajhoaaDoor
open Go.RowKit Go

/-- What DigestBack has in hand. -/
structure Dbk (w wx : World) (T : Nat) (vD vM : Value) : Prop where
  t : wx.heap[T]? = some (.cells #[vD, vM] 89 (0, 0))
  c : Cb wx
  l : Below T w wx
theorem Dbk.below {w wx wy : World} {T : Nat} {vD vM : Value} (h : Dbk w wx T vD vM) (hb : Below wx.heap.size wx wy) (hT : w.heap.size = T) : Dbk w wy T vD vM :=
  ⟨(hb.block T (blk_lt h.t)).trans h.t, h.c.below hb, h.l.trans (hb.mono (by have := h.l.size; omega))⟩
theorem Dbk.drewN {w wx : World} {T : Nat} {vD vM : Value} (h : Dbk w wx T vD vM) (n : Nat) : Dbk w (wx.drewN n) T vD vM := ⟨h.t, ⟨h.c.c⟩, below_drewN h.l n⟩
theorem dread_byte {xs : List Nat} (h : ∀ x ∈ xs, x < 256) : ∀ x ∈ (dread xs).2.1, x < 256 := by
  intro x hx
  unfold dread at hx
  repeat' split at hx
  all_goals first | (simp at hx; done) | exact h x (List.mem_of_mem_drop (List.mem_of_mem_take hx))
theorem RowsIn.row {w : World} {a : Option Addr} {len cap : Nat} (h : RowsIn w (.slice a len cap) len) (hl : 0 < len) : ∃ b off, a = some ⟨b, off, none⟩ ∧ ∀ i, i < len → ∃ u xs, w.cell? ⟨b, off + i, none⟩ = some u ∧ BSl w u xs ∧ xs.length ≤ 140737488351232 := by
  obtain ⟨⟨a', cap', hv, _, hr⟩, _⟩ := h
  injection hv with h1 h2 h3
  subst h1
  rcases hr with hr | hr
  · omega
  · exact hr

set_option maxRecDepth 1000000 in
set_option maxHeartbeats 6000000 in
theorem dback_any (vD vM : Value) (nD nM : Nat) (w : World) (hcb : Cb w) (hD : RowsIn w vD nD) (hM : RowsIn w vM nM) :
    Calls Tryd.prog 8 #[.agg #[vD, vM]] w fun e w' => e = .returned (.bool true) ∧ Below w.heap.size w w' := by
  have HCB := hide hcb
  have HD := hide hD
  have HM := hide hM
  obtain ⟨⟨aD, cD, rfl, hq1, hq2⟩, hmD⟩ := hD
  obtain ⟨⟨aM, cM, rfl, hq3, hq4⟩, hmM⟩ := hM
  clear hq1 hq2 hq3 hq4
  clear hcb
  go_enter Tryd.func8, Tryd.ntmps8
  go_wp2_with fail
  have HT0 : Hid ((w.alloc (.cells #[Value.slice aD nD cD, Value.slice aM nM cM] 89)).heap[w.heap.size]? = some (.cells #[Value.slice aD nD cD, Value.slice aM nM cM] 89 (0, 0))) := heap_alloc_new w _
  have HL0 := hide (below_alloc w (.cells #[Value.slice aD nD cD, Value.slice aM nM cM] 89))
  generalize w.alloc (.cells #[Value.slice aD nD cD, Value.slice aM nM cM] 89) = w0 at *
  generalize hT : w.heap.size = T at *
  have HTE := hide hT
  clear hT
  refine (begun_any w0 (HCB.out.below (by rw [HTE.out]; exact HL0.out))).mono ?_
  rintro e w1 ⟨rfl, hb1⟩
  have HX1 : Hid (Dbk w w1 T (.slice aD nD cD) (.slice aM nM cM)) := by
    have h0 : Dbk w w0 T (.slice aD nD cD) (.slice aM nM cM) := ⟨HT0.out, HCB.out.below (by rw [HTE.out]; exact HL0.out), HL0.out⟩
    exact h0.below hb1 HTE.out
  clear hb1 HT0 HL0
  go_wp2_with fail
  go_loopw [3] (fun ii wx => ∃ i : Nat, i ≤ nD ∧ i ≤ 300 ∧ ii = .int .i64 (i : Nat) ∧ Hid (Dbk w wx T (.slice aD nD cD) (.slice aM nM cM))) (fun ii _ => 300 - (intOf ii).toNat)
  case atStart => exact ⟨0, by omega, by omega, rfl, HX1⟩
  case round =>
    obtain ⟨i, hi, hi3, rfl, HX⟩ := hrel
    clear HX1
    have q0 : wr.cell? ⟨T, 0, none⟩ = some (.slice aD nD cD) := blk_cell HX.out.t rfl
    have q1 : wr.cell? ⟨T, 1, none⟩ = some (.slice aM nM cM) := blk_cell HX.out.t rfl
    by_cases hil : i < nD ∧ i < 300
    · obtain ⟨hil, hi300⟩ := hil
      have g1 : (i : Int) < (nD : Int) := by omega
      have g2 : (i : Int) < 300 := by omega
      go_upto_if 42 with fail
      go_cut [4] (fun vm wx => ∃ (ms : List Nat), Hid (BSl wx vm ms ∧ ms.length ≤ 140737488351232) ∧ Hid (Dbk w wx T (.slice aD nD cD) (.slice aM nM cM)))
      case first => as_aux_lemma =>
        by_cases hm0 : nM = 0
        · have g3 : ¬ (0 : Int) < (nM : Int) := by omega
          clear hm0
          go_wp2_with fail
          go_meet
          case rel => exact ⟨[], ⟨⟨⟨none, 0, rfl, ⟨Nat.le_refl _, fun _ => rfl⟩, .inl rfl⟩, by simp, by simp⟩, by simp⟩, HX⟩
        · have g3 : (0 : Int) < (nM : Int) := by omega
          obtain ⟨bM, oM, rfl, hrM⟩ := HM.out.row (by omega)
          have hmod : i % nM < nM := Nat.mod_lt _ (by omega)
          obtain ⟨u, xs, hcu, hbu, hxl⟩ := hrM (i % nM) hmod
          have hlw : Below w.heap.size w wr := by rw [HTE.out]; exact HX.out.l
          have cu : wr.cell? ⟨bM, oM + i % nM, none⟩ = some u := keep_below hlw _ _ hcu
          have HU : Hid (BSl wr u xs ∧ xs.length ≤ 140737488351232) := ⟨hbu.move (keep_below hlw), hxl⟩
          have hn0 : ¬ (nM : Int) = 0 := by omega
          have hmi : (i : Int) % (nM : Int) = ((i % nM : Nat) : Int) := by omega
          have hml : ((i % nM : Nat) : Int) < (nM : Int) := by omega
          have HMI := hide hmod
          clear hrM hcu hbu hxl hlw hmod
          generalize i % nM = im at *
          go_wp2_with fail
          go_quiet (fail)
          go_wp2_with fail
          go_meet
          case rel => exact ⟨xs, ⟨HU.out.1.move (fun _ _ h => by simpa using h), HU.out.2⟩, HX.out.drewN _⟩
      case rest => as_aux_lemma =>
        obtain ⟨ms, HMS, HX2⟩ := hcut
        clear HX q0 q1
        obtain ⟨bD, oD, rfl, hrD⟩ := HD.out.row (by omega)
        obtain ⟨u, xs, hcu, hbu, hxl⟩ := hrD i hil
        have HCU := hide hcu
        have HU0 := hide hbu
        have HXL := hide hxl
        have q0 : wc.cell? ⟨T, 0, none⟩ = some (.slice (some ⟨bD, oD, none⟩) nD cD) := blk_cell HX2.out.t rfl
        have HLW : Hid (Below w.heap.size w wc) := by rw [HTE.out]; exact HX2.out.l
        have cu : wc.cell? ⟨bD, oD + i, none⟩ = some u := keep_below HLW.out _ _ hcu
        clear hrD hcu hbu hxl
        go_upto_if 59 with fail
        go_cut [5, 6] (fun vh vd wx => ∃ (h : Nat) (d : List Nat), vh = .int .u64 (h : Nat) ∧ ((h = 18 ∧ d.length = 32) ∨ h = 0) ∧ Hid (BSl wx vd d ∧ d.length ≤ 140737488351232) ∧ Hid (BSl wx u4 ms) ∧ Hid (Dbk w wx T (.slice (some ⟨bD, oD, none⟩) nD cD) (.slice aM nM cM)))
        case first => as_aux_lemma =>
          by_cases h2 : i % 2 = 1
          · have g3 : ((i : Int) % 2 == 1) = true := beq_iff_eq.2 (by omega)
            go_wp2_with fail
            refine (copy_any wc u xs (HU0.out.move (keep_below HLW.out)) HXL.out).mono ?_
            rintro e w2 ⟨v2, rfl, ho2, hb2⟩
            have HX3 := hide (HX2.out.below hb2 HTE.out)
            have HV2 := hide (BSl.own ho2 HU0.out.byte)
            have HM2 := hide (HMS.out.1.move (keep_below hb2))
            clear ho2 hb2
            go_wp2_with fail
            refine (sum_any w2 v2 xs HX3.out.c HV2.out HXL.out).mono ?_
            rintro e w3 ⟨rfl, hb3⟩
            have HX4 := hide (HX3.out.below hb3 HTE.out)
            have HM3 := hide (HM2.out.move (keep_below hb3))
            have HI := hide (info32d xs)
            have HON := hide (one32 xs)
            have HSL := hide (sha_len xs)
            have HSB := hide (sha_byte xs)
            clear hb3 HX3 HM2 HV2
            generalize sha xs = S at *
            go_wp2_with (refine wpList_storeRow rfl rfl w3.heap.size _ (bv S).toArray 28 rfl rfl (heap_alloc_new w3 _) HI.out (by simp [bv_len, HSL.out]) HON.out ?_; rw [World.setRow_alloc_new])
            go_meet
            case rel =>
              have hb := below_alloc w3 (.cells (bv S).toArray 28)
              exact ⟨18, S, rfl, .inl ⟨rfl, HSL.out⟩, ⟨bslD_of (heap_alloc_new w3 _) HSB.out HSL.out, by rw [HSL.out]; decide⟩, HM3.out.move (keep_below hb), HX4.out.below hb HTE.out⟩
          · have g3 : ((i : Int) % 2 == 1) = false := beq_eq_false_iff_ne.2 (by omega)
            go_wp2_with fail
            go_meet
            case rel => exact ⟨0, xs, rfl, .inr rfl, ⟨HU0.out.move (keep_below HLW.out), HXL.out⟩, HMS.out.1, HX2⟩
        case rest => as_aux_lemma =>
          obtain ⟨h, d, rfl, hh, HDD, HM4, HX4⟩ := hcut
          clear HX2 q0 HLW cu
          rename World => wd
          have hbd := HDD.out.1
          obtain ⟨⟨ad, cd, hvd, _, _⟩, hmd, _⟩ := hbd
          subst hvd
          have HMD := hide HDD.out.2
          have hmd2 : d.length ≤ 140737488351232 := HDD.out.2
          go_wp2_with fail
          refine (copy_any wd _ d HDD.out.1 HMD.out).mono ?_
          rintro e w1 ⟨v1, rfl, ho1, hb1⟩
          have HX5 := hide (HX4.out.below hb1 HTE.out)
          have HV1 := hide (BSl.own ho1 HDD.out.1.byte)
          have HM5 := hide (HM4.out.move (keep_below hb1))
          have HD5 := hide (HDD.out.1.move (keep_below hb1))
          have HDB := hide HDD.out.1.byte
          clear ho1 hb1 HX4 HM4 HDD
          go_wp2_with fail
          refine (dlay_any w1 h v1 d (by omega) HV1.out).mono ?_
          rintro e w2 ⟨vb, rfl, ho2, hb2⟩
          have HX6 := hide (HX5.out.below hb2 HTE.out)
          have HM6 := hide (HM5.out.move (keep_below hb2))
          have HD6 := hide (HD5.out.move (keep_below hb2))
          clear HX5 HM5 HD5 HV1 hb2
          by_cases hlong : 64 < d.length
          · have h0 : h = 0 := by omega
            subst h0
            rw [dlay_long hlong] at ho2 ⊢
            obtain ⟨ab, cb, hvb, _, _, _⟩ := own_form ho2
            subst hvb
            have g4 : ¬ (d.length : Int) ≤ 64 := by omega
            clear ho2 hh hlong
            go_wp2_with fail
            refine (num3_any w2 31).mono ?_
            rintro e w3 ⟨rfl, rfl⟩
            go_wp2_with fail
            refine (num3_any w3 31).mono ?_
            rintro e w4 ⟨rfl, rfl⟩
            go_wp2_with fail
            go_roundw
            case rel => exact ⟨i + 1, by omega, by omega, by go_num, HX6⟩
            case measure => simp [intOf]; omega
          · have hk : (h = 18 ∧ d.length = 32) ∨ (h = 0 ∧ d.length ≤ 64) := by omega
            have HK := hide hk
            rw [dlay_ok hk] at ho2 ⊢
            have hd64 : ¬ (64 : Int) < (d.length : Int) := by omega
            have hh18 : h ≤ 18 := by omega
            have HLB : Hid (∀ x ∈ h :: d.length :: d, x < 256) := by
              intro x hx
              rcases List.mem_cons.1 hx with e | hx
              · omega
              · rcases List.mem_cons.1 hx with e | hx
                · omega
                · exact HDB.out x hx
            have HRL := hide (dread_laid (ms := ms) hk)
            have HRC := hide (dread_cut hk)
            have HLN : Hid ((h :: d.length :: d).length = 2 + d.length) := by show _ = _; simp; omega
            simp only at ho2
            rw [HLN.out] at ho2
            obtain ⟨ab, cb, hvb, hcb1, _, _⟩ := own_form ho2
            subst hvb
            have HB2 : Hid (BSl w2 (.slice ab (2 + d.length) cb) (h :: d.length :: d)) := BSl.own ho2 HLB.out
            clear ho2 hh hlong hk
            generalize h :: d.length :: d = L at *
            go_wp2_with fail
            refine (num3_any w2 0).mono ?_
            rintro e w3 ⟨rfl, rfl⟩
            go_wp2_with fail
            have HTS : Hid (T < w3.heap.size ∧ w.heap.size ≤ w3.heap.size) := ⟨blk_lt HX6.out.t, by have := blk_lt HX6.out.t; have := HTE.out; omega⟩
            refine (copy_any w3 _ L HB2.out (by rw [HLN.out]; omega)).mono ?_
            rintro e w4 ⟨v4, rfl, ho4, hb4⟩
            have HM7 := hide (HM6.out.move (keep_below hb4))
            have HB4 := hide hb4
            obtain ⟨a4, c4, hv4, _, _, _⟩ := own_form ho4
            subst hv4
            rw [HLN.out] at ho4
            rw [HLN.out]
            have HO4 := hide ho4
            have HMB := hide HM7.out.byte
            have HML := hide HMS.out.2
            clear ho4 hb4 HM6
            go_wp2_with (at_builtin; refine append_bsl rfl _ _ rfl w3.heap.size _ (2 + d.length) L rfl HO4.out _ ms rfl HM7.out ?b1 ?b2 ?_)
            case b1 => have := HML.out; omega
            case b2 => exact HB4.out.size
            intro v5 w5 ho5 hg5
            have HB5 : Hid (Below w3.heap.size w3 w5) := by
              have hlo := fun g (h : (Value.slice a4 (2 + d.length) c4).ownBlock = some g) => (HO4.out.lt g h).1
              exact HB4.out.trans (((Kp.refl (fun q => (Value.slice a4 (2 + d.length) c4).ownBlock = some q) w4).grown hg5 (fun k _ h => h)).below HB4.out.size hlo)
            have HV5 : Hid (BSl w5 v5 (L ++ ms)) := BSl.own ho5 (fun x hx => by
              rcases List.mem_append.1 hx with hx | hx
              · exact HLB.out x hx
              · exact HMB.out x hx)
            have HX8 := hide (HX6.out.below HB5.out HTE.out)
            have HD8 := hide (HD6.out.move (keep_below HB5.out))
            have HB8 := hide (HB2.out.move (keep_below HB5.out))
            clear ho5 hg5 HO4 HB4 HB5 HX6 HD6 HB2 HM7
            go_wp2_with fail
            refine (dread_any w5 v5 (L ++ ms) HV5.out).mono ?_
            rintro e w6 ⟨vy, rfl, ho6, hb6⟩
            rw [HRL.out] at ho6 ⊢
            dsimp only at ho6 ⊢
            have HX9 := hide (HX8.out.below hb6 HTE.out)
            have HD9 := hide (HD8.out.move (keep_below hb6))
            have HB9 := hide (HB8.out.move (keep_below hb6))
            have HY9 : Hid (BSl w6 vy d) := BSl.own ho6 HDB.out
            obtain ⟨ay, cy, hvy, _, _, _⟩ := own_form ho6
            subst hvy
            clear ho6 hb6 HX8 HD8 HB8 HV5
            go_wp2_with fail
            refine (eq_same w6 _ _ d HY9.out HD9.out).mono ?_
            rintro e w7 ⟨rfl, hb7⟩
            have HXa := hide (HX9.out.below hb7 HTE.out)
            have HBa := hide (HB9.out.move (keep_below hb7))
            clear hb7 HX9 HD9 HB9 HY9
            go_wp2_with fail
            refine (num3_any w7 0).mono ?_
            rintro e w8 ⟨rfl, rfl⟩
            go_wp2_with fail
            rename World => wq
            go_loopw [14] (fun kk wx => ∃ k : Nat, k ≤ 2 + d.length ∧ kk = .int .i64 (k : Nat) ∧ Hid (Dbk w wx T (.slice (some ⟨bD, oD, none⟩) nD cD) (.slice aM nM cM)) ∧ Hid (BSl wx (.slice ab (2 + d.length) cb) L)) (fun kk _ => 2 + d.length - (intOf kk).toNat)
            case atStart => exact ⟨0, by omega, rfl, HXa, HBa⟩
            case round =>
              rename World => wz
              obtain ⟨k, hk, rfl, HXb, HBb⟩ := hrel
              clear HXa HBa
              by_cases hlt : k < 2 + d.length
              · have g5 : (k : Int) < 2 + (d.length : Int) := by omega
                have g6 : (k : Int) ≤ (cb : Int) := by omega
                have HTK := hide (HBb.out.take k (by rw [HLN.out]; omega))
                have HRK := hide (HRC.out k hlt)
                have HKL : Hid ((L.take k).length ≤ 140737488351232) := by show _ ≤ _; rw [List.length_take]; omega
                have HLT : Hid (∀ x ∈ L.take k, x < 256) := fun x hx => HLB.out x (List.mem_of_mem_take hx)
                go_wp2_with fail
                refine (copy_any wz _ (L.take k) HTK.out HKL.out).mono ?_
                rintro e y1 ⟨vz, rfl, hoz, hbz⟩
                have HXc := hide (HXb.out.below hbz HTE.out)
                have HBc := hide (HBb.out.move (keep_below hbz))
                have HVc := hide (BSl.own hoz HLT.out)
                clear hoz hbz HXb HBb HTK
                go_wp2_with fail
                refine (dread_any y1 vz (L.take k) HVc.out).mono ?_
                rintro e y2 ⟨vr, rfl, hor, hbr⟩
                rw [HRK.out] at hor ⊢
                dsimp only at hor ⊢
                have HXd := hide (HXc.out.below hbr HTE.out)
                have HBd := hide (HBc.out.move (keep_below hbr))
                obtain ⟨ar, cr, hvr, _, _, _⟩ := own_form hor
                subst hvr
                clear hor hbr HXc HBc HVc
                go_wp2_with fail
                refine (num3_any y2 32).mono ?_
                rintro e y3 ⟨rfl, rfl⟩
                go_wp2_with fail
                go_roundw
                case rel => exact ⟨k + 1, by omega, by go_num, HXd, HBd⟩
                case measure => simp [intOf]; omega
              · have g5 : ¬ (k : Int) < 2 + (d.length : Int) := by omega
                go_wp2_with fail
                go_roundw
                case rel => exact ⟨i + 1, by omega, by omega, by go_num, HXb⟩
                case measure => simp [intOf]; omega
    · by_cases h1 : i < nD
      · have g1 : (i : Int) < (nD : Int) := by omega
        have g2 : ¬ (i : Int) < 300 := by omega
        clear hil
        go_wp2_with fail
        go_loopw [19] (fun ii wx => ∃ j : Nat, j ≤ nM ∧ j ≤ 2000 ∧ ii = .int .i64 (j : Nat) ∧ Hid (Dbk w wx T (.slice aD nD cD) (.slice aM nM cM))) (fun ii _ => 2000 - (intOf ii).toNat)
        case atStart => exact ⟨0, by omega, by omega, rfl, HX⟩
        case round => as_aux_lemma =>
          rename World => wz
          obtain ⟨j, hj, hj2, rfl, HY⟩ := hrel
          clear HX q0 q1
          have q1 : wz.cell? ⟨T, 1, none⟩ = some (.slice aM nM cM) := blk_cell HY.out.t rfl
          by_cases hjl : j < nM ∧ j < 2000
          · obtain ⟨hjl, hj20⟩ := hjl
            have g3 : (j : Int) < (nM : Int) := by omega
            have g4 : (j : Int) < 2000 := by omega
            obtain ⟨bM, oM, rfl, hrM⟩ := HM.out.row (by omega)
            obtain ⟨u, xs, hcu, hbu, hxl⟩ := hrM j hjl
            have HCU := hide hcu
            have HU0 := hide hbu
            have HXL := hide hxl
            have HLW : Hid (Below w.heap.size w wz) := by rw [HTE.out]; exact HY.out.l
            have cu : wz.cell? ⟨bM, oM + j, none⟩ = some u := keep_below HLW.out _ _ hcu
            obtain ⟨⟨au, cau, hu, hnu, hcau⟩, hmu, hbyu⟩ := hbu
            subst hu
            have hcau2 : (xs.length : Int) ≤ (cau : Int) := by have := hnu.1; omega
            clear hrM hcu hxl hnu hcau hbyu
            have hxl2 : xs.length ≤ 140737488351232 := HXL.out
            go_wp2_with fail
            refine (lend_any wz _ xs (HU0.out.move (keep_below HLW.out)) HXL.out).mono ?_
            rintro e y1 ⟨gl, cl, rfl, hol, hbl⟩
            have HYa := hide (HY.out.below hbl HTE.out)
            have HLa : Hid (BSl y1 (.slice (some ⟨gl, 0, none⟩) xs.length cl) xs) := BSl.lent hol rfl HU0.out.byte
            clear hol hbl HY q1 cu HLW
            go_wp2_with fail
            refine (dread_any y1 _ xs HLa.out).mono ?_
            rintro e y2 ⟨vr, rfl, hor, hbr⟩
            have HYb := hide (HYa.out.below hbr HTE.out)
            have HBK := hide (dread_back (xs := xs))
            have HRB : Hid (∀ x ∈ (dread xs).2.1, x < 256) := dread_byte HU0.out.byte
            generalize dread xs = r at *
            obtain ⟨rh, rdd, rn, re⟩ := r
            dsimp only at hor HBK HRB ⊢
            have HO2 := hide (BSl.own hor HRB.out)
            obtain ⟨ar, cr, hvr, _, _, _⟩ := own_form hor
            subst hvr
            clear hor hbr HYa HLa
            go_wp2_with fail
            refine (num3_any y2 _).mono ?_
            rintro e y3 ⟨rfl, rfl⟩
            by_cases hre : re = 0
            · subst hre
              obtain ⟨hrn, hlay, hrh⟩ := HBK.out rfl
              have HLY := hide hlay
              have HRN := hide hrn
              have hrn1 : (rn : Int) ≤ (xs.length : Int) := by omega
              have hrn2 : ¬ (xs.length : Int) < (rn : Int) := by omega
              have HLW : Hid (Below w.heap.size w y3) := by rw [HTE.out]; exact HYb.out.l
              have q1 : y3.cell? ⟨T, 1, none⟩ = some (.slice (some ⟨bM, oM, none⟩) nM cM) := blk_cell HYb.out.t rfl
              have cu : y3.cell? ⟨bM, oM + j, none⟩ = some (.slice au xs.length cau) := keep_below HLW.out _ _ HCU.out
              clear hlay hrn HBK
              go_wp2_with fail
              refine (dlay_any y3 rh _ rdd (by omega) HO2.out).mono ?_
              rintro e y4 ⟨vb, rfl, hob, hbb⟩
              rw [HLY.out] at hob ⊢
              dsimp only at hob ⊢
              have HYc := hide (HYb.out.below hbb HTE.out)
              have HLW2 : Hid (Below w.heap.size w y4) := by rw [HTE.out]; exact HYc.out.l
              have HVb : Hid (BSl y4 vb (xs.take rn)) := BSl.own hob (fun x hx => HU0.out.byte x (List.mem_of_mem_take hx))
              have hTL : (xs.take rn).length = rn := by have := HRN.out; simp; omega
              rw [hTL] at hob
              clear hTL
              obtain ⟨ab, cb, hvb, _, _, _⟩ := own_form hob
              subst hvb
              have q2 : y4.cell? ⟨T, 1, none⟩ = some (.slice (some ⟨bM, oM, none⟩) nM cM) := blk_cell HYc.out.t rfl
              have cu2 : y4.cell? ⟨bM, oM + j, none⟩ = some (.slice au xs.length cau) := keep_below HLW2.out _ _ HCU.out
              have HTK : Hid (BSl y4 (.slice au rn cau) (xs.take rn)) := (HU0.out.move (keep_below HLW2.out)).take rn HRN.out
              have hrn3 : (rn : Int) ≤ (cau : Int) := by omega
              clear hob hbb HYb q1 cu HLW HO2
              go_wp2_with fail
              refine (num3_any y4 0).mono ?_
              rintro e y5 ⟨rfl, rfl⟩
              go_wp2_with fail
              refine (eq_same y5 _ _ (xs.take rn) HVb.out HTK.out).mono ?_
              rintro e y6 ⟨rfl, hb6⟩
              have HYd := hide (HYc.out.below hb6 HTE.out)
              clear hb6 HYc HVb HTK q2 cu2
              go_wp2_with fail
              go_roundw
              case rel => exact ⟨j + 1, by omega, by omega, by go_num, HYd⟩
              case measure => simp [intOf]; omega
            · have g5 : ((re : Int) != 0) = true := bne_iff_ne.2 (by omega)
              clear HBK
              go_wp2_with fail
              go_roundw
              case rel => exact ⟨j + 1, by omega, by omega, by go_num, HYb⟩
              case measure => simp [intOf]; omega
          · by_cases h3 : j < nM
            · have g3 : (j : Int) < (nM : Int) := by omega
              have g4 : ¬ (j : Int) < 2000 := by omega
              go_wp2_with fail
              refine (begun_any wz HY.out.c).mono ?_
              rintro e w9 ⟨rfl, hb9⟩
              have HB9 := hide (HY.out.below hb9 HTE.out).l
              clear hb9
              go_wp2_with fail
              go_ret
              exact ⟨rfl, by rw [HTE.out]; exact HB9.out⟩
            · have g3 : ¬ (j : Int) < (nM : Int) := by omega
              go_wp2_with fail
              refine (begun_any wz HY.out.c).mono ?_
              rintro e w9 ⟨rfl, hb9⟩
              have HB9 := hide (HY.out.below hb9 HTE.out).l
              clear hb9
              go_wp2_with fail
              go_ret
              exact ⟨rfl, by rw [HTE.out]; exact HB9.out⟩
      · have g1 : ¬ (i : Int) < (nD : Int) := by omega
        clear hil
        go_wp2_with fail
        go_loopw [19] (fun ii wx => ∃ j : Nat, j ≤ nM ∧ j ≤ 2000 ∧ ii = .int .i64 (j : Nat) ∧ Hid (Dbk w wx T (.slice aD nD cD) (.slice aM nM cM))) (fun ii _ => 2000 - (intOf ii).toNat)
        case atStart => exact ⟨0, by omega, by omega, rfl, HX⟩
        case round => as_aux_lemma =>
          rename World => wz
          obtain ⟨j, hj, hj2, rfl, HY⟩ := hrel
          clear HX q0 q1
          have q1 : wz.cell? ⟨T, 1, none⟩ = some (.slice aM nM cM) := blk_cell HY.out.t rfl
          by_cases hjl : j < nM ∧ j < 2000
          · obtain ⟨hjl, hj20⟩ := hjl
            have g3 : (j : Int) < (nM : Int) := by omega
            have g4 : (j : Int) < 2000 := by omega
            obtain ⟨bM, oM, rfl, hrM⟩ := HM.out.row (by omega)
            obtain ⟨u, xs, hcu, hbu, hxl⟩ := hrM j hjl
            have HCU := hide hcu
            have HU0 := hide hbu
            have HXL := hide hxl
            have HLW : Hid (Below w.heap.size w wz) := by rw [HTE.out]; exact HY.out.l
            have cu : wz.cell? ⟨bM, oM + j, none⟩ = some u := keep_below HLW.out _ _ hcu
            obtain ⟨⟨au, cau, hu, hnu, hcau⟩, hmu, hbyu⟩ := hbu
            subst hu
            have hcau2 : (xs.length : Int) ≤ (cau : Int) := by have := hnu.1; omega
            clear hrM hcu hxl hnu hcau hbyu
            have hxl2 : xs.length ≤ 140737488351232 := HXL.out
            go_wp2_with fail
            refine (lend_any wz _ xs (HU0.out.move (keep_below HLW.out)) HXL.out).mono ?_
            rintro e y1 ⟨gl, cl, rfl, hol, hbl⟩
            have HYa := hide (HY.out.below hbl HTE.out)
            have HLa : Hid (BSl y1 (.slice (some ⟨gl, 0, none⟩) xs.length cl) xs) := BSl.lent hol rfl HU0.out.byte
            clear hol hbl HY q1 cu HLW
            go_wp2_with fail
            refine (dread_any y1 _ xs HLa.out).mono ?_
            rintro e y2 ⟨vr, rfl, hor, hbr⟩
            have HYb := hide (HYa.out.below hbr HTE.out)
            have HBK := hide (dread_back (xs := xs))
            have HRB : Hid (∀ x ∈ (dread xs).2.1, x < 256) := dread_byte HU0.out.byte
            generalize dread xs = r at *
            obtain ⟨rh, rdd, rn, re⟩ := r
            dsimp only at hor HBK HRB ⊢
            have HO2 := hide (BSl.own hor HRB.out)
            obtain ⟨ar, cr, hvr, _, _, _⟩ := own_form hor
            subst hvr
            clear hor hbr HYa HLa
            go_wp2_with fail
            refine (num3_any y2 _).mono ?_
            rintro e y3 ⟨rfl, rfl⟩
            by_cases hre : re = 0
            · subst hre
              obtain ⟨hrn, hlay, hrh⟩ := HBK.out rfl
              have HLY := hide hlay
              have HRN := hide hrn
              have hrn1 : (rn : Int) ≤ (xs.length : Int) := by omega
              have hrn2 : ¬ (xs.length : Int) < (rn : Int) := by omega
              have HLW : Hid (Below w.heap.size w y3) := by rw [HTE.out]; exact HYb.out.l
              have q1 : y3.cell? ⟨T, 1, none⟩ = some (.slice (some ⟨bM, oM, none⟩) nM cM) := blk_cell HYb.out.t rfl
              have cu : y3.cell? ⟨bM, oM + j, none⟩ = some (.slice au xs.length cau) := keep_below HLW.out _ _ HCU.out
              clear hlay hrn HBK
              go_wp2_with fail
              refine (dlay_any y3 rh _ rdd (by omega) HO2.out).mono ?_
              rintro e y4 ⟨vb, rfl, hob, hbb⟩
              rw [HLY.out] at hob ⊢
              dsimp only at hob ⊢
              have HYc := hide (HYb.out.below hbb HTE.out)
              have HLW2 : Hid (Below w.heap.size w y4) := by rw [HTE.out]; exact HYc.out.l
              have HVb : Hid (BSl y4 vb (xs.take rn)) := BSl.own hob (fun x hx => HU0.out.byte x (List.mem_of_mem_take hx))
              have hTL : (xs.take rn).length = rn := by have := HRN.out; simp; omega
              rw [hTL] at hob
              clear hTL
              obtain ⟨ab, cb, hvb, _, _, _⟩ := own_form hob
              subst hvb
              have q2 : y4.cell? ⟨T, 1, none⟩ = some (.slice (some ⟨bM, oM, none⟩) nM cM) := blk_cell HYc.out.t rfl
              have cu2 : y4.cell? ⟨bM, oM + j, none⟩ = some (.slice au xs.length cau) := keep_below HLW2.out _ _ HCU.out
              have HTK : Hid (BSl y4 (.slice au rn cau) (xs.take rn)) := (HU0.out.move (keep_below HLW2.out)).take rn HRN.out
              have hrn3 : (rn : Int) ≤ (cau : Int) := by omega
              clear hob hbb HYb q1 cu HLW HO2
              go_wp2_with fail
              refine (num3_any y4 0).mono ?_
              rintro e y5 ⟨rfl, rfl⟩
              go_wp2_with fail
              refine (eq_same y5 _ _ (xs.take rn) HVb.out HTK.out).mono ?_
              rintro e y6 ⟨rfl, hb6⟩
              have HYd := hide (HYc.out.below hb6 HTE.out)
              clear hb6 HYc HVb HTK q2 cu2
              go_wp2_with fail
              go_roundw
              case rel => exact ⟨j + 1, by omega, by omega, by go_num, HYd⟩
              case measure => simp [intOf]; omega
            · have g5 : ((re : Int) != 0) = true := bne_iff_ne.2 (by omega)
              clear HBK
              go_wp2_with fail
              go_roundw
              case rel => exact ⟨j + 1, by omega, by omega, by go_num, HYb⟩
              case measure => simp [intOf]; omega
          · by_cases h3 : j < nM
            · have g3 : (j : Int) < (nM : Int) := by omega
              have g4 : ¬ (j : Int) < 2000 := by omega
              go_wp2_with fail
              refine (begun_any wz HY.out.c).mono ?_
              rintro e w9 ⟨rfl, hb9⟩
              have HB9 := hide (HY.out.below hb9 HTE.out).l
              clear hb9
              go_wp2_with fail
              go_ret
              exact ⟨rfl, by rw [HTE.out]; exact HB9.out⟩
            · have g3 : ¬ (j : Int) < (nM : Int) := by omega
              go_wp2_with fail
              refine (begun_any wz HY.out.c).mono ?_
              rintro e w9 ⟨rfl, hb9⟩
              have HB9 := hide (HY.out.below hb9 HTE.out).l
              clear hb9
              go_wp2_with fail
              go_ret
              exact ⟨rfl, by rw [HTE.out]; exact HB9.out⟩
end Go.Proofs.YtedgdnoafajhoaaDoor

import Derived.Test.YtnkghcndaafmoaaGreatDoorJqd
namespace Go.Proofs.YtnkghcndaafmoaaGreatDoor
section
open Go.RowKit Go
set_option maxRecDepth 1000000 in
set_option maxHeartbeats 4000000 in
theorem partitionF_any {α : Type} [Inhabited α] {gl gs : FuncId} {lb sb : Array Value} {lt : α → α → Bool} {M : Nat} {St : World → Array α → Prop} (hM : Srf gl gs lb sb lt M St) {w : World} {d : Array α} (h : St w d) (a b pv : Nat) (mid : Nat) (ap : Bool) (d4 : Array α) (hr : Sort.partition lt d a b pv = (mid, ap, d4)) (hab : a < b) (hpv : pv < b) (hb : b ≤ d.size) (hsz : d.size < 4611686018427387904) : Calls Tryz.prog 204 #[.agg (lsw gl gs lb sb), .int .i64 (a : Nat), .int .i64 (b : Nat), .int .i64 (pv : Nat)] w fun e w' => e = .returned (.tuple #[.int .i64 (mid : Nat), .bool ap]) ∧ Hid (St w' d4 ∧ a ≤ mid ∧ mid < b ∧ d4.size = d.size) := by
  obtain ⟨St2, hB, hM2, h2, hout⟩ := hM.enter h
  suffices key : Calls Tryz.prog 204 #[.agg (lsw gl gs lb sb), .int .i64 (a : Nat), .int .i64 (b : Nat), .int .i64 (pv : Nat)] w fun e w' => e = .returned (.tuple #[.int .i64 (mid : Nat), .bool ap]) ∧ Hid (St2 w' d4 ∧ a ≤ mid ∧ mid < b ∧ d4.size = d.size) from key.mono fun _ _ h => ⟨h.1, (hout (hide h.2.out.1)).out, h.2.out.2⟩
  clear hout hM h
  have HM := hide hB
  have HMF := hide hM2
  have el := hB.el
  have HS0 := h2
  have c0HS0 := HM.out.c0 HS0
  have c1HS0 := HM.out.c1 HS0
  obtain ⟨n, hn⟩ : ∃ n, n = d.size := ⟨_, rfl⟩
  rw [← hn] at hb hsz
  have HN := hide hn
  have HR := hide hr
  clear hB hM2 h2 hr
  rw [← hn]
  clear hn
  go_enter Tryz.func204, Tryz.ntmps204
  go_upto_region 1 with fail
  generalize w.alloc (.cells (lsw gl gs lb sb) 200) = w1 at *
  generalize w.heap.size = g at *
  go_wp2_with fail
  refine upon_sz (HM.out.sz HS0 a pv _ _ rfl rfl (by have := HN.out; omega) (by have := HN.out; omega)) ?_
  rintro w0 HS
  have c0w0 := HM.out.c0 HS
  have c1w0 := HM.out.c1 HS
  clear HS0
  obtain ⟨e, he⟩ : ∃ e, e = Sort.swp d a pv := ⟨_, rfl⟩
  rw [← he] at HS
  have hd : e.size = n := by rw [he, swp_size]; exact HN.out.symm
  have HEE := hide he
  clear he
  obtain ⟨i, hi⟩ : ∃ i, i = a + 1 := ⟨_, rfl⟩
  obtain ⟨j, hj⟩ : ∃ j, j = b - 1 := ⟨_, rfl⟩
  have k1 : (a : Int) + 1 = (i : Int) := by omega
  have k2 : (b : Int) - 1 = (j : Int) := by omega
  have hij : i ≤ j + 1 := by omega
  have hai : a < i := by omega
  have hjb : j < b := by omega
  have HI0 := hide hi
  have HJ0 := hide hj
  clear hi hj
  obtain ⟨I2, hI2⟩ : ∃ I2, Sort.scanUp (fun x => lt x e[a]!) e j i = I2 := ⟨_, rfl⟩
  obtain ⟨J2, hJ2⟩ : ∃ J2, Sort.scanDown (fun x => !lt x e[a]!) e I2 j = J2 := ⟨_, rfl⟩
  have HI2 := hide hI2
  have HJ2 := hide hJ2
  have HI3 := hide hI2
  have HJ3 := hide hJ2
  clear hI2 hJ2
  go_wp2_with fail
  go_loopg [10] (j + 2 - i) (fun gk si wx => ∃ (x : Int) (i' : Nat), si = .int .i64 x ∧ x = (i' : Int) ∧ (St2 wx e ∧ Sort.scanUp (fun x => lt x e[a]!) e j i' = I2 ∧ i ≤ i' ∧ i' ≤ j + 1 ∧ j + 2 - i' ≤ gk))
  case atStart => exact ⟨_, i, rfl, by first | rfl | omega, HS.out, HI2.out, Nat.le_refl _, hij, Nat.le_refl _⟩
  case round =>
    obtain ⟨x, i', rfl, rfl, hs1, hi1, hii, hij', hg1⟩ := hrel
    have HSa := hide hs1
    have c0HSa := HM.out.c0 HSa
    have c1HSa := HM.out.c1 HSa
    have HIa := hide hi1
    clear hs1 hi1 HS HI2
    by_cases hle : i' ≤ j
    · have gz : (i' : Int) ≤ (j : Int) := by omega
      go_wp2_with fail
      refine (HM.out.lz HSa i' a _ _ (by first | rfl | omega) (by first | rfl | omega) (by omega) (by omega)).mono ?_
      rintro _ wa ⟨rfl, hsb⟩
      have c0wa := HM.out.c0 hsb
      have c1wa := HM.out.c1 hsb
      clear HSa
      generalize hlv : lt e[i']! e[a]! = lv at *
      have HLV := hide hlv
      clear hlv
      cases lv with
      | true =>
        as_aux_lemma =>
        go_wp2_with fail
        go_roundg (j + 2 - (i' + 1))
        case measure => omega
        case rel => exact ⟨_, i' + 1, rfl, by omega, hsb.out, (scanUp_go hle (by have h := HLV.out; simp [h])).symm.trans HIa.out, by omega, by omega, Nat.le_refl _⟩
      | false =>
        have hI : i' = I2 := (scanUp_no (fun h => by have h1 := h.2; have h2 := HLV.out; simp [h2] at h1)).symm.trans HIa.out
        subst hI
        clear HIa gz
        go_wp2_with fail
        go_loopg [11] j (fun gk sj wx => ∃ (y : Int) (j' : Nat), sj = .int .i64 y ∧ y = (j' : Int) ∧ (St2 wx e ∧ Sort.scanDown (fun x => !lt x e[a]!) e i' j' = J2 ∧ j' ≤ j ∧ i' ≤ j' + 1 ∧ j' ≤ gk))
        case atStart => exact ⟨_, j, rfl, by first | rfl | omega, hsb.out, HJ2.out, Nat.le_refl _, by omega, Nat.le_refl _⟩
        case round =>
          obtain ⟨y, j', rfl, rfl, hs2, hj1, hjj, hij2, hg2⟩ := hrel
          have HSc := hide hs2
          have c0HSc := HM.out.c0 HSc
          have c1HSc := HM.out.c1 HSc
          have HJa := hide hj1
          clear hs2 hj1 hsb HJ2
          by_cases hle2 : i' ≤ j'
          · have gz2 : (i' : Int) ≤ (j' : Int) := by omega
            go_wp2_with fail
            refine (HM.out.lz HSc j' a _ _ (by first | rfl | omega) (by first | rfl | omega) (by omega) (by omega)).mono ?_
            rintro _ wb ⟨rfl, hsd⟩
            have c0wb := HM.out.c0 hsd
            have c1wb := HM.out.c1 hsd
            clear HSc
            generalize hlv2 : lt e[j']! e[a]! = lv2 at *
            have HLV2 := hide hlv2
            clear hlv2
            cases lv2 with
            | false =>
              as_aux_lemma =>
              go_wp2_with fail
              go_roundg (j' - 1)
              case measure => omega
              case rel => exact ⟨_, j' - 1, rfl, by omega, hsd.out, (scanDown_go (by omega) hle2 (by have h := HLV2.out; simp [h])).symm.trans HJa.out, by omega, by omega, Nat.le_refl _⟩
            | true =>
              as_aux_lemma =>
              have hJ : j' = J2 := (scanDown_no (fun h => by have h1 := h.2; have h2 := HLV2.out; simp [h2] at h1)).symm.trans HJa.out
              subst hJ
              have hne : i' ≠ j' := fun h => by have h1 := HLV.out; have h2 := HLV2.out; rw [h] at h1; rw [h1] at h2; cases h2
              have gz3 : ¬ ((i' : Int) > (j' : Int)) := by omega
              have gz4 : ¬ ((j' : Int) < (i' : Int)) := by omega
              clear HJa HLV HLV2 gz2
              obtain ⟨R, hR⟩ : ∃ R, Sort.partLoop lt a (i' + 1) (j' - 1) (Sort.swp e i' j') = R := ⟨_, rfl⟩
              have HRE : Hid ((R.1, false, Sort.swp R.2 R.1 a) = (mid, ap, d4)) := (part_no (HEE.out ▸ HI0.out ▸ HJ0.out ▸ HI3.out) (HEE.out ▸ HJ0.out ▸ HJ3.out) (by omega) (HEE.out ▸ hR)).symm.trans HR.out
              have HRF := hide hR
              clear hR HR HEE HI3 HJ3
              go_wp2_with fail
              refine upon_sz (HM.out.sz hsd i' j' _ _ (by first | rfl | omega) (by first | rfl | omega) (by omega) (by omega)) ?_
              rintro wc hse
              have c0wc := HM.out.c0 hse
              have c1wc := HM.out.c1 hse
              clear hsd
              have hde : (Sort.swp e i' j').size = n := (swp_size _ _ _).trans hd
              go_wp2_with fail
              go_loopg [10, 11] (j' - 1 + 1 - (i' + 1)) (fun gk s10 s11 wx => ∃ (x y : Int) (i j : Nat), s10 = .int .i64 x ∧ s11 = .int .i64 y ∧ x = (i : Int) ∧ y = (j : Int) ∧ ∃ e : Array α, St2 wx e ∧ e.size = n ∧ a < i ∧ i ≤ j + 1 ∧ j < b ∧ j + 1 - i ≤ gk ∧ Sort.partLoop lt a i j e = R)
              case atStart => exact ⟨_, _, i' + 1, j' - 1, rfl, rfl, by omega, by omega, _, hse.out, hde, by omega, by omega, by omega, Nat.le_refl _, HRF.out⟩
              case round =>
                obtain ⟨x, y, i, j, rfl, rfl, rfl, rfl, e, hs, hd, hai, hij, hjb, hgk, hrl⟩ := hrel
                have HS := hide hs
                have c0HS := HM.out.c0 HS
                have c1HS := HM.out.c1 HS
                have HRL := hide hrl
                clear hs hrl hse
                obtain ⟨I2, hI2⟩ : ∃ I2, Sort.scanUp (fun x => lt x e[a]!) e j i = I2 := ⟨_, rfl⟩
                obtain ⟨J2, hJ2⟩ : ∃ J2, Sort.scanDown (fun x => !lt x e[a]!) e I2 j = J2 := ⟨_, rfl⟩
                have HI2 := hide hI2
                have HJ2 := hide hJ2
                have HI3 := hide hI2
                have HJ3 := hide hJ2
                clear hI2 hJ2
                go_wp2_with fail
                go_loopg [10] (j + 2 - i) (fun gk si wx => ∃ (x : Int) (i' : Nat), si = .int .i64 x ∧ x = (i' : Int) ∧ (St2 wx e ∧ Sort.scanUp (fun x => lt x e[a]!) e j i' = I2 ∧ i ≤ i' ∧ i' ≤ j + 1 ∧ j + 2 - i' ≤ gk))
                case atStart => exact ⟨_, i, rfl, by first | rfl | omega, HS.out, HI2.out, Nat.le_refl _, hij, Nat.le_refl _⟩
                case round =>
                  obtain ⟨x, i', rfl, rfl, hs1, hi1, hii, hij', hg1⟩ := hrel
                  have HSa := hide hs1
                  have c0HSa := HM.out.c0 HSa
                  have c1HSa := HM.out.c1 HSa
                  have HIa := hide hi1
                  clear hs1 hi1 HS HI2
                  by_cases hle : i' ≤ j
                  · have gz : (i' : Int) ≤ (j : Int) := by omega
                    go_wp2_with fail
                    refine (HM.out.lz HSa i' a _ _ (by first | rfl | omega) (by first | rfl | omega) (by omega) (by omega)).mono ?_
                    rintro _ wa ⟨rfl, hsb⟩
                    have c0wa := HM.out.c0 hsb
                    have c1wa := HM.out.c1 hsb
                    clear HSa
                    generalize hlv : lt e[i']! e[a]! = lv at *
                    have HLV := hide hlv
                    clear hlv
                    cases lv with
                    | true =>
                      as_aux_lemma =>
                      go_wp2_with fail
                      go_roundg (j + 2 - (i' + 1))
                      case measure => omega
                      case rel => exact ⟨_, i' + 1, rfl, by omega, hsb.out, (scanUp_go hle (by have h := HLV.out; simp [h])).symm.trans HIa.out, by omega, by omega, Nat.le_refl _⟩
                    | false =>
                      have hI : i' = I2 := (scanUp_no (fun h => by have h1 := h.2; have h2 := HLV.out; simp [h2] at h1)).symm.trans HIa.out
                      subst hI
                      clear HIa gz
                      go_wp2_with fail
                      go_loopg [11] j (fun gk sj wx => ∃ (y : Int) (j' : Nat), sj = .int .i64 y ∧ y = (j' : Int) ∧ (St2 wx e ∧ Sort.scanDown (fun x => !lt x e[a]!) e i' j' = J2 ∧ j' ≤ j ∧ i' ≤ j' + 1 ∧ j' ≤ gk))
                      case atStart => exact ⟨_, j, rfl, by first | rfl | omega, hsb.out, HJ2.out, Nat.le_refl _, by omega, Nat.le_refl _⟩
                      case round =>
                        obtain ⟨y, j', rfl, rfl, hs2, hj1, hjj, hij2, hg2⟩ := hrel
                        have HSc := hide hs2
                        have c0HSc := HM.out.c0 HSc
                        have c1HSc := HM.out.c1 HSc
                        have HJa := hide hj1
                        clear hs2 hj1 hsb HJ2
                        by_cases hle2 : i' ≤ j'
                        · have gz2 : (i' : Int) ≤ (j' : Int) := by omega
                          go_wp2_with fail
                          refine (HM.out.lz HSc j' a _ _ (by first | rfl | omega) (by first | rfl | omega) (by omega) (by omega)).mono ?_
                          rintro _ wb ⟨rfl, hsd⟩
                          have c0wb := HM.out.c0 hsd
                          have c1wb := HM.out.c1 hsd
                          clear HSc
                          generalize hlv2 : lt e[j']! e[a]! = lv2 at *
                          have HLV2 := hide hlv2
                          clear hlv2
                          cases lv2 with
                          | false =>
                            as_aux_lemma =>
                            go_wp2_with fail
                            go_roundg (j' - 1)
                            case measure => omega
                            case rel => exact ⟨_, j' - 1, rfl, by omega, hsd.out, (scanDown_go (by omega) hle2 (by have h := HLV2.out; simp [h])).symm.trans HJa.out, by omega, by omega, Nat.le_refl _⟩
                          | true =>
                            as_aux_lemma =>
                            have hJ : j' = J2 := (scanDown_no (fun h => by have h1 := h.2; have h2 := HLV2.out; simp [h2] at h1)).symm.trans HJa.out
                            subst hJ
                            have hne : i' ≠ j' := fun h => by have h1 := HLV.out; have h2 := HLV2.out; rw [h] at h1; rw [h1] at h2; cases h2
                            have gz3 : ¬ ((i' : Int) > (j' : Int)) := by omega
                            have gz4 : ¬ ((j' : Int) < (i' : Int)) := by omega
                            clear HJa HLV HLV2 gz2
                            have HPN := hide (HRL.out.symm.trans (part_on HI3.out HJ3.out (by omega) (by omega) (by omega)))
                            go_wp2_with fail
                            refine upon_sz (HM.out.sz hsd i' j' _ _ (by first | rfl | omega) (by first | rfl | omega) (by omega) (by omega)) ?_
                            rintro wc hse
                            have c0wc := HM.out.c0 hse
                            have c1wc := HM.out.c1 hse
                            clear hsd
                            go_wp2_with fail
                            go_roundg (j' - 1 + 1 - (i' + 1))
                            case measure => omega
                            case rel => exact ⟨_, _, i' + 1, j' - 1, rfl, rfl, by omega, by omega, _, hse.out, (swp_size _ _ _).trans hd, by omega, by omega, by omega, Nat.le_refl _, HPN.out.symm⟩
                        · as_aux_lemma =>
                          have gz2 : ¬ ((i' : Int) ≤ (j' : Int)) := by omega
                          have gz2b : decide ((i' : Int) ≤ (j' : Int)) = false := decide_eq_false gz2
                          have gz3 : (j' : Int) < (i' : Int) := by omega
                          have hJ : j' = J2 := (scanDown_no (fun h => hle2 h.1)).symm.trans HJa.out
                          subst hJ
                          have hgt : i' > j' := by omega
                          have HSz := HSc
                          clear HJa HSc HLV
                          have HLE := hide (HRL.out.symm.trans (part_brk HI3.out HJ3.out hgt))
                          go_wp2_with fail
                          refine upon_sz (HM.out.sz HSz j' a _ _ (by first | rfl | omega) (by first | rfl | omega) (by omega) (by omega)) ?_
                          rintro wd hsz2
                          have c0wd := HM.out.c0 hsz2
                          have c1wd := HM.out.c1 hsz2
                          clear HSz
                          go_wp2_with fail
                          go_ret2
                          have hz := HRE.out
                          rw [HLE.out] at hz
                          have h1 : j' = mid ∧ false = ap ∧ Sort.swp e j' a = d4 := by injection hz with h1 h2; injection h2 with h2 h3; exact ⟨h1, h2, h3⟩
                          refine ⟨by first | (rw [← h1.1, ← h1.2.1]; done) | (rw [← h1.1, ← h1.2.1]; rfl), ?_, by omega, by omega, ?_⟩
                          · rw [← h1.2.2]; exact hsz2.out
                          · rw [← h1.2.2, swp_size]; exact hd
                  · as_aux_lemma =>
                    have gz : ¬ ((i' : Int) ≤ (j : Int)) := by omega
                    have gzb : decide ((i' : Int) ≤ (j : Int)) = false := decide_eq_false gz
                    have hI : i' = I2 := (scanUp_no (fun h => hle h.1)).symm.trans HIa.out
                    subst hI
                    clear HIa
                    go_wp2_with fail
                    go_loopg [11] 0 (fun gk sj wx => ∃ (y : Int), sj = .int .i64 y ∧ y = (j : Int) ∧ St2 wx e)
                    case atStart => exact ⟨_, rfl, by first | rfl | omega, HSa.out⟩
                    case round =>
                      obtain ⟨y, rfl, rfl, hs2⟩ := hrel
                      have HSz := hide hs2
                      have c0HSz := HM.out.c0 HSz
                      have c1HSz := HM.out.c1 HSz
                      have gz3 : (j : Int) < (i' : Int) := by omega
                      have hJ : j = J2 := (scanDown_no (fun h => hle h.1)).symm.trans HJ2.out
                      have hgt : i' > j := by omega
                      clear hs2 HSa
                      subst hJ
                      have HLE := hide (HRL.out.symm.trans (part_brk HI3.out HJ3.out hgt))
                      go_wp2_with fail
                      refine upon_sz (HM.out.sz HSz j a _ _ (by first | rfl | omega) (by first | rfl | omega) (by omega) (by omega)) ?_
                      rintro wd hsz2
                      have c0wd := HM.out.c0 hsz2
                      have c1wd := HM.out.c1 hsz2
                      clear HSz
                      go_wp2_with fail
                      go_ret2
                      have hz := HRE.out
                      rw [HLE.out] at hz
                      have h1 : j = mid ∧ false = ap ∧ Sort.swp e j a = d4 := by injection hz with h1 h2; injection h2 with h2 h3; exact ⟨h1, h2, h3⟩
                      refine ⟨by first | (rw [← h1.1, ← h1.2.1]; done) | (rw [← h1.1, ← h1.2.1]; rfl), ?_, by omega, by omega, ?_⟩
                      · rw [← h1.2.2]; exact hsz2.out
                      · rw [← h1.2.2, swp_size]; exact hd
          · as_aux_lemma =>
            have gz2 : ¬ ((i' : Int) ≤ (j' : Int)) := by omega
            have gz2b : decide ((i' : Int) ≤ (j' : Int)) = false := decide_eq_false gz2
            have gz3 : (j' : Int) < (i' : Int) := by omega
            have hJ : j' = J2 := (scanDown_no (fun h => hle2 h.1)).symm.trans HJa.out
            subst hJ
            have hgt : i' > j' := by omega
            have HSz := HSc
            clear HJa HSc HLV
            have HLE := hide (part_yes (HEE.out ▸ HI0.out ▸ HJ0.out ▸ HI3.out) (HEE.out ▸ HJ0.out ▸ HJ3.out) hgt)
            go_wp2_with fail
            refine upon_sz (HM.out.sz HSz j' a _ _ (by first | rfl | omega) (by first | rfl | omega) (by omega) (by omega)) ?_
            rintro wd hsz2
            have c0wd := HM.out.c0 hsz2
            have c1wd := HM.out.c1 hsz2
            clear HSz
            go_wp2_with fail
            go_ret2
            have hz := HR.out
            rw [HLE.out] at hz
            have h1 : j' = mid ∧ true = ap ∧ Sort.swp e j' a = d4 := by injection hz with h1 h2; injection h2 with h2 h3; exact ⟨h1, h2, by rw [HEE.out]; exact h3⟩
            refine ⟨by first | (rw [← h1.1, ← h1.2.1]; done) | (rw [← h1.1, ← h1.2.1]; rfl), ?_, by omega, by omega, ?_⟩
            · rw [← h1.2.2]; exact hsz2.out
            · rw [← h1.2.2, swp_size]; exact hd
    · as_aux_lemma =>
      have gz : ¬ ((i' : Int) ≤ (j : Int)) := by omega
      have gzb : decide ((i' : Int) ≤ (j : Int)) = false := decide_eq_false gz
      have hI : i' = I2 := (scanUp_no (fun h => hle h.1)).symm.trans HIa.out
      subst hI
      clear HIa
      go_wp2_with fail
      go_loopg [11] 0 (fun gk sj wx => ∃ (y : Int), sj = .int .i64 y ∧ y = (j : Int) ∧ St2 wx e)
      case atStart => exact ⟨_, rfl, by first | rfl | omega, HSa.out⟩
      case round =>
        obtain ⟨y, rfl, rfl, hs2⟩ := hrel
        have HSz := hide hs2
        have c0HSz := HM.out.c0 HSz
        have c1HSz := HM.out.c1 HSz
        have gz3 : (j : Int) < (i' : Int) := by omega
        have hJ : j = J2 := (scanDown_no (fun h => hle h.1)).symm.trans HJ2.out
        have hgt : i' > j := by omega
        clear hs2 HSa
        subst hJ
        have HLE := hide (part_yes (HEE.out ▸ HI0.out ▸ HJ0.out ▸ HI3.out) (HEE.out ▸ HJ0.out ▸ HJ3.out) hgt)
        go_wp2_with fail
        refine upon_sz (HM.out.sz HSz j a _ _ (by first | rfl | omega) (by first | rfl | omega) (by omega) (by omega)) ?_
        rintro wd hsz2
        have c0wd := HM.out.c0 hsz2
        have c1wd := HM.out.c1 hsz2
        clear HSz
        go_wp2_with fail
        go_ret2
        have hz := HR.out
        rw [HLE.out] at hz
        have h1 : j = mid ∧ true = ap ∧ Sort.swp e j a = d4 := by injection hz with h1 h2; injection h2 with h2 h3; exact ⟨h1, h2, by rw [HEE.out]; exact h3⟩
        refine ⟨by first | (rw [← h1.1, ← h1.2.1]; done) | (rw [← h1.1, ← h1.2.1]; rfl), ?_, by omega, by omega, ?_⟩
        · rw [← h1.2.2]; exact hsz2.out
        · rw [← h1.2.2, swp_size]; exact hd
end
end Go.Proofs.YtnkghcndaafmoaaGreatDoor

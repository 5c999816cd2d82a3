import Derived.Test.YtnkghcndaafmoaaGreatDoorJqf
namespace Go.Proofs.YtnkghcndaafmoaaGreatDoor
section
open Go.RowKit Go
set_option maxRecDepth 1000000 in
set_option maxHeartbeats 4000000 in
theorem partialInsertionSortF_any {α : Type} [Inhabited α] {gl gs : FuncId} {lb sb : Array Value} {lt : α → α → Bool} {M : Nat} {St : World → Array α → Prop} (hM : Srf gl gs lb sb lt M St) {w : World} {d : Array α} (h : St w d) (a b : Nat) (d4 : Array α) (ok : Bool) (hr : Sort.partialInsertionSort lt d a b = (d4, ok)) (hab : a < b) (hb : b ≤ d.size) (hsz : d.size < 4611686018427387904) : Calls Tryz.prog 202 #[.agg (lsw gl gs lb sb), .int .i64 (a : Nat), .int .i64 (b : Nat)] w fun e w' => e = .returned (.bool ok) ∧ Hid (St w' d4 ∧ d4.size = d.size) := by
  obtain ⟨St2, hB, hM2, h2, hout⟩ := hM.enter h
  suffices key : Calls Tryz.prog 202 #[.agg (lsw gl gs lb sb), .int .i64 (a : Nat), .int .i64 (b : Nat)] w fun e w' => e = .returned (.bool ok) ∧ Hid (St2 w' d4 ∧ d4.size = d.size) from key.mono fun _ _ h => ⟨h.1, (hout (hide h.2.out.1)).out, h.2.out.2⟩
  clear hout hM h
  have HM := hide hB
  have HMF := hide hM2
  have el := hB.el
  have HS0 := h2
  have c0HS0 := HM.out.c0 HS0
  have c1HS0 := HM.out.c1 HS0
  obtain ⟨n, hn⟩ : ∃ n, n = d.size := ⟨_, rfl⟩
  rw [← hn] at hb hsz ⊢
  have HN := hide hn
  have HR : Hid (Sort.partialIns lt a b 5 (a + 1) d = (d4, ok)) := hr
  clear hB hM2 h2 hr hn
  go_enter Tryz.func202, Tryz.ntmps202
  go_upto_region 1 with fail
  generalize w.alloc (.cells (lsw gl gs lb sb) 200) = w1 at *
  generalize w.heap.size = g at *
  go_wp2_with fail
  go_loopg [7, 8] 5 (fun gk s7 s8 wx => ∃ (x y : Int) (i t s : Nat), s7 = .int .i64 x ∧ s8 = .int .i64 y ∧ x = (i : Int) ∧ y = (t : Int) ∧ ∃ e : Array α, St2 wx e ∧ e.size = n ∧ a < i ∧ i ≤ b ∧ s + t = 5 ∧ s ≤ gk ∧ Sort.partialIns lt a b s i e = (d4, ok))
  case atStart => exact ⟨_, _, a + 1, 0, 5, rfl, rfl, by omega, by omega, d, HS0.out, HN.out.symm, by omega, by omega, by omega, Nat.le_refl _, HR.out⟩
  case round =>
    obtain ⟨x, y, i, t, s, rfl, rfl, rfl, rfl, e, hs, hd, hai, hib, hst, hgk, hpl⟩ := hrel
    have HS := hide hs
    have c0HS := HM.out.c0 HS
    have c1HS := HM.out.c1 HS
    have HPL := hide hpl
    clear hs hpl HS0 HR
    cases s with
    | zero =>
      as_aux_lemma =>
      have ht5 : t = 5 := by omega
      subst ht5
      clear hst hgk
      have H1 : Hid (e = d4 ∧ false = ok) := by have h := HPL.out; unfold Sort.partialIns at h; injection h with h1 h2; exact ⟨h1, h2⟩
      clear HPL
      go_wp2_with fail
      go_ret
      exact ⟨by rw [← H1.out.2]; rfl, by rw [← H1.out.1]; exact HS.out, by rw [← H1.out.1]; exact hd⟩
    | succ s =>
      have gt : (t : Int) < 5 := by omega
      obtain ⟨k, hk⟩ : ∃ k, Sort.scanSorted lt e b i = k := ⟨_, rfl⟩
      have HK := hide hk
      have HK3 := hide hk
      clear hk
      go_wp2_with fail
      go_loopg [7] (b - i) (fun gk s7 wx => ∃ (x : Int) (i' : Nat), s7 = .int .i64 x ∧ x = (i' : Int) ∧ (St2 wx e ∧ Sort.scanSorted lt e b i' = k ∧ i ≤ i' ∧ i' ≤ b ∧ b - i' ≤ gk))
      case atStart => exact ⟨_, i, rfl, by first | rfl | omega, HS.out, HK.out, Nat.le_refl _, hib, Nat.le_refl _⟩
      case round =>
        obtain ⟨x, i', rfl, rfl, hs1, hk1, hii, hib', hg1⟩ := hrel
        have HSa := hide hs1
        have c0HSa := HM.out.c0 HSa
        have c1HSa := HM.out.c1 HSa
        have HKa := hide hk1
        clear hs1 hk1 HS HK
        by_cases hlt : i' < b
        · have gz : (i' : Int) < (b : Int) := by omega
          go_wp2_with fail
          refine (HM.out.lz HSa i' (i' - 1) _ _ (by first | rfl | omega) (by first | rfl | omega) (by omega) (by omega)).mono ?_
          rintro _ wa ⟨rfl, hsb⟩
          have c0wa := HM.out.c0 hsb
          have c1wa := HM.out.c1 hsb
          clear HSa
          generalize hlv : lt e[i']! e[i' - 1]! = lv at *
          have HLV := hide hlv
          clear hlv
          cases lv with
          | false =>
            as_aux_lemma =>
            go_wp2_with fail
            go_roundg (b - (i' + 1))
            case measure => omega
            case rel => exact ⟨_, i' + 1, rfl, by omega, hsb.out, (scs_go hlt HLV.out).symm.trans HKa.out, by omega, by omega, Nat.le_refl _⟩
          | true =>
            have hki : i' = k := (scs_no (fun h => by have h1 := HLV.out; rw [h1] at h; cases h.2)).symm.trans HKa.out
            subst hki
            have gib : ((i' : Int) == (b : Int)) = false := by simp; omega
            have hne : i' ≠ b := by omega
            clear HKa HLV
            by_cases h50 : b - a < 50
            · as_aux_lemma =>
              have g50 : (b : Int) - (a : Int) < 50 := by omega
              have H1 : Hid (e = d4 ∧ false = ok) := by have h := (pin_short (s := s) HK3.out hne h50).symm.trans HPL.out; injection h with h1 h2; exact ⟨h1, h2⟩
              clear HPL HK3
              go_wp2_with fail
              go_ret
              exact ⟨by rw [← H1.out.2]; rfl, by rw [← H1.out.1]; exact hsb.out, by rw [← H1.out.1]; exact hd⟩
            · have g50 : ¬ ((b : Int) - (a : Int) < 50) := by omega
              obtain ⟨d1, hd1⟩ : ∃ d1, Sort.swp e i' (i' - 1) = d1 := ⟨_, rfl⟩
              obtain ⟨d2, hd2⟩ : ∃ d2, (if i' - a ≥ 2 then Sort.shiftDown lt (i' - 1) d1 else d1) = d2 := ⟨_, rfl⟩
              obtain ⟨d3, hd3⟩ : ∃ d3, (if b - i' ≥ 2 then Sort.shiftUp lt b (i' + 1) d2 else d2) = d3 := ⟨_, rfl⟩
              have HPN := hide ((pin_go (s := s) HK3.out hne h50 hd1 hd2 hd3).symm.trans HPL.out)
              have HD1 := hide hd1
              have HD2 := hide hd2
              have HD3 := hide hd3
              have HD1s : Hid (d1.size = n) := by show _ = _; rw [← hd1, swp_size]; exact hd
              have HD2s : Hid (d2.size = n) := by
                show _ = _
                rw [← hd2]
                split
                · rw [shd_size]; exact HD1s.out
                · exact HD1s.out
              have HD3s : Hid (d3.size = n) := by
                show _ = _
                rw [← hd3]
                split
                · rw [shu_size lt b _ _ _ (Nat.le_refl _)]; exact HD2s.out
                · exact HD2s.out
              clear hd1 hd2 hd3 HPL HK3
              go_wp2_with fail
              refine upon_sz (HM.out.sz hsb i' (i' - 1) _ _ (by first | rfl | omega) (by first | rfl | omega) (by omega) (by omega)) ?_
              rintro wc hsc
              have c0wc := HM.out.c0 hsc
              have c1wc := HM.out.c1 hsc
              clear hsb
              rw [HD1.out] at hsc
              by_cases h2 : i' - a ≥ 2
              · have g2 : (i' : Int) - (a : Int) ≥ 2 := by omega
                have HL2 : Hid (Sort.shiftDown lt (i' - 1) d1 = d2) := by have h := HD2.out; rw [if_pos h2] at h; exact h
                go_wp2_with fail
                go_loopg [9] (i' - 1) (fun gk s9 wx => ∃ (y : Int) (j : Nat), s9 = .int .i64 y ∧ y = (j : Int) ∧ ∃ e1 : Array α, St2 wx e1 ∧ e1.size = n ∧ Sort.shiftDown lt j e1 = d2 ∧ j + 1 ≤ i' ∧ j ≤ gk)
                case atStart => exact ⟨_, i' - 1, rfl, by omega, d1, hsc.out, HD1s.out, HL2.out, by omega, Nat.le_refl _⟩
                case round =>
                  obtain ⟨y, j, rfl, rfl, e1, hs3, hd3, hl3, hj1, hg3⟩ := hrel
                  have HS3 := hide hs3
                  have c0HS3 := HM.out.c0 HS3
                  have c1HS3 := HM.out.c1 HS3
                  have HL3' := hide hl3
                  clear hs3 hl3 hsc HL2
                  by_cases hj0 : 1 ≤ j
                  · have gz3 : (j : Int) ≥ 1 := by omega
                    go_wp2_with fail
                    refine (HM.out.lz HS3 j (j - 1) _ _ (by first | rfl | omega) (by first | rfl | omega) (by omega) (by omega)).mono ?_
                    rintro _ wd ⟨rfl, hsD⟩
                    have c0wd := HM.out.c0 hsD
                    have c1wd := HM.out.c1 hsD
                    clear HS3
                    generalize hlv3 : lt e1[j]! e1[j - 1]! = lv3 at *
                    have HLV3 := hide hlv3
                    clear hlv3
                    cases lv3 with
                    | true =>
                      as_aux_lemma =>
                      go_wp2_with fail
                      refine upon_sz (HM.out.sz hsD j (j - 1) _ _ (by first | rfl | omega) (by first | rfl | omega) (by omega) (by omega)) ?_
                      rintro we hsE
                      have c0we := HM.out.c0 hsE
                      have c1we := HM.out.c1 hsE
                      clear hsD
                      go_wp2_with fail
                      go_roundg (j - 1)
                      case measure => omega
                      case rel => exact ⟨_, j - 1, rfl, by omega, _, hsE.out, (swp_size _ _ _).trans hd3, (shd_go hj0 HLV3.out).symm.trans HL3'.out, by omega, Nat.le_refl _⟩
                    | false =>
                      as_aux_lemma =>
                      have hed : d2 = e1 := HL3'.out.symm.trans (shd_no (fun h => by have h1 := HLV3.out; rw [h1] at h; cases h.2))
                      subst hed
                      have hsX := hsD
                      clear hsD HL3' HLV3
                      by_cases h3 : b - i' ≥ 2
                      · have g3 : (b : Int) - (i' : Int) ≥ 2 := by omega
                        have HL3 : Hid (Sort.shiftUp lt b (i' + 1) d2 = d3) := by have h := HD3.out; rw [if_pos h3] at h; exact h
                        have HSX := hsX
                        clear hsX
                        go_wp2_with fail
                        go_loopg [10] (b - (i' + 1)) (fun gk s10 wx => ∃ (y : Int) (j : Nat), s10 = .int .i64 y ∧ y = (j : Int) ∧ ∃ e2 : Array α, St2 wx e2 ∧ e2.size = n ∧ Sort.shiftUp lt b j e2 = d3 ∧ i' + 1 ≤ j ∧ j ≤ b ∧ b - j ≤ gk)
                        case atStart => exact ⟨_, i' + 1, rfl, by omega, d2, HSX.out, HD2s.out, HL3.out, Nat.le_refl _, by omega, Nat.le_refl _⟩
                        case round =>
                          obtain ⟨y, j, rfl, rfl, e2, hs4, hd4, hl4, hj1, hj2, hg4⟩ := hrel
                          have HS4 := hide hs4
                          have c0HS4 := HM.out.c0 HS4
                          have c1HS4 := HM.out.c1 HS4
                          have HL4 := hide hl4
                          clear hs4 hl4 HSX HL3
                          by_cases hjb : j < b
                          · have gz4 : (j : Int) < (b : Int) := by omega
                            go_wp2_with fail
                            refine (HM.out.lz HS4 j (j - 1) _ _ (by first | rfl | omega) (by first | rfl | omega) (by omega) (by omega)).mono ?_
                            rintro _ we ⟨rfl, hsE⟩
                            have c0we := HM.out.c0 hsE
                            have c1we := HM.out.c1 hsE
                            clear HS4
                            generalize hlv4 : lt e2[j]! e2[j - 1]! = lv4 at *
                            have HLV4 := hide hlv4
                            clear hlv4
                            cases lv4 with
                            | true =>
                              as_aux_lemma =>
                              go_wp2_with fail
                              refine upon_sz (HM.out.sz hsE j (j - 1) _ _ (by first | rfl | omega) (by first | rfl | omega) (by omega) (by omega)) ?_
                              rintro wf hsF
                              have c0wf := HM.out.c0 hsF
                              have c1wf := HM.out.c1 hsF
                              clear hsE
                              go_wp2_with fail
                              go_roundg (b - (j + 1))
                              case measure => omega
                              case rel => exact ⟨_, j + 1, rfl, by omega, _, hsF.out, (swp_size _ _ _).trans hd4, (shu_go hjb HLV4.out).symm.trans HL4.out, by omega, by omega, Nat.le_refl _⟩
                            | false =>
                              as_aux_lemma =>
                              have hed : d3 = e2 := HL4.out.symm.trans (shu_no (fun h => by have h1 := HLV4.out; rw [h1] at h; cases h.2))
                              subst hed
                              have hsY := hsE
                              clear hsE HL4 HLV4
                              go_wp2_with fail
                              go_roundg s
                              case measure => omega
                              case rel => exact ⟨_, _, i', t + 1, s, rfl, rfl, by omega, by omega, d3, hsY.out, HD3s.out, by omega, by omega, by omega, Nat.le_refl _, HPN.out⟩
                          · as_aux_lemma =>
                            have gz4 : ¬ ((j : Int) < (b : Int)) := by omega
                            have hed : d3 = e2 := HL4.out.symm.trans (shu_no (fun h => hjb h.1))
                            subst hed
                            have hsY := HS4
                            clear HS4 HL4
                            go_wp2_with fail
                            go_roundg s
                            case measure => omega
                            case rel => exact ⟨_, _, i', t + 1, s, rfl, rfl, by omega, by omega, d3, hsY.out, HD3s.out, by omega, by omega, by omega, Nat.le_refl _, HPN.out⟩
                      · as_aux_lemma =>
                        have g3 : ¬ ((b : Int) - (i' : Int) ≥ 2) := by omega
                        have hed : d3 = d2 := by have h := HD3.out; rw [if_neg h3] at h; exact h.symm
                        subst hed
                        have hsY := hsX
                        clear hsX
                        go_wp2_with fail
                        go_roundg s
                        case measure => omega
                        case rel => exact ⟨_, _, i', t + 1, s, rfl, rfl, by omega, by omega, d3, hsY.out, HD3s.out, by omega, by omega, by omega, Nat.le_refl _, HPN.out⟩
                  · as_aux_lemma =>
                    have gz3 : ¬ ((j : Int) ≥ 1) := by omega
                    have hed : d2 = e1 := HL3'.out.symm.trans (shd_no (fun h => hj0 h.1))
                    subst hed
                    have hsX := HS3
                    clear HS3 HL3'
                    by_cases h3 : b - i' ≥ 2
                    · have g3 : (b : Int) - (i' : Int) ≥ 2 := by omega
                      have HL3 : Hid (Sort.shiftUp lt b (i' + 1) d2 = d3) := by have h := HD3.out; rw [if_pos h3] at h; exact h
                      have HSX := hsX
                      clear hsX
                      go_wp2_with fail
                      go_loopg [10] (b - (i' + 1)) (fun gk s10 wx => ∃ (y : Int) (j : Nat), s10 = .int .i64 y ∧ y = (j : Int) ∧ ∃ e2 : Array α, St2 wx e2 ∧ e2.size = n ∧ Sort.shiftUp lt b j e2 = d3 ∧ i' + 1 ≤ j ∧ j ≤ b ∧ b - j ≤ gk)
                      case atStart => exact ⟨_, i' + 1, rfl, by omega, d2, HSX.out, HD2s.out, HL3.out, Nat.le_refl _, by omega, Nat.le_refl _⟩
                      case round =>
                        obtain ⟨y, j, rfl, rfl, e2, hs4, hd4, hl4, hj1, hj2, hg4⟩ := hrel
                        have HS4 := hide hs4
                        have c0HS4 := HM.out.c0 HS4
                        have c1HS4 := HM.out.c1 HS4
                        have HL4 := hide hl4
                        clear hs4 hl4 HSX HL3
                        by_cases hjb : j < b
                        · have gz4 : (j : Int) < (b : Int) := by omega
                          go_wp2_with fail
                          refine (HM.out.lz HS4 j (j - 1) _ _ (by first | rfl | omega) (by first | rfl | omega) (by omega) (by omega)).mono ?_
                          rintro _ we ⟨rfl, hsE⟩
                          have c0we := HM.out.c0 hsE
                          have c1we := HM.out.c1 hsE
                          clear HS4
                          generalize hlv4 : lt e2[j]! e2[j - 1]! = lv4 at *
                          have HLV4 := hide hlv4
                          clear hlv4
                          cases lv4 with
                          | true =>
                            as_aux_lemma =>
                            go_wp2_with fail
                            refine upon_sz (HM.out.sz hsE j (j - 1) _ _ (by first | rfl | omega) (by first | rfl | omega) (by omega) (by omega)) ?_
                            rintro wf hsF
                            have c0wf := HM.out.c0 hsF
                            have c1wf := HM.out.c1 hsF
                            clear hsE
                            go_wp2_with fail
                            go_roundg (b - (j + 1))
                            case measure => omega
                            case rel => exact ⟨_, j + 1, rfl, by omega, _, hsF.out, (swp_size _ _ _).trans hd4, (shu_go hjb HLV4.out).symm.trans HL4.out, by omega, by omega, Nat.le_refl _⟩
                          | false =>
                            as_aux_lemma =>
                            have hed : d3 = e2 := HL4.out.symm.trans (shu_no (fun h => by have h1 := HLV4.out; rw [h1] at h; cases h.2))
                            subst hed
                            have hsY := hsE
                            clear hsE HL4 HLV4
                            go_wp2_with fail
                            go_roundg s
                            case measure => omega
                            case rel => exact ⟨_, _, i', t + 1, s, rfl, rfl, by omega, by omega, d3, hsY.out, HD3s.out, by omega, by omega, by omega, Nat.le_refl _, HPN.out⟩
                        · as_aux_lemma =>
                          have gz4 : ¬ ((j : Int) < (b : Int)) := by omega
                          have hed : d3 = e2 := HL4.out.symm.trans (shu_no (fun h => hjb h.1))
                          subst hed
                          have hsY := HS4
                          clear HS4 HL4
                          go_wp2_with fail
                          go_roundg s
                          case measure => omega
                          case rel => exact ⟨_, _, i', t + 1, s, rfl, rfl, by omega, by omega, d3, hsY.out, HD3s.out, by omega, by omega, by omega, Nat.le_refl _, HPN.out⟩
                    · as_aux_lemma =>
                      have g3 : ¬ ((b : Int) - (i' : Int) ≥ 2) := by omega
                      have hed : d3 = d2 := by have h := HD3.out; rw [if_neg h3] at h; exact h.symm
                      subst hed
                      have hsY := hsX
                      clear hsX
                      go_wp2_with fail
                      go_roundg s
                      case measure => omega
                      case rel => exact ⟨_, _, i', t + 1, s, rfl, rfl, by omega, by omega, d3, hsY.out, HD3s.out, by omega, by omega, by omega, Nat.le_refl _, HPN.out⟩
              · as_aux_lemma =>
                have g2 : ¬ ((i' : Int) - (a : Int) ≥ 2) := by omega
                have hed : d2 = d1 := by have h := HD2.out; rw [if_neg h2] at h; exact h.symm
                subst hed
                have hsX := hsc
                clear hsc
                by_cases h3 : b - i' ≥ 2
                · have g3 : (b : Int) - (i' : Int) ≥ 2 := by omega
                  have HL3 : Hid (Sort.shiftUp lt b (i' + 1) d2 = d3) := by have h := HD3.out; rw [if_pos h3] at h; exact h
                  have HSX := hsX
                  clear hsX
                  go_wp2_with fail
                  go_loopg [10] (b - (i' + 1)) (fun gk s10 wx => ∃ (y : Int) (j : Nat), s10 = .int .i64 y ∧ y = (j : Int) ∧ ∃ e2 : Array α, St2 wx e2 ∧ e2.size = n ∧ Sort.shiftUp lt b j e2 = d3 ∧ i' + 1 ≤ j ∧ j ≤ b ∧ b - j ≤ gk)
                  case atStart => exact ⟨_, i' + 1, rfl, by omega, d2, HSX.out, HD2s.out, HL3.out, Nat.le_refl _, by omega, Nat.le_refl _⟩
                  case round =>
                    obtain ⟨y, j, rfl, rfl, e2, hs4, hd4, hl4, hj1, hj2, hg4⟩ := hrel
                    have HS4 := hide hs4
                    have c0HS4 := HM.out.c0 HS4
                    have c1HS4 := HM.out.c1 HS4
                    have HL4 := hide hl4
                    clear hs4 hl4 HSX HL3
                    by_cases hjb : j < b
                    · have gz4 : (j : Int) < (b : Int) := by omega
                      go_wp2_with fail
                      refine (HM.out.lz HS4 j (j - 1) _ _ (by first | rfl | omega) (by first | rfl | omega) (by omega) (by omega)).mono ?_
                      rintro _ we ⟨rfl, hsE⟩
                      have c0we := HM.out.c0 hsE
                      have c1we := HM.out.c1 hsE
                      clear HS4
                      generalize hlv4 : lt e2[j]! e2[j - 1]! = lv4 at *
                      have HLV4 := hide hlv4
                      clear hlv4
                      cases lv4 with
                      | true =>
                        as_aux_lemma =>
                        go_wp2_with fail
                        refine upon_sz (HM.out.sz hsE j (j - 1) _ _ (by first | rfl | omega) (by first | rfl | omega) (by omega) (by omega)) ?_
                        rintro wf hsF
                        have c0wf := HM.out.c0 hsF
                        have c1wf := HM.out.c1 hsF
                        clear hsE
                        go_wp2_with fail
                        go_roundg (b - (j + 1))
                        case measure => omega
                        case rel => exact ⟨_, j + 1, rfl, by omega, _, hsF.out, (swp_size _ _ _).trans hd4, (shu_go hjb HLV4.out).symm.trans HL4.out, by omega, by omega, Nat.le_refl _⟩
                      | false =>
                        as_aux_lemma =>
                        have hed : d3 = e2 := HL4.out.symm.trans (shu_no (fun h => by have h1 := HLV4.out; rw [h1] at h; cases h.2))
                        subst hed
                        have hsY := hsE
                        clear hsE HL4 HLV4
                        go_wp2_with fail
                        go_roundg s
                        case measure => omega
                        case rel => exact ⟨_, _, i', t + 1, s, rfl, rfl, by omega, by omega, d3, hsY.out, HD3s.out, by omega, by omega, by omega, Nat.le_refl _, HPN.out⟩
                    · as_aux_lemma =>
                      have gz4 : ¬ ((j : Int) < (b : Int)) := by omega
                      have hed : d3 = e2 := HL4.out.symm.trans (shu_no (fun h => hjb h.1))
                      subst hed
                      have hsY := HS4
                      clear HS4 HL4
                      go_wp2_with fail
                      go_roundg s
                      case measure => omega
                      case rel => exact ⟨_, _, i', t + 1, s, rfl, rfl, by omega, by omega, d3, hsY.out, HD3s.out, by omega, by omega, by omega, Nat.le_refl _, HPN.out⟩
                · as_aux_lemma =>
                  have g3 : ¬ ((b : Int) - (i' : Int) ≥ 2) := by omega
                  have hed : d3 = d2 := by have h := HD3.out; rw [if_neg h3] at h; exact h.symm
                  subst hed
                  have hsY := hsX
                  clear hsX
                  exfalso
                  omega
        · as_aux_lemma =>
          have gz : ¬ ((i' : Int) < (b : Int)) := by omega
          have gzb : decide ((i' : Int) < (b : Int)) = false := decide_eq_false gz
          have hib2 : i' = b := by omega
          subst hib2
          have hk2 : Sort.scanSorted lt e i' i = i' := HK3.out.trans (HKa.out.symm.trans (scs_no (fun h => hlt h.1)))
          have H1 : Hid (e = d4 ∧ true = ok) := by have h := (pin_yes (s := s) hk2).symm.trans HPL.out; injection h with h1 h2; exact ⟨h1, h2⟩
          clear HPL HK3 HKa hk2
          go_wp2_with fail
          go_ret
          exact ⟨by rw [← H1.out.2]; rfl, by rw [← H1.out.1]; exact HSa.out, by rw [← H1.out.1]; exact hd⟩
end
end Go.Proofs.YtnkghcndaafmoaaGreatDoor

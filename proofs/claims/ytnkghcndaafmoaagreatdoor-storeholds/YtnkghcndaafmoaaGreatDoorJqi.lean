import Derived.Test.YtnkghcndaafmoaaGreatDoorJqf
import Derived.Test.YtnkghcndaafmoaaGreatDoorJqg
import Derived.Test.YtnkghcndaafmoaaGreatDoorJqh
namespace Go.Proofs.YtnkghcndaafmoaaGreatDoor
section
open Go.RowKit Go
def PdF {α : Type} [Inhabited α] (gl gs : FuncId) (lb sb : Array Value) (lt : α → α → Bool) (K : Nat) : Prop := ∀ (M : Nat) (St : World → Array α → Prop), Srf gl gs lb sb lt M St → ∀ (w : World) (d : Array α) (a b L : Nat) (x y z : Int), Hid (St w d) → x = (a : Int) → y = (b : Int) → z = (L : Int) → b - a < K → a ≤ b → b ≤ d.size → d.size < 4611686018427387904 → L < 4611686018427387904 → Calls Tryz.prog 139 #[.agg (lsw gl gs lb sb), .int .i64 x, .int .i64 y, .int .i64 z] w fun e w' => e = .returned (.tuple #[]) ∧ Hid (St w' (Sort.pdq lt d a b L true true) ∧ (Sort.pdq lt d a b L true true).size = d.size)
set_option maxRecDepth 1000000 in
set_option maxHeartbeats 4000000 in
theorem pdqF_step {α : Type} [Inhabited α] {gl gs : FuncId} {lb sb : Array Value} {lt : α → α → Bool} (K : Nat) (ih : PdF gl gs lb sb lt K) : PdF gl gs lb sb lt (K + 1) := by
  intro M St hM w d a b L x y z h hx hy hz hK hab hb hsz hL
  obtain ⟨St2, hB, hM2, hs0, hout⟩ := hM.enter h.out
  suffices key : Calls Tryz.prog 139 #[.agg (lsw gl gs lb sb), .int .i64 x, .int .i64 y, .int .i64 z] w fun e w' => e = .returned (.tuple #[]) ∧ Hid (St2 w' (Sort.pdq lt d a b L true true) ∧ (Sort.pdq lt d a b L true true).size = d.size) from key.mono fun _ _ h => ⟨h.1, (hout (hide h.2.out.1)).out, h.2.out.2⟩
  clear hout hM h
  subst hx hy hz
  obtain ⟨LS, hLS⟩ : ∃ LS, LS = Sort.pdq lt d a b L true true := ⟨_, rfl⟩
  rw [← hLS]
  have HLS := hide hLS
  have HM := hide hB
  have HMF := hide hM2
  have HI := hide (ih _ _ hM2)
  have el := hB.el
  obtain ⟨n, hn⟩ : ∃ n, n = d.size := ⟨_, rfl⟩
  rw [← hn] at hb hsz ⊢
  have HN : Hid (d.size = n) := hn.symm
  clear hB hM2 hLS hn
  go_enter Tryz.func139, Tryz.ntmps139
  go_upto_region 1 with fail
  generalize w.alloc (.cells (lsw gl gs lb sb) 200) = w1 at *
  generalize w.heap.size = g at *
  go_wp2_with fail
  go_loopg [1, 2, 3, 8, 9] (b - a) (fun gk s1 s2 s3 s8 s9 wx => ∃ (x y z : Int) (a b L : Nat) (wb wp : Bool), s1 = .int .i64 x ∧ s2 = .int .i64 y ∧ s3 = .int .i64 z ∧ s8 = .bool wb ∧ s9 = .bool wp ∧ x = (a : Int) ∧ y = (b : Int) ∧ z = (L : Int) ∧ a ≤ b ∧ b ≤ n ∧ L < 4611686018427387904 ∧ b - a ≤ K ∧ b - a ≤ gk ∧ ∃ e : Array α, St2 wx e ∧ e.size = n ∧ LS = Sort.pdq lt e a b L wb wp)
  case atStart => exact ⟨_, _, _, a, b, L, true, true, rfl, rfl, rfl, rfl, rfl, rfl, rfl, rfl, hab, hb, hL, by omega, Nat.le_refl _, d, hs0.out, HN.out, HLS.out⟩
  case round =>
    clear hab hb hL hK
    obtain ⟨x, y, z, a, b, L, wb, wp, rfl, rfl, rfl, rfl, rfl, rfl, rfl, rfl, hab, hb, hL, hK, hgk, e, hs, hd, hls⟩ := hrel
    have HS := hide hs
    have c0HS := HM.out.c0 HS
    have c1HS := HM.out.c1 HS
    clear hs0 HLS HN
    have HLS := hide hls
    clear hs hls
    by_cases h12 : b - a ≤ 12
    · as_aux_lemma =>
      have g12 : (b : Int) - (a : Int) ≤ 12 := by omega
      have HL2 := hide (HLS.out.trans (pdq_small lt h12))
      go_wp2_with fail
      refine (insertionSortF_any HMF.out HS.out a b (by omega) hab (by omega)).mono ?_
      rintro _ w1 ⟨rfl, hs1⟩
      have HE : Hid (St2 w1 LS ∧ LS.size = n) := by
        show _ ∧ _
        rw [HL2.out]
        exact ⟨hs1.out, (insOuter_size lt a b _ _ _ (Nat.le_refl _)).trans hd⟩
      clear HS HL2 HLS hs1
      go_wp2_with fail
      first
        | (go_end0; exact ⟨rfl, HE⟩)
        | exact bodyPost_ret (results_none rfl _ _ _) rfl ⟨rfl, HE⟩
    have g12 : ¬ ((b : Int) - (a : Int) ≤ 12) := by omega
    by_cases hL0 : L = 0
    · as_aux_lemma =>
      have gL : ((L : Int) == 0) = true := by simp; omega
      have HL2 := hide (HLS.out.trans (pdq_heap lt h12 hL0))
      clear hL0
      go_wp2_with fail
      refine (heapSortF_any HMF.out HS.out a b (by omega) (by omega) (by omega)).mono ?_
      rintro _ w1 ⟨rfl, hs1⟩
      have HE : Hid (St2 w1 LS ∧ LS.size = n) := by
        show _ ∧ _
        rw [HL2.out]
        exact ⟨hs1.out, (heapSort_size lt _ a b).trans hd⟩
      clear HS HL2 HLS hs1
      go_wp2_with fail
      first
        | (go_end0; exact ⟨rfl, HE⟩)
        | exact bodyPost_ret (results_none rfl _ _ _) rfl ⟨rfl, HE⟩
    have gL : ((L : Int) == 0) = false := by simp; omega
    have HL2 := hide (HLS.out.trans (pdq_rest lt h12 hL0))
    clear HLS
    go_upto_if 35 with fail
    go_cut [3] (fun v3 wx => ∃ (z : Int) (L1 : Nat), v3 = .int .i64 z ∧ z = (L1 : Int) ∧ L1 < 4611686018427387904 ∧ ∃ d1 : Array α, St2 wx d1 ∧ d1.size = n ∧ LS = pqH lt d1 a b L1 wb wp)
    case first =>
      cases wb with
      | true =>
        as_aux_lemma =>
        go_wp2_with fail
        go_meet
        case rel => exact ⟨_, L, rfl, rfl, hL, e, HS.out, hd, HL2.out⟩
      | false =>
        as_aux_lemma =>
        go_wp2_with fail
        refine (breakPatternsF_any HMF.out HS.out a b (by omega) (by omega) (by omega)).mono ?_
        rintro _ w1 ⟨rfl, hs1⟩
        clear HS
        go_wp2_with fail
        go_meet
        case rel => exact ⟨_, L - 1, rfl, by omega, by omega, _, hs1.out.1, hs1.out.2.trans hd, HL2.out⟩
    case rest =>
      obtain ⟨z, L1, rfl, rfl, hL1, d1, hs1, hd1, hl1⟩ := hcut
      have HS1 := hide hs1
      have c0HS1 := HM.out.c0 HS1
      have c1HS1 := HM.out.c1 HS1
      have HL3 := hide hl1
      clear hs1 hl1 HS HL2
      obtain ⟨⟨p, hint⟩, hcp⟩ : ∃ r, Sort.choosePivot lt d1 a b = r := ⟨_, rfl⟩
      have hpr : a ≤ p ∧ p < b := by have h1 := Sort.choosePivot_holds lt d1 a b (by omega); rw [hcp] at h1; exact h1
      have HL4 : Hid (LS = pqP lt (if hint = .decreasing then Sort.reverseRange d1 a b else d1) a b (if hint = .decreasing then (b - 1) - (p - a) else p) L1 (if hint = .decreasing then .increasing else hint) wb wp) := by
        show _ = _
        rw [HL3.out]
        unfold pqH
        rw [hcp]
      have HCP := hide hcp
      clear hcp HL3
      go_upto_if 50 with fail
      refine (choosePivotF_any HMF.out HS1.out a b p hint HCP.out (by omega) (by omega) (by omega)).mono ?_
      rintro _ w2 ⟨rfl, hs2⟩
      have c0w2 := HM.out.c0 (hide hs2.out.1)
      have c1w2 := HM.out.c1 (hide hs2.out.1)
      clear HS1 HCP
      go_upto_if 50 with fail
      go_cut [11, 12] (fun v11 v12 wx => ∃ (x y : Int) (pv : Nat) (h2 : Sort.Hint), v11 = .int .i64 x ∧ v12 = .int .i64 y ∧ x = (pv : Int) ∧ y = hcd h2 ∧ a ≤ pv ∧ pv < b ∧ ∃ d2 : Array α, St2 wx d2 ∧ d2.size = n ∧ LS = pqP lt d2 a b pv L1 h2 wb wp)
      case first =>
        by_cases hdec : hint = .decreasing
        · as_aux_lemma =>
          have gd : (hcd hint == 2) = true := by rw [hcd_2 hdec]; rfl
          have HL5 := HL4.out
          rw [if_pos hdec, if_pos hdec, if_pos hdec] at HL5
          have HL6 := hide HL5
          clear HL4 HL5 hdec
          go_wp2_with fail
          refine (reverseRangeF_any HMF.out hs2.out.1 a b (by omega) (by omega) (by omega)).mono ?_
          rintro _ w3 ⟨rfl, hs3⟩
          clear hs2
          go_wp2_with fail
          go_meet
          case rel => exact ⟨_, _, (b - 1) - (p - a), .increasing, rfl, rfl, by omega, rfl, by omega, by omega, _, hs3.out, (rev_size _ _ _ _ (Nat.le_refl _)).trans hd1, HL6.out⟩
        · as_aux_lemma =>
          have gd : (hcd hint == 2) = false := by have h1 := hcd_n2 hdec; simpa using h1
          have HL5 := HL4.out
          rw [if_neg hdec, if_neg hdec, if_neg hdec] at HL5
          have HL6 := hide HL5
          clear HL4 HL5 hdec
          go_wp2_with fail
          go_meet
          case rel => exact ⟨_, _, p, hint, rfl, rfl, rfl, rfl, hpr.1, hpr.2, d1, hs2.out.1, hd1, HL6.out⟩
      case rest =>
        obtain ⟨x, y, pv, h2, rfl, rfl, rfl, rfl, hp1, hp2, d2, hs3, hd2, hl3⟩ := hcut
        have HS3 := hide hs3
        have c0HS3 := HM.out.c0 HS3
        have c1HS3 := HM.out.c1 HS3
        have HL5 := hide hl3
        clear hs3 hl3 hs2 HL4 hpr
        go_upto_region 16 with fail
        go_cut [68] (fun v68 wx => ∃ c : Bool, v68 = .bool c ∧ Hid (c = (wb && wp && decide (h2 = .increasing))) ∧ Hid (St2 wx d2))
        case first =>
          cases wb with
          | false =>
            as_aux_lemma =>
            go_wp2_with fail
            go_meet
            case rel => exact ⟨false, rfl, rfl, HS3⟩
          | true =>
            cases wp with
            | false =>
              as_aux_lemma =>
              go_wp2_with fail
              go_meet
              case rel => exact ⟨false, rfl, rfl, HS3⟩
            | true =>
              by_cases hinc : h2 = .increasing
              · as_aux_lemma =>
                have gi : (hcd h2 == 1) = true := by rw [hcd_1 hinc]; rfl
                have HC : Hid (true = (true && true && decide (h2 = .increasing))) := by show _ = _; simp [hinc]
                clear hinc
                go_wp2_with fail
                go_meet
                case rel => exact ⟨true, rfl, HC, HS3⟩
              · as_aux_lemma =>
                have gi : (hcd h2 == 1) = false := by have h1 := hcd_n1 hinc; simpa using h1
                have HC : Hid (false = (true && true && decide (h2 = .increasing))) := by show _ = _; simp [hinc]
                clear hinc
                go_wp2_with fail
                go_meet
                case rel => exact ⟨false, rfl, HC, HS3⟩
        case rest =>
          obtain ⟨c, rfl, hc, hs4⟩ := hcut
          have c0hs4 := HM.out.c0 hs4
          have c1hs4 := HM.out.c1 hs4
          clear HS3
          obtain ⟨⟨d3', ok⟩, hpi⟩ : ∃ r, Sort.partialInsertionSort lt d2 a b = r := ⟨_, rfl⟩
          have HPI := hide hpi
          clear hpi
          go_upto_if 68 with fail
          go_cut [] (fun wx => ∃ d3 : Array α, St2 wx d3 ∧ d3.size = n ∧ LS = pqT lt d3 a b pv L1 wb wp)
          case first =>
            cases c with
            | false =>
              as_aux_lemma =>
              have HL6 : Hid (LS = pqT lt d2 a b pv L1 wb wp) := by
                show _ = _
                rw [HL5.out]
                unfold pqP
                rw [← hc.out]
                rfl
              clear HL5 hc
              go_wp2_with fail
              go_meet
              case rel => exact ⟨d2, hs4.out, hd2, HL6.out⟩
            | true =>
              as_aux_lemma =>
              have HL6 : Hid (LS = if ok then d3' else pqT lt d3' a b pv L1 wb wp) := by
                show _ = _
                rw [HL5.out]
                unfold pqP
                rw [← hc.out, if_pos rfl, HPI.out]
              clear HL5 hc
              go_wp2_with fail
              refine (partialInsertionSortF_any HMF.out hs4.out a b d3' ok HPI.out (by omega) (by omega) (by omega)).mono ?_
              rintro _ w4 ⟨rfl, hs5⟩
              clear hs4 HPI
              cases ok with
              | true =>
                have HE : Hid (St2 w4 LS ∧ LS.size = n) := by
                  show _ ∧ _
                  rw [HL6.out]
                  exact ⟨hs5.out.1, hs5.out.2.trans hd2⟩
                clear HL6 hs5
                go_wp2_with fail
                first
                  | (go_end0; exact ⟨rfl, HE⟩)
                  | exact bodyPost_ret (results_none rfl _ _ _) rfl ⟨rfl, HE⟩
              | false =>
                go_wp2_with fail
                go_meet
                case rel => exact ⟨d3', hs5.out.1, hs5.out.2.trans hd2, HL6.out⟩
          case rest =>
            obtain ⟨d3, hs5, hd3, hl6⟩ := hcut
            have HS5' := hide hs5
            have c0HS5p := HM.out.c0 HS5'
            have c1HS5p := HM.out.c1 HS5'
            have HL6 := hide hl6
            clear hs5 hl6 hs4 hc HPI HL5
            by_cases ha0 : 0 < a
            · have ga : (a : Int) > 0 := by omega
              go_wp2_with fail
              refine (HM.out.lz HS5' (a - 1) pv _ _ (by first | rfl | omega) (by first | rfl | omega) (by omega) (by omega)).mono ?_
              rintro _ w4 ⟨rfl, hsX⟩
              have c0w4 := HM.out.c0 hsX
              have c1w4 := HM.out.c1 hsX
              clear HS5'
              generalize hlv : lt d3[a - 1]! d3[pv]! = lv at *
              have HLV := hide hlv
              clear hlv
              cases lv with
              | false =>
                as_aux_lemma =>
                obtain ⟨⟨mid, d4⟩, hpt⟩ : ∃ r, Sort.partitionEqual lt d3 a b pv = r := ⟨_, rfl⟩
                have HPT := hide hpt
                clear hpt
                go_wp2_with fail
                refine (partitionEqualF_any HMF.out hsX.out a b pv mid d4 HPT.out (by omega) (by omega) (by omega) (by omega)).mono ?_
                rintro _ w5 ⟨rfl, h5⟩
                obtain ⟨hs6, hm1, hm2, hd5⟩ := h5.out
                have HS6 := hide hs6
                have c0HS6 := HM.out.c0 HS6
                have c1HS6 := HM.out.c1 HS6
                have HL9 := hide (HL6.out.trans (pqT_eq lt ha0 HLV.out HPT.out hm1 hm2))
                clear hsX hs6 h5 HL6 HPT HLV
                go_wp2_with fail
                go_roundg (b - mid)
                case measure => omega
                case rel => exact ⟨_, _, _, mid, b, L1, wb, wp, rfl, rfl, rfl, rfl, rfl, by first | rfl | omega, by first | rfl | omega, by first | rfl | omega, by omega, by omega, hL1, by omega, Nat.le_refl _, d4, HS6.out, by omega, HL9.out⟩
              | true =>
                have HNE : Hid (¬ (0 < a ∧ lt d3[a - 1]! d3[pv]! = false)) := fun h => by have h1 := HLV.out; rw [h1] at h; cases h.2
                clear HLV
                obtain ⟨⟨mid, ap, d4⟩, hpt⟩ : ∃ r, Sort.partition lt d3 a b pv = r := ⟨_, rfl⟩
                have HPT := hide hpt
                clear hpt
                go_wp2_with fail
                refine (partitionF_any HMF.out hsX.out a b pv mid ap d4 HPT.out (by omega) (by omega) (by omega) (by omega)).mono ?_
                rintro _ w5 ⟨rfl, h5⟩
                obtain ⟨hs5, hm1, hm2, hd5⟩ := h5.out
                have HS5 := hide hs5
                have c0HS5 := HM.out.c0 HS5
                have c1HS5 := HM.out.c1 HS5
                clear hsX hs5 h5
                by_cases hlr : mid - a < b - mid
                · as_aux_lemma =>
                  have glr : (mid : Int) - (a : Int) < (b : Int) - (mid : Int) := by omega
                  have HL9 := hide (HL6.out.trans (pqT_l lt HNE.out HPT.out hm1 hm2 hlr))
                  clear HL6 HPT HNE
                  go_wp2_with fail
                  refine (HI.out w5 d4 a mid L1 _ _ _ HS5 (by first | rfl | omega) (by first | rfl | omega) (by first | rfl | omega) (by omega) hm1 (by omega) (by omega) hL1).mono ?_
                  rintro _ w6 ⟨rfl, h6⟩
                  have c0w6 := HM.out.c0 (hide h6.out.1)
                  have c1w6 := HM.out.c1 (hide h6.out.1)
                  clear HS5
                  go_wp2_with fail
                  go_roundg (b - (mid + 1))
                  case measure => omega
                  case rel => exact ⟨_, _, _, mid + 1, b, L1, decide (mid - a ≥ (b - a) / 8), ap, rfl, rfl, rfl, congrArg Value.bool (decide_eq_decide.2 (by omega)), rfl, by omega, by first | rfl | omega, by first | rfl | omega, by omega, by omega, hL1, by omega, Nat.le_refl _, _, h6.out.1, by rw [h6.out.2]; omega, HL9.out⟩
                · as_aux_lemma =>
                  have glr : ¬ ((mid : Int) - (a : Int) < (b : Int) - (mid : Int)) := by omega
                  have HL9 := hide (HL6.out.trans (pqT_r lt HNE.out HPT.out hm1 hm2 hlr))
                  clear HL6 HPT HNE
                  go_wp2_with fail
                  refine (HI.out w5 d4 (mid + 1) b L1 _ _ _ HS5 (by first | rfl | omega) (by first | rfl | omega) (by first | rfl | omega) (by omega) (by omega) (by omega) (by omega) hL1).mono ?_
                  rintro _ w6 ⟨rfl, h6⟩
                  have c0w6 := HM.out.c0 (hide h6.out.1)
                  have c1w6 := HM.out.c1 (hide h6.out.1)
                  clear HS5
                  go_wp2_with fail
                  go_roundg (mid - a)
                  case measure => omega
                  case rel => exact ⟨_, _, _, a, mid, L1, decide (b - mid ≥ (b - a) / 8), ap, rfl, rfl, rfl, congrArg Value.bool (decide_eq_decide.2 (by omega)), rfl, by first | rfl | omega, by first | rfl | omega, by first | rfl | omega, by omega, by omega, hL1, by omega, Nat.le_refl _, _, h6.out.1, by rw [h6.out.2]; omega, HL9.out⟩
            · have ga : ¬ ((a : Int) > 0) := by omega
              have gab : decide ((a : Int) > 0) = false := decide_eq_false ga
              have HNE : Hid (¬ (0 < a ∧ lt d3[a - 1]! d3[pv]! = false)) := fun h => ha0 h.1
              have hsX := HS5'
              clear HS5' ha0
              obtain ⟨⟨mid, ap, d4⟩, hpt⟩ : ∃ r, Sort.partition lt d3 a b pv = r := ⟨_, rfl⟩
              have HPT := hide hpt
              clear hpt
              go_wp2_with fail
              refine (partitionF_any HMF.out hsX.out a b pv mid ap d4 HPT.out (by omega) (by omega) (by omega) (by omega)).mono ?_
              rintro _ w5 ⟨rfl, h5⟩
              obtain ⟨hs5, hm1, hm2, hd5⟩ := h5.out
              have HS5 := hide hs5
              have c0HS5 := HM.out.c0 HS5
              have c1HS5 := HM.out.c1 HS5
              clear hsX hs5 h5
              by_cases hlr : mid - a < b - mid
              · as_aux_lemma =>
                have glr : (mid : Int) - (a : Int) < (b : Int) - (mid : Int) := by omega
                have HL9 := hide (HL6.out.trans (pqT_l lt HNE.out HPT.out hm1 hm2 hlr))
                clear HL6 HPT HNE
                go_wp2_with fail
                refine (HI.out w5 d4 a mid L1 _ _ _ HS5 (by first | rfl | omega) (by first | rfl | omega) (by first | rfl | omega) (by omega) hm1 (by omega) (by omega) hL1).mono ?_
                rintro _ w6 ⟨rfl, h6⟩
                have c0w6 := HM.out.c0 (hide h6.out.1)
                have c1w6 := HM.out.c1 (hide h6.out.1)
                clear HS5
                go_wp2_with fail
                go_roundg (b - (mid + 1))
                case measure => omega
                case rel => exact ⟨_, _, _, mid + 1, b, L1, decide (mid - a ≥ (b - a) / 8), ap, rfl, rfl, rfl, congrArg Value.bool (decide_eq_decide.2 (by omega)), rfl, by omega, by first | rfl | omega, by first | rfl | omega, by omega, by omega, hL1, by omega, Nat.le_refl _, _, h6.out.1, by rw [h6.out.2]; omega, HL9.out⟩
              · as_aux_lemma =>
                have glr : ¬ ((mid : Int) - (a : Int) < (b : Int) - (mid : Int)) := by omega
                have HL9 := hide (HL6.out.trans (pqT_r lt HNE.out HPT.out hm1 hm2 hlr))
                clear HL6 HPT HNE
                go_wp2_with fail
                refine (HI.out w5 d4 (mid + 1) b L1 _ _ _ HS5 (by first | rfl | omega) (by first | rfl | omega) (by first | rfl | omega) (by omega) (by omega) (by omega) (by omega) hL1).mono ?_
                rintro _ w6 ⟨rfl, h6⟩
                have c0w6 := HM.out.c0 (hide h6.out.1)
                have c1w6 := HM.out.c1 (hide h6.out.1)
                clear HS5
                go_wp2_with fail
                go_roundg (mid - a)
                case measure => omega
                case rel => exact ⟨_, _, _, a, mid, L1, decide (b - mid ≥ (b - a) / 8), ap, rfl, rfl, rfl, congrArg Value.bool (decide_eq_decide.2 (by omega)), rfl, by first | rfl | omega, by first | rfl | omega, by first | rfl | omega, by omega, by omega, hL1, by omega, Nat.le_refl _, _, h6.out.1, by rw [h6.out.2]; omega, HL9.out⟩
theorem pdqF_any {α : Type} [Inhabited α] {gl gs : FuncId} {lb sb : Array Value} {lt : α → α → Bool} : ∀ K, PdF gl gs lb sb lt K
  | 0 => fun _ _ _ _ _ _ _ _ _ _ _ _ _ _ _ h => by omega
  | K + 1 => pdqF_step K (pdqF_any K)
end
end Go.Proofs.YtnkghcndaafmoaaGreatDoor

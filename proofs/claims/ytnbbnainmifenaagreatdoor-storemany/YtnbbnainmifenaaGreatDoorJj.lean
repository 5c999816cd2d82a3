import Derived.Test.YtnbbnainmifenaaGreatDoorJh
import Derived.Test.YtnbbnainmifenaaGreatDoorJi
import Derived.Sort.AssemblyPlain
import Derived.Test.YtnbbnainmifenaaGreatDoorSlgg
import Derived.Test.YtnbbnainmifenaaGreatDoorJf
import Derived.Test.YtnbbnainmifenaaGreatDoorJg
import Derived.Test.YtnbbnainmifenaaGreatDoorJb
import Derived.Test.YtnbbnainmifenaaGreatDoorJd
import Derived.Lib.ReflectliteSwap
import Derived.Laws.Externs
import Derived.Test.YtnbbnainmifenaaGreatDoorJc
import Derived.Laws.EntriesVeiled
namespace Go.Proofs.YtnbbnainmifenaaGreatDoor
section
open Go.RowKit Go
def PdF {α : Type} [Inhabited α] (gl gs : FuncId) (lb sb : Array Value) (lt : α → α → Bool) (K : Nat) : Prop := ∀ (M : Nat) (St : World → Array α → Prop), Srf gl gs lb sb lt M St → ∀ (w : World) (d : Array α) (a b L : Nat) (x y z : Int), Hid (St w d) → x = (a : Int) → y = (b : Int) → z = (L : Int) → b - a < K → a ≤ b → b ≤ d.size → d.size < 4611686018427387904 → L < 4611686018427387904 → Calls Tryz.prog 62 #[.agg (lsw gl gs lb sb), .int .i64 x, .int .i64 y, .int .i64 z] w fun e w' => e = .returned (.tuple #[]) ∧ Hid (St w' (Sort.pdq lt d a b L true true) ∧ (Sort.pdq lt d a b L true true).size = d.size)
set_option maxRecDepth 1000000 in
set_option maxHeartbeats 4000000 in
theorem pdqF_step {α : Type} [Inhabited α] {gl gs : FuncId} {lb sb : Array Value} {lt : α → α → Bool} (K : Nat) (ih : PdF gl gs lb sb lt K) : PdF gl gs lb sb lt (K + 1) := by
  intro M St hM w d a b L x y z h hx hy hz hK hab hb hsz hL
  obtain ⟨St2, hB, hM2, hs0, hout⟩ := hM.enter h.out
  suffices key : Calls Tryz.prog 62 #[.agg (lsw gl gs lb sb), .int .i64 x, .int .i64 y, .int .i64 z] w fun e w' => e = .returned (.tuple #[]) ∧ Hid (St2 w' (Sort.pdq lt d a b L true true) ∧ (Sort.pdq lt d a b L true true).size = d.size) from key.mono fun _ _ h => ⟨h.1, (hout (hide h.2.out.1)).out, h.2.out.2⟩
  clear hout hM h
  subst hx hy hz
  obtain ⟨LS, hLS⟩ : ∃ LS, LS = Sort.pdq lt d a b L true true := ⟨_, rfl⟩
  rw [← hLS]
  have HLS := hide hLS
  have HM := hide hB
  have HMF := hide hM2
  have HI := hide (ih _ _ hM2)
  have el := hB.el
  obtain ⟨n, hn⟩ : ∃ n, n = d.size := ⟨_, rfl⟩
  rw [← hn] at hb hsz ⊢
  have HN : Hid (d.size = n) := hn.symm
  clear hB hM2 hLS hn
  go_enter Tryz.func62, Tryz.ntmps62
  go_upto_region 1 with fail
  generalize w.alloc (.cells (lsw gl gs lb sb) 120) = w1 at *
  generalize w.heap.size = g at *
  go_wp2_with fail
  go_loopg [1, 2, 3, 8, 9] (b - a) (fun gk s1 s2 s3 s8 s9 wx => ∃ (x y z : Int) (a b L : Nat) (wb wp : Bool), s1 = .int .i64 x ∧ s2 = .int .i64 y ∧ s3 = .int .i64 z ∧ s8 = .bool wb ∧ s9 = .bool wp ∧ x = (a : Int) ∧ y = (b : Int) ∧ z = (L : Int) ∧ a ≤ b ∧ b ≤ n ∧ L < 4611686018427387904 ∧ b - a ≤ K ∧ b - a ≤ gk ∧ ∃ e : Array α, St2 wx e ∧ e.size = n ∧ LS = Sort.pdq lt e a b L wb wp)
  case atStart => exact ⟨_, _, _, a, b, L, true, true, rfl, rfl, rfl, rfl, rfl, rfl, rfl, rfl, hab, hb, hL, by omega, Nat.le_refl _, d, hs0.out, HN.out, HLS.out⟩
  case round =>
    clear hab hb hL hK
    obtain ⟨x, y, z, a, b, L, wb, wp, rfl, rfl, rfl, rfl, rfl, rfl, rfl, rfl, hab, hb, hL, hK, hgk, e, hs, hd, hls⟩ := hrel
    have HS := hide hs
    have c0HS := HM.out.c0 HS
    have c1HS := HM.out.c1 HS
    clear hs0 HLS HN
    have HLS := hide hls
    clear hs hls
    by_cases h12 : b - a ≤ 12
    · as_aux_lemma =>
      have g12 : (b : Int) - (a : Int) ≤ 12 := by omega
      have HL2 := hide (HLS.out.trans (pdq_small lt h12))
      go_wp2_with fail
      refine (insertionSortF_any HMF.out HS.out a b (by omega) hab (by omega)).mono ?_
      rintro _ w1 ⟨rfl, hs1⟩
      have HE : Hid (St2 w1 LS ∧ LS.size = n) := by
        show _ ∧ _
        rw [HL2.out]
        exact ⟨hs1.out, (insOuter_size lt a b _ _ _ (Nat.le_refl _)).trans hd⟩
      clear HS HL2 HLS hs1
      go_wp2_with fail
      first
        | (go_end0; exact ⟨rfl, HE⟩)
        | exact bodyPost_ret (results_none rfl _ _ _) rfl ⟨rfl, HE⟩
    have g12 : ¬ ((b : Int) - (a : Int) ≤ 12) := by omega
    by_cases hL0 : L = 0
    · as_aux_lemma =>
      have gL : ((L : Int) == 0) = true := by simp; omega
      have HL2 := hide (HLS.out.trans (pdq_heap lt h12 hL0))
      clear hL0
      go_wp2_with fail
      refine (heapSortF_any HMF.out HS.out a b (by omega) (by omega) (by omega)).mono ?_
      rintro _ w1 ⟨rfl, hs1⟩
      have HE : Hid (St2 w1 LS ∧ LS.size = n) := by
        show _ ∧ _
        rw [HL2.out]
        exact ⟨hs1.out, (heapSort_size lt _ a b).trans hd⟩
      clear HS HL2 HLS hs1
      go_wp2_with fail
      first
        | (go_end0; exact ⟨rfl, HE⟩)
        | exact bodyPost_ret (results_none rfl _ _ _) rfl ⟨rfl, HE⟩
    have gL : ((L : Int) == 0) = false := by simp; omega
    have HL2 := hide (HLS.out.trans (pdq_rest lt h12 hL0))
    clear HLS
    go_upto_if 35 with fail
    go_cut [3] (fun v3 wx => ∃ (z : Int) (L1 : Nat), v3 = .int .i64 z ∧ z = (L1 : Int) ∧ L1 < 4611686018427387904 ∧ ∃ d1 : Array α, St2 wx d1 ∧ d1.size = n ∧ LS = pqH lt d1 a b L1 wb wp)
    case first =>
      cases wb with
      | true =>
        as_aux_lemma =>
        go_wp2_with fail
        go_meet
        case rel => exact ⟨_, L, rfl, rfl, hL, e, HS.out, hd, HL2.out⟩
      | false =>
        as_aux_lemma =>
        go_wp2_with fail
        refine (breakPatternsF_any HMF.out HS.out a b (by omega) (by omega) (by omega)).mono ?_
        rintro _ w1 ⟨rfl, hs1⟩
        clear HS
        go_wp2_with fail
        go_meet
        case rel => exact ⟨_, L - 1, rfl, by omega, by omega, _, hs1.out.1, hs1.out.2.trans hd, HL2.out⟩
    case rest =>
      obtain ⟨z, L1, rfl, rfl, hL1, d1, hs1, hd1, hl1⟩ := hcut
      have HS1 := hide hs1
      have c0HS1 := HM.out.c0 HS1
      have c1HS1 := HM.out.c1 HS1
      have HL3 := hide hl1
      clear hs1 hl1 HS HL2
      obtain ⟨⟨p, hint⟩, hcp⟩ : ∃ r, Sort.choosePivot lt d1 a b = r := ⟨_, rfl⟩
      have hpr : a ≤ p ∧ p < b := by have h1 := Sort.choosePivot_holds lt d1 a b (by omega); rw [hcp] at h1; exact h1
      have HL4 : Hid (LS = pqP lt (if hint = .decreasing then Sort.reverseRange d1 a b else d1) a b (if hint = .decreasing then (b - 1) - (p - a) else p) L1 (if hint = .decreasing then .increasing else hint) wb wp) := by
        show _ = _
        rw [HL3.out]
        unfold pqH
        rw [hcp]
      have HCP := hide hcp
      clear hcp HL3
      go_upto_if 50 with fail
      refine (choosePivotF_any HMF.out HS1.out a b p hint HCP.out (by omega) (by omega) (by omega)).mono ?_
      rintro _ w2 ⟨rfl, hs2⟩
      have c0w2 := HM.out.c0 (hide hs2.out.1)
      have c1w2 := HM.out.c1 (hide hs2.out.1)
      clear HS1 HCP
      go_upto_if 50 with fail
      go_cut [11, 12] (fun v11 v12 wx => ∃ (x y : Int) (pv : Nat) (h2 : Sort.Hint), v11 = .int .i64 x ∧ v12 = .int .i64 y ∧ x = (pv : Int) ∧ y = hcd h2 ∧ a ≤ pv ∧ pv < b ∧ ∃ d2 : Array α, St2 wx d2 ∧ d2.size = n ∧ LS = pqP lt d2 a b pv L1 h2 wb wp)
      case first =>
        by_cases hdec : hint = .decreasing
        · as_aux_lemma =>
          have gd : (hcd hint == 2) = true := by rw [hcd_2 hdec]; rfl
          have HL5 := HL4.out
          rw [if_pos hdec, if_pos hdec, if_pos hdec] at HL5
          have HL6 := hide HL5
          clear HL4 HL5 hdec
          go_wp2_with fail
          refine (reverseRangeF_any HMF.out hs2.out.1 a b (by omega) (by omega) (by omega)).mono ?_
          rintro _ w3 ⟨rfl, hs3⟩
          clear hs2
          go_wp2_with fail
          go_meet
          case rel => exact ⟨_, _, (b - 1) - (p - a), .increasing, rfl, rfl, by omega, rfl, by omega, by omega, _, hs3.out, (rev_size _ _ _ _ (Nat.le_refl _)).trans hd1, HL6.out⟩
        · as_aux_lemma =>
          have gd : (hcd hint == 2) = false := by have h1 := hcd_n2 hdec; simpa using h1
          have HL5 := HL4.out
          rw [if_neg hdec, if_neg hdec, if_neg hdec] at HL5
          have HL6 := hide HL5
          clear HL4 HL5 hdec
          go_wp2_with fail
          go_meet
          case rel => exact ⟨_, _, p, hint, rfl, rfl, rfl, rfl, hpr.1, hpr.2, d1, hs2.out.1, hd1, HL6.out⟩
      case rest =>
        obtain ⟨x, y, pv, h2, rfl, rfl, rfl, rfl, hp1, hp2, d2, hs3, hd2, hl3⟩ := hcut
        have HS3 := hide hs3
        have c0HS3 := HM.out.c0 HS3
        have c1HS3 := HM.out.c1 HS3
        have HL5 := hide hl3
        clear hs3 hl3 hs2 HL4 hpr
        go_upto_region 16 with fail
        go_cut [68] (fun v68 wx => ∃ c : Bool, v68 = .bool c ∧ Hid (c = (wb && wp && decide (h2 = .increasing))) ∧ Hid (St2 wx d2))
        case first =>
          cases wb with
          | false =>
            as_aux_lemma =>
            go_wp2_with fail
            go_meet
            case rel => exact ⟨false, rfl, rfl, HS3⟩
          | true =>
            cases wp with
            | false =>
              as_aux_lemma =>
              go_wp2_with fail
              go_meet
              case rel => exact ⟨false, rfl, rfl, HS3⟩
            | true =>
              by_cases hinc : h2 = .increasing
              · as_aux_lemma =>
                have gi : (hcd h2 == 1) = true := by rw [hcd_1 hinc]; rfl
                have HC : Hid (true = (true && true && decide (h2 = .increasing))) := by show _ = _; simp [hinc]
                clear hinc
                go_wp2_with fail
                go_meet
                case rel => exact ⟨true, rfl, HC, HS3⟩
              · as_aux_lemma =>
                have gi : (hcd h2 == 1) = false := by have h1 := hcd_n1 hinc; simpa using h1
                have HC : Hid (false = (true && true && decide (h2 = .increasing))) := by show _ = _; simp [hinc]
                clear hinc
                go_wp2_with fail
                go_meet
                case rel => exact ⟨false, rfl, HC, HS3⟩
        case rest =>
          obtain ⟨c, rfl, hc, hs4⟩ := hcut
          have c0hs4 := HM.out.c0 hs4
          have c1hs4 := HM.out.c1 hs4
          clear HS3
          obtain ⟨⟨d3', ok⟩, hpi⟩ : ∃ r, Sort.partialInsertionSort lt d2 a b = r := ⟨_, rfl⟩
          have HPI := hide hpi
          clear hpi
          go_upto_if 68 with fail
          go_cut [] (fun wx => ∃ d3 : Array α, St2 wx d3 ∧ d3.size = n ∧ LS = pqT lt d3 a b pv L1 wb wp)
          case first =>
            cases c with
            | false =>
              as_aux_lemma =>
              have HL6 : Hid (LS = pqT lt d2 a b pv L1 wb wp) := by
                show _ = _
                rw [HL5.out]
                unfold pqP
                rw [← hc.out]
                rfl
              clear HL5 hc
              go_wp2_with fail
              go_meet
              case rel => exact ⟨d2, hs4.out, hd2, HL6.out⟩
            | true =>
              as_aux_lemma =>
              have HL6 : Hid (LS = if ok then d3' else pqT lt d3' a b pv L1 wb wp) := by
                show _ = _
                rw [HL5.out]
                unfold pqP
                rw [← hc.out, if_pos rfl, HPI.out]
              clear HL5 hc
              go_wp2_with fail
              refine (partialInsertionSortF_any HMF.out hs4.out a b d3' ok HPI.out (by omega) (by omega) (by omega)).mono ?_
              rintro _ w4 ⟨rfl, hs5⟩
              clear hs4 HPI
              cases ok with
              | true =>
                have HE : Hid (St2 w4 LS ∧ LS.size = n) := by
                  show _ ∧ _
                  rw [HL6.out]
                  exact ⟨hs5.out.1, hs5.out.2.trans hd2⟩
                clear HL6 hs5
                go_wp2_with fail
                first
                  | (go_end0; exact ⟨rfl, HE⟩)
                  | exact bodyPost_ret (results_none rfl _ _ _) rfl ⟨rfl, HE⟩
              | false =>
                go_wp2_with fail
                go_meet
                case rel => exact ⟨d3', hs5.out.1, hs5.out.2.trans hd2, HL6.out⟩
          case rest =>
            obtain ⟨d3, hs5, hd3, hl6⟩ := hcut
            have HS5' := hide hs5
            have c0HS5p := HM.out.c0 HS5'
            have c1HS5p := HM.out.c1 HS5'
            have HL6 := hide hl6
            clear hs5 hl6 hs4 hc HPI HL5
            by_cases ha0 : 0 < a
            · have ga : (a : Int) > 0 := by omega
              go_wp2_with fail
              refine (HM.out.lz HS5' (a - 1) pv _ _ (by first | rfl | omega) (by first | rfl | omega) (by omega) (by omega)).mono ?_
              rintro _ w4 ⟨rfl, hsX⟩
              have c0w4 := HM.out.c0 hsX
              have c1w4 := HM.out.c1 hsX
              clear HS5'
              generalize hlv : lt d3[a - 1]! d3[pv]! = lv at *
              have HLV := hide hlv
              clear hlv
              cases lv with
              | false =>
                as_aux_lemma =>
                obtain ⟨⟨mid, d4⟩, hpt⟩ : ∃ r, Sort.partitionEqual lt d3 a b pv = r := ⟨_, rfl⟩
                have HPT := hide hpt
                clear hpt
                go_wp2_with fail
                refine (partitionEqualF_any HMF.out hsX.out a b pv mid d4 HPT.out (by omega) (by omega) (by omega) (by omega)).mono ?_
                rintro _ w5 ⟨rfl, h5⟩
                obtain ⟨hs6, hm1, hm2, hd5⟩ := h5.out
                have HS6 := hide hs6
                have c0HS6 := HM.out.c0 HS6
                have c1HS6 := HM.out.c1 HS6
                have HL9 := hide (HL6.out.trans (pqT_eq lt ha0 HLV.out HPT.out hm1 hm2))
                clear hsX hs6 h5 HL6 HPT HLV
                go_wp2_with fail
                go_roundg (b - mid)
                case measure => omega
                case rel => exact ⟨_, _, _, mid, b, L1, wb, wp, rfl, rfl, rfl, rfl, rfl, by first | rfl | omega, by first | rfl | omega, by first | rfl | omega, by omega, by omega, hL1, by omega, Nat.le_refl _, d4, HS6.out, by omega, HL9.out⟩
              | true =>
                have HNE : Hid (¬ (0 < a ∧ lt d3[a - 1]! d3[pv]! = false)) := fun h => by have h1 := HLV.out; rw [h1] at h; cases h.2
                clear HLV
                obtain ⟨⟨mid, ap, d4⟩, hpt⟩ : ∃ r, Sort.partition lt d3 a b pv = r := ⟨_, rfl⟩
                have HPT := hide hpt
                clear hpt
                go_wp2_with fail
                refine (partitionF_any HMF.out hsX.out a b pv mid ap d4 HPT.out (by omega) (by omega) (by omega) (by omega)).mono ?_
                rintro _ w5 ⟨rfl, h5⟩
                obtain ⟨hs5, hm1, hm2, hd5⟩ := h5.out
                have HS5 := hide hs5
                have c0HS5 := HM.out.c0 HS5
                have c1HS5 := HM.out.c1 HS5
                clear hsX hs5 h5
                by_cases hlr : mid - a < b - mid
                · as_aux_lemma =>
                  have glr : (mid : Int) - (a : Int) < (b : Int) - (mid : Int) := by omega
                  have HL9 := hide (HL6.out.trans (pqT_l lt HNE.out HPT.out hm1 hm2 hlr))
                  clear HL6 HPT HNE
                  go_wp2_with fail
                  refine (HI.out w5 d4 a mid L1 _ _ _ HS5 (by first | rfl | omega) (by first | rfl | omega) (by first | rfl | omega) (by omega) hm1 (by omega) (by omega) hL1).mono ?_
                  rintro _ w6 ⟨rfl, h6⟩
                  have c0w6 := HM.out.c0 (hide h6.out.1)
                  have c1w6 := HM.out.c1 (hide h6.out.1)
                  clear HS5
                  go_wp2_with fail
                  go_roundg (b - (mid + 1))
                  case measure => omega
                  case rel => exact ⟨_, _, _, mid + 1, b, L1, decide (mid - a ≥ (b - a) / 8), ap, rfl, rfl, rfl, congrArg Value.bool (decide_eq_decide.2 (by omega)), rfl, by omega, by first | rfl | omega, by first | rfl | omega, by omega, by omega, hL1, by omega, Nat.le_refl _, _, h6.out.1, by rw [h6.out.2]; omega, HL9.out⟩
                · as_aux_lemma =>
                  have glr : ¬ ((mid : Int) - (a : Int) < (b : Int) - (mid : Int)) := by omega
                  have HL9 := hide (HL6.out.trans (pqT_r lt HNE.out HPT.out hm1 hm2 hlr))
                  clear HL6 HPT HNE
                  go_wp2_with fail
                  refine (HI.out w5 d4 (mid + 1) b L1 _ _ _ HS5 (by first | rfl | omega) (by first | rfl | omega) (by first | rfl | omega) (by omega) (by omega) (by omega) (by omega) hL1).mono ?_
                  rintro _ w6 ⟨rfl, h6⟩
                  have c0w6 := HM.out.c0 (hide h6.out.1)
                  have c1w6 := HM.out.c1 (hide h6.out.1)
                  clear HS5
                  go_wp2_with fail
                  go_roundg (mid - a)
                  case measure => omega
                  case rel => exact ⟨_, _, _, a, mid, L1, decide (b - mid ≥ (b - a) / 8), ap, rfl, rfl, rfl, congrArg Value.bool (decide_eq_decide.2 (by omega)), rfl, by first | rfl | omega, by first | rfl | omega, by first | rfl | omega, by omega, by omega, hL1, by omega, Nat.le_refl _, _, h6.out.1, by rw [h6.out.2]; omega, HL9.out⟩
            · have ga : ¬ ((a : Int) > 0) := by omega
              have gab : decide ((a : Int) > 0) = false := decide_eq_false ga
              have HNE : Hid (¬ (0 < a ∧ lt d3[a - 1]! d3[pv]! = false)) := fun h => ha0 h.1
              have hsX := HS5'
              clear HS5' ha0
              obtain ⟨⟨mid, ap, d4⟩, hpt⟩ : ∃ r, Sort.partition lt d3 a b pv = r := ⟨_, rfl⟩
              have HPT := hide hpt
              clear hpt
              go_wp2_with fail
              refine (partitionF_any HMF.out hsX.out a b pv mid ap d4 HPT.out (by omega) (by omega) (by omega) (by omega)).mono ?_
              rintro _ w5 ⟨rfl, h5⟩
              obtain ⟨hs5, hm1, hm2, hd5⟩ := h5.out
              have HS5 := hide hs5
              have c0HS5 := HM.out.c0 HS5
              have c1HS5 := HM.out.c1 HS5
              clear hsX hs5 h5
              by_cases hlr : mid - a < b - mid
              · as_aux_lemma =>
                have glr : (mid : Int) - (a : Int) < (b : Int) - (mid : Int) := by omega
                have HL9 := hide (HL6.out.trans (pqT_l lt HNE.out HPT.out hm1 hm2 hlr))
                clear HL6 HPT HNE
                go_wp2_with fail
                refine (HI.out w5 d4 a mid L1 _ _ _ HS5 (by first | rfl | omega) (by first | rfl | omega) (by first | rfl | omega) (by omega) hm1 (by omega) (by omega) hL1).mono ?_
                rintro _ w6 ⟨rfl, h6⟩
                have c0w6 := HM.out.c0 (hide h6.out.1)
                have c1w6 := HM.out.c1 (hide h6.out.1)
                clear HS5
                go_wp2_with fail
                go_roundg (b - (mid + 1))
                case measure => omega
                case rel => exact ⟨_, _, _, mid + 1, b, L1, decide (mid - a ≥ (b - a) / 8), ap, rfl, rfl, rfl, congrArg Value.bool (decide_eq_decide.2 (by omega)), rfl, by omega, by first | rfl | omega, by first | rfl | omega, by omega, by omega, hL1, by omega, Nat.le_refl _, _, h6.out.1, by rw [h6.out.2]; omega, HL9.out⟩
              · as_aux_lemma =>
                have glr : ¬ ((mid : Int) - (a : Int) < (b : Int) - (mid : Int)) := by omega
                have HL9 := hide (HL6.out.trans (pqT_r lt HNE.out HPT.out hm1 hm2 hlr))
                clear HL6 HPT HNE
                go_wp2_with fail
                refine (HI.out w5 d4 (mid + 1) b L1 _ _ _ HS5 (by first | rfl | omega) (by first | rfl | omega) (by first | rfl | omega) (by omega) (by omega) (by omega) (by omega) hL1).mono ?_
                rintro _ w6 ⟨rfl, h6⟩
                have c0w6 := HM.out.c0 (hide h6.out.1)
                have c1w6 := HM.out.c1 (hide h6.out.1)
                clear HS5
                go_wp2_with fail
                go_roundg (mid - a)
                case measure => omega
                case rel => exact ⟨_, _, _, a, mid, L1, decide (b - mid ≥ (b - a) / 8), ap, rfl, rfl, rfl, congrArg Value.bool (decide_eq_decide.2 (by omega)), rfl, by first | rfl | omega, by first | rfl | omega, by first | rfl | omega, by omega, by omega, hL1, by omega, Nat.le_refl _, _, h6.out.1, by rw [h6.out.2]; omega, HL9.out⟩
theorem pdqF_any {α : Type} [Inhabited α] {gl gs : FuncId} {lb sb : Array Value} {lt : α → α → Bool} : ∀ K, PdF gl gs lb sb lt K
  | 0 => fun _ _ _ _ _ _ _ _ _ _ _ _ _ _ _ h => by omega
  | K + 1 => pdqF_step K (pdqF_any K)
end
section
open Go.RowKit Go
theorem perm_of_in {α : Type} [Inhabited α] {d d' : Array α} (h : Sort.PermIn 0 d.size d d') : d'.toList.Perm d.toList := by
  have h3 := h.2.2
  have e1 : d.extract 0 d.size = d := by simp
  have e2 : d'.extract 0 d.size = d' := by rw [← h.1]; simp
  rw [e1, e2] at h3
  exact h3
def Srd {α : Type} [Inhabited α] (lt : α → α → Bool) (d d' : Array α) : Prop := d'.size = d.size ∧ d'.toList.Perm d.toList ∧ Sort.SortedIn lt 0 d.size d'
theorem pdq_whole {α : Type} [Inhabited α] {lt : α → α → Bool} (hO : Sort.SWO lt) (d : Array α) (L : Nat) : Srd lt d (Sort.pdq lt d 0 d.size L true true) := by
  have h := Sort.pdq_sorts lt hO d 0 d.size L true true (Nat.zero_le _) (Nat.le_refl _) (.inl rfl)
  exact ⟨h.1.1, perm_of_in h.1, h.2⟩
end
section
open Go.RowKit Go.Lib Go
theorem pdqF_whole {α : Type} [Inhabited α] {gl gs : FuncId} {lb sb : Array Value} {lt : α → α → Bool} {M : Nat} {St : World → Array α → Prop} (hM : Srf gl gs lb sb lt M St) (hO : Sort.SWO lt) {w : World} {d : Array α} (h : Hid (St w d)) (L : Nat) (hL : L < 4611686018427387904) (hsz : d.size < 4611686018427387904) : Calls Tryz.prog 62 #[.agg (lsw gl gs lb sb), .int .i64 0, .int .i64 (d.size : Nat), .int .i64 (L : Nat)] w fun e w' => e = .returned (.tuple #[]) ∧ Hid (∃ d', St w' d' ∧ Srd lt d d') :=
  (pdqF_any (d.size + 1) M St hM w d 0 d.size L 0 _ _ h rfl rfl rfl (by omega) (Nat.zero_le _) (Nat.le_refl _) hsz hL).mono fun _ _ ⟨h1, h2⟩ => ⟨h1, _, h2.out.1, pdq_whole hO d L⟩
theorem infoLkS : ∃ i, Tryz.prog.info? 68 = some i ∧ i.desc = .slice 38 := by
  have h : (Tryz.prog.info? 68).map (fun i => i.desc) = some (.slice 38) := by kernel_rfl
  cases hi : Tryz.prog.info? 68 with
  | none => rw [hi] at h; cases h
  | some i =>
    rw [hi] at h
    injection h with h
    exact ⟨i, rfl, h⟩
theorem infoLkE : ∃ ie, Tryz.prog.info? 38 = some ie ∧ ie.hasPointers = true ∧ ie.bytes = 40 ∧ ie.size = 4 := by
  have h : (Tryz.prog.info? 38).map (fun i => (i.hasPointers, i.bytes, i.size)) = some (true, 40, 4) := by kernel_rfl
  cases hi : Tryz.prog.info? 38 with
  | none => rw [hi] at h; cases h
  | some i =>
    rw [hi] at h
    injection h with h
    injection h with h1 h2
    injection h2 with h2 h3
    exact ⟨i, rfl, h1, h2, h3⟩
theorem slice9_any {α : Type} [Inhabited α] {gl gs : FuncId} {lb sb : Array Value} {lt : α → α → Bool} {M : Nat} {St : World → Array α → Prop} (hM : Srf gl gs lb sb lt M St) (hO : Sort.SWO lt) {w : World} {d : Array α} (h : Hid (St w d)) (p : Option Addr) (c : Nat) (hsz : d.size < 4611686018427387904)
    (hs : (d.size = 0 ∧ gs = 85 ∧ sb = #[]) ∨ (d.size = 1 ∧ gs = 86 ∧ sb = #[]) ∨ (2 ≤ d.size ∧ gs = 93 ∧ sb = #[.slice p d.size c, typeHandle Tryz.prog 38])) :
    Calls Tryz.prog 38 #[.iface 68 (.slice p d.size c), .func (.func gl) #[] lb] w fun e w' => e = .returned (.tuple #[]) ∧ Hid (∃ d', St w' d' ∧ Srd lt d d') := by
  obtain ⟨i, hi, hd⟩ := infoLkS
  obtain ⟨ie, hie, hp, hb, hz⟩ := infoLkE
  have hk : Lib.swapperK d.size ie 25 = (if d.size == 0 then 1 else if d.size == 1 then 2 else 9) := by
    unfold Lib.swapperK
    simp [hp, hb]
  have hbl : sliceBound Tryz.prog 38 ie 25 p d.size c = sb := by
    unfold sliceBound
    rw [hk]
    rcases hs with ⟨h1, -, h3⟩ | ⟨h1, -, h3⟩ | ⟨h1, -, h3⟩
    · rw [h3, h1]; rfl
    · rw [h3, h1]; rfl
    · rw [h3, beq_eq_false_iff_ne.2 (show d.size ≠ 0 by omega), beq_eq_false_iff_ne.2 (show d.size ≠ 1 by omega)]; rfl
  refine Any.sort_Slice_of_pdq Tryz.laysSlice 68 38 i ie hi hd (by kernel_rfl) hie 25 (fun _ => by kernel_rfl) p d.size c hsz gs ?_ (.func gl) #[] lb w _ ?_
  · rw [hk]
    rcases hs with ⟨h1, h2, -⟩ | ⟨h1, h2, -⟩ | ⟨h1, h2, -⟩
    · rw [h1, h2]; kernel_rfl
    · rw [h1, h2]; kernel_rfl
    · rw [h2, beq_eq_false_iff_ne.2 (show d.size ≠ 0 by omega), beq_eq_false_iff_ne.2 (show d.size ≠ 1 by omega)]; kernel_rfl
  · rw [hbl]
    have hL : Lib.bitLen d.size < 4611686018427387904 := Nat.lt_of_le_of_lt (Lib.bitLen_le d.size 62 (by omega) (by omega)) (by omega)
    have h1 := hM.on h.out (below_allocS w (.cells #[.slice p d.size c] 68))
    have h2 := hM.on h1 (below_allocS _ (.cells #[.pointer (some ⟨Tryz.prog.globals.size, 68, none⟩), .pointer (some ⟨w.heap.size, 0, none⟩), .int .u64 151] (Tryz.laysSlice_ren.t 35)))
    exact pdqF_whole hM hO h2 _ hL hsz
end
section
open Go.RowKit Go
theorem links1_any (w : World) (lx blk n c : Nat) (ls : Nat → Lk) (hlx : w.heap[lx]? = some (.cells #[.slice (some ⟨blk, 0, none⟩) n c] 68 (0, 0))) (hc : ∀ i, i < n → ∀ k u, (lcs (ls i))[k]? = some u → w.cell? ⟨blk, i * 4 + k, none⟩ = some u) (hb : ∀ i, i < n → Lkb (ls i)) (i j : Nat) (hi : i < n) (hj : j < n) : Calls Tryz.prog 39 #[.int .i64 (i : Nat), .int .i64 (j : Nat), .pointer (some ⟨lx, 0, none⟩)] w fun e w' => e = .returned (.bool (llt (ls i) (ls j))) ∧ Below w.heap.size w w' := by
  have HQ0 : Hid (∀ w', (∃ t : Ext w, w' = t.w') → w'.cell? ⟨lx, 0, none⟩ = some (.slice (some ⟨blk, 0, none⟩) n c)) := fun w' ⟨t, e⟩ => by
    rw [e]
    exact keep_below t.h _ _ (blk_cell (j := 0) hlx rfl)
  have HQ1 : Hid (∀ w', (∃ t : Ext w, w' = t.w') → ∀ k u, (lcs (ls i))[k]? = some u → w'.cell? ⟨blk, i * 4 + k, none⟩ = some u) := fun w' ⟨t, e⟩ k u h => by
    rw [e]
    exact keep_below t.h _ _ (hc i hi k u h)
  have HQ2 : Hid (∀ w', (∃ t : Ext w, w' = t.w') → ∀ k u, (lcs (ls j))[k]? = some u → w'.cell? ⟨blk, j * 4 + k, none⟩ = some u) := fun w' ⟨t, e⟩ k u h => by
    rw [e]
    exact keep_below t.h _ _ (hc j hj k u h)
  have f0 : ∀ t : Ext w, t.w'.cell? ⟨lx, 0, none⟩ = some (.slice (some ⟨blk, 0, none⟩) n c) := fun t => HQ0.out _ ⟨t, rfl⟩
  have HCH : Hid (∀ t : Ext w, Calls Tryz.prog 23 #[.agg (lcs (ls i)), .agg (lcs (ls j))] t.w' fun e w'' => e = .returned (.bool (llt (ls i) (ls j))) ∧ ∃ t' : Ext w, w'' = t'.w') := fun t => Calls.ext_below (less4_any t.w' (ls i) (ls j) (hb i hi) (hb j hj))
  have gi : (i : Int) < (n : Int) := by omega
  have gj : (j : Int) < (n : Int) := by omega
  clear hlx hc hb
  generalize llt (ls i) (ls j) = R at *
  go_enter Tryz.func39, Tryz.ntmps39
  go_upto_region 1 with fail
  refine region_ext (by kernel_rfl) (by kernel_rfl) ?_
  repeat (
    with_reducible refine wpQuiet_step (fun K hK => ?_)
    first
      | (refine qstep_lkAt rfl rfl blk (i * 4) (ls i) rfl HQ1.out (hK _ ?_); clear hK K)
      | (refine qstep_lkAt rfl rfl blk (j * 4) (ls j) rfl HQ2.out (hK _ ?_); clear hK K)
      | (go_simp
         first
           | (with_reducible refine hK _ ?_; clear hK K)
           | (apply Exists.intro
              refine ⟨fun _ => ?_, hK _ ?_⟩
              (go_at_call 23; exact HCH.out _)
              clear hK K)))
  refine wpQuiet_nil ?_
  rintro _ ⟨tq, rfl⟩
  have HB := hide tq.h
  go_wp2_with fail
  go_ret
  exact ⟨rfl, HB.out⟩
end
section
open Go.RowKit Go.Lib Go
instance : Inhabited Lk := ⟨Lk.none⟩
theorem setCells_blk {b : Nat} {T : TypeId} : ∀ (vs : List Value) (o : Nat) (w : World) (cur : Array Value), w.heap[b]? = some (.cells cur T (0, 0)) → ∃ cur', (w.setCells b o vs).heap[b]? = some (.cells cur' T (0, 0)) ∧ cur'.size = cur.size ∧ (∀ q, o + vs.length ≤ cur.size → cur'[q]? = if o ≤ q ∧ q < o + vs.length then vs[q - o]? else cur[q]?) ∧ Kp (fun q => q = b) w (w.setCells b o vs)
  | [], o, w, cur, h => ⟨cur, h, rfl, fun q _ => by rw [if_neg (by simp)], Kp.refl _ _⟩
  | v :: r, o, w, cur, h => by
    obtain ⟨cur', h1, h2, h3, h4⟩ := setCells_blk r (o + 1) (w.setCell ⟨b, o, none⟩ v) _ (blk_set o v h)
    refine ⟨cur', h1, by rw [h2]; simp, fun q hq => ?_, ((Kp.refl (fun q => q = b) w).setCell ⟨b, o, none⟩ v (fun _ => rfl)).trans h4 (fun _ _ e => e)⟩
    rw [h3 q (by simp at hq ⊢; omega), Array.getElem?_setIfInBounds]
    simp only [List.length_cons] at hq ⊢
    by_cases hqo : q = o
    · subst hqo
      rw [if_neg (by omega), if_pos rfl, if_pos (by omega), if_pos (by omega)]
      simp
    · by_cases hr : o + 1 ≤ q ∧ q < o + 1 + r.length
      · rw [if_pos hr, if_pos (by omega), show q - o = (q - (o + 1)) + 1 by omega]
        rfl
      · rw [if_neg hr, if_neg (fun e => hqo e.symm), if_neg (by omega)]
theorem lcs_size (l : Lk) : (lcs l).size = 4 := rfl
theorem lcs_one (l : Lk) : ∀ v ∈ (lcs l).toList, v.oneCell' = true := by
  intro v hv
  simp only [lcs, List.mem_cons, List.not_mem_nil, or_false] at hv
  rcases hv with rfl | rfl | rfl | rfl <;> rfl
structure LkS (w0 : World) (blk lx n c : Nat) (w : World) (d : Array Lk) : Prop where
  r : ∃ cur, w.heap[blk]? = some (.cells cur 38 (0, 0)) ∧ cur.size = c * 4 ∧ ∀ i, i < n → ∀ k u, (lcs d[i]!)[k]? = some u → cur[i * 4 + k]? = some u
  nc : n ≤ c
  b : w.heap[lx]? = some (.cells #[.slice (some ⟨blk, 0, none⟩) n c] 68 (0, 0))
  k : Kp (fun q => q = blk) w0 w
  s : d.size = n
  g : ∀ i, i < n → Lkb d[i]! ∧ lok d[i]!
section
variable {w0 : World} {blk lx n c : Nat}
theorem LkS.keep {w w' : World} {d : Array Lk} (h : LkS w0 blk lx n c w d) (hbk : blk < w0.heap.size) (hlx : lx < w0.heap.size) (hb : Below w0.heap.size w w') : LkS w0 blk lx n c w' d := by
  obtain ⟨⟨cur, h1, h2, h3⟩, hc, hB, hK, hs, hg⟩ := h
  exact ⟨⟨cur, (hb.block _ hbk).trans h1, h2, h3⟩, hc, (hb.block _ hlx).trans hB, ⟨hb.os.trans hK.os, hb.tape.trans hK.tape, hb.output.trans hK.output, Nat.le_trans hK.size hb.size, fun k hk hn => (hb.block k hk).trans (hK.block k hk hn)⟩, hs, hg⟩
theorem LkS.cells {w : World} {d : Array Lk} (h : LkS w0 blk lx n c w d) : ∀ i, i < n → ∀ k u, (lcs d[i]!)[k]? = some u → w.cell? ⟨blk, i * 4 + k, none⟩ = some u := fun i hi k u hu => by
  obtain ⟨cur, h1, _, h3⟩ := h.r
  exact blk_cell h1 (h3 i hi k u hu)
theorem swp_at {d : Array Lk} {i j m : Nat} (hi : i < d.size) (hj : j < d.size) : (Sort.swp d i j)[m]! = if m = j then d[i]! else if m = i then d[j]! else d[m]! := by
  unfold Sort.swp
  by_cases h1 : m = j
  · subst h1
    rw [if_pos rfl]
    simp [getElem!_pos, hj]
  · rw [if_neg h1]
    by_cases h2 : m = i
    · subst h2
      rw [if_pos rfl]
      simp [getElem!_pos, hi, Ne.symm h1, hj]
    · rw [if_neg h2]
      simp [getElem!_def, Ne.symm h1, Ne.symm h2]
theorem LkS.swap {w : World} {d : Array Lk} (h : LkS w0 blk lx n c w d) (hne : lx ≠ blk) (i j : Nat) (hi : i < n) (hj : j < n) : LkS w0 blk lx n c ((w.setCells blk (i * 4) (lcs d[j]!).toList).setCells blk (j * 4) (lcs d[i]!).toList) (Sort.swp d i j) ∧ Kp (fun q => q = blk) w ((w.setCells blk (i * 4) (lcs d[j]!).toList).setCells blk (j * 4) (lcs d[i]!).toList) := by
  obtain ⟨⟨cur, h1, h2, h3⟩, hc, hB, hK, hs, hg⟩ := h
  obtain ⟨c1, a1, a2, a3, a4⟩ := setCells_blk (lcs d[j]!).toList (i * 4) w cur h1
  obtain ⟨c2, b1, b2, b3, b4⟩ := setCells_blk (lcs d[i]!).toList (j * 4) _ c1 a1
  have l1 : ∀ l : Lk, (lcs l).toList.length = 4 := fun _ => rfl
  simp only [l1] at a3 b3
  have hk : Kp (fun q => q = blk) w ((w.setCells blk (i * 4) (lcs d[j]!).toList).setCells blk (j * 4) (lcs d[i]!).toList) := a4.trans b4 (fun _ _ e => e)
  refine ⟨⟨⟨c2, b1, by omega, fun m hm k u hu => ?_⟩, hc, (hk.block _ (blk_lt hB) hne).trans hB, hK.trans hk (fun _ _ e => e), by rw [swp_size]; exact hs, fun m hm => ?_⟩, hk⟩
  · have hk4 : k < 4 := by
      have := (Array.getElem?_eq_some_iff.1 hu).1
      rwa [lcs_size] at this
    rw [swp_at (by omega) (by omega)] at hu
    rw [b3 _ (by omega)]
    by_cases hmj : m = j
    · subst hmj
      rw [if_pos rfl] at hu
      rw [if_pos (by omega), show m * 4 + k - m * 4 = k by omega]
      simpa using hu
    · rw [if_neg hmj] at hu
      rw [if_neg (by omega), a3 _ (by omega)]
      by_cases hmi : m = i
      · subst hmi
        rw [if_pos rfl] at hu
        rw [if_pos (by omega), show m * 4 + k - m * 4 = k by omega]
        simpa using hu
      · rw [if_neg hmi] at hu
        rw [if_neg (by omega)]
        exact h3 m hm k u hu
  · rw [swp_at (by omega) (by omega)]
    split
    · exact hg i hi
    · split
      · exact hg j hj
      · exact hg m hm
end
end
section
open Go.RowKit Go.Lib Go
def lxl : List Nat → List Nat → Bool
  | _, [] => false
  | [], _ :: _ => true
  | x :: r, y :: q => if x = y then lxl r q else decide (x < y)
theorem lxl_self : ∀ x, lxl x x = false
  | [] => rfl
  | x :: r => by rw [lxl, if_pos rfl, lxl_self r]
theorem lxl_tr : ∀ x y z, lxl x y = true → lxl y z = true → lxl x z = true
  | _, [], _, h, _ => by simp [lxl] at h
  | _, _ :: _, [], _, h => by simp [lxl] at h
  | [], _ :: _, _ :: _, _, _ => rfl
  | x :: r, y :: q, z :: p, h1, h2 => by
    simp only [lxl] at h1 h2 ⊢
    by_cases e1 : x = y
    · subst e1
      rw [if_pos rfl] at h1
      by_cases e2 : x = z
      · subst e2
        rw [if_pos rfl] at h2 ⊢
        exact lxl_tr r q p h1 h2
      · rw [if_neg e2] at h2 ⊢
        exact h2
    · rw [if_neg e1] at h1
      by_cases e2 : y = z
      · subst e2
        rw [if_neg e1]
        exact h1
      · rw [if_neg e2] at h2
        have h3 := of_decide_eq_true h1
        have h4 := of_decide_eq_true h2
        rw [if_neg (by omega)]
        exact decide_eq_true (by omega)
theorem lxl_nt : ∀ x y z, lxl x y = false → lxl y z = false → lxl x z = false
  | x, _, [], _, _ => by cases x <;> rfl
  | [], [], _ :: _, _, h => by simp [lxl] at h
  | [], _ :: _, _ :: _, h, _ => by simp [lxl] at h
  | _ :: _, [], _ :: _, _, h => by simp [lxl] at h
  | x :: r, y :: q, z :: p, h1, h2 => by
    simp only [lxl] at h1 h2 ⊢
    by_cases e1 : x = y
    · subst e1
      rw [if_pos rfl] at h1
      by_cases e2 : x = z
      · subst e2
        rw [if_pos rfl] at h2 ⊢
        exact lxl_nt r q p h1 h2
      · rw [if_neg e2] at h2 ⊢
        exact h2
    · rw [if_neg e1] at h1
      by_cases e2 : y = z
      · subst e2
        rw [if_neg e1]
        exact h1
      · rw [if_neg e2] at h2
        have h3 := of_decide_eq_false h1
        have h4 := of_decide_eq_false h2
        rw [if_neg (by omega)]
        exact decide_eq_false (by omega)
theorem blt_lxl : ∀ (x y : List Nat), (∀ r, x ++ r = y → r = []) → blt x y = lxl x y
  | [], [], _ => rfl
  | [], y :: q, h => by have := h (y :: q) rfl; cases this
  | x :: r, [], _ => rfl
  | x :: r, y :: q, h => by
    simp only [blt, lxl]
    by_cases e : x = y
    · subst e
      rw [if_pos rfl, if_pos rfl]
      exact blt_lxl r q (fun s hs => h s (by rw [List.cons_append, hs]))
    · rw [if_neg e, if_neg e]
def lkt (a b : Lk) : Bool := lxl (lbytes a) (lbytes b)
theorem lkt_swo : Sort.SWO lkt where
  irrefl _ := lxl_self _
  trans _ _ _ h1 h2 := lxl_tr _ _ _ h1 h2
  ntrans _ _ _ h1 h2 := lxl_nt _ _ _ h1 h2
theorem llt_lkt {a b : Lk} (ha : lok a) (hb : lok b) : llt a b = lkt a b := by
  unfold llt lrow lkt
  rw [decide_eq_true ha, decide_eq_true hb, if_pos ha, if_pos hb, blt_lxl _ _ (fun r hr => (lbytes_free ha hb hr).2)]
  rfl
section
variable {w0 : World} {blk lx n c : Nat}
theorem LkS.srf (hbk : blk < w0.heap.size) (hlx : lx < w0.heap.size) {gs : FuncId} {sb : Array Value} (hsw : ∀ (w : World) (d : Array Lk) (i j : Nat), LkS w0 blk lx n c w d → i < n → j < n → ∃ w', (callFunc gs (#[.int .i64 (i : Nat), .int .i64 (j : Nat)] ++ sb)).run Tryz.prog w = .ok (.value (.tuple #[])) w' ∧ LkS w0 blk lx n c w' (Sort.swp d i j) ∧ Kp (fun q => q < w0.heap.size) w w') : Srf 39 gs #[.pointer (some ⟨lx, 0, none⟩)] sb lkt w0.heap.size (LkS w0 blk lx n c) where
  el := enters_of Tryz.func39 (by kernel_rfl) rfl
  low h := h.k.size
  keep h hb := h.keep hbk hlx hb
  less {w d} i j h hi hj := by
    rw [h.s] at hi hj
    have h1 := links1_any w lx blk n c (fun i => d[i]!) h.b h.cells (fun i hi => (h.g i hi).1) i j hi hj
    rw [← llt_lkt (h.g i hi).2 (h.g j hj).2]
    exact h1
  swap i j h hi hj := hsw _ _ i j h (by rw [← h.s]; exact hi) (by rw [← h.s]; exact hj)
theorem LkS.swap9 (hbk : blk < w0.heap.size) (hne : lx ≠ blk) (w : World) (d : Array Lk) (i j : Nat) (h : LkS w0 blk lx n c w d) (hi : i < n) (hj : j < n) : ∃ w', (callFunc 93 (#[.int .i64 (i : Nat), .int .i64 (j : Nat)] ++ #[.slice (some ⟨blk, 0, none⟩) n c, typeHandle Tryz.prog 38])).run Tryz.prog w = .ok (.value (.tuple #[])) w' ∧ LkS w0 blk lx n c w' (Sort.swp d i j) ∧ Kp (fun q => q < w0.heap.size) w w' := by
  obtain ⟨ie, hie, -, -, hz⟩ := infoLkE
  obtain ⟨hs, hk⟩ := h.swap hne i j hi hj
  refine ⟨_, ?_, hs, hk.mono (fun q _ e => by rw [e]; exact hbk)⟩
  obtain ⟨cur, h1, -, -⟩ := h.r
  have hr := run_swap_cells (P := Tryz.prog) false 38 ie hie (fun w => by
    unfold isAgg
    rw [Sem.run_bind, run_underlying Tryz.underlying38 w]
    simp) blk 0 n c i j hi hj (lcs d[i]!).toList (lcs d[j]!).toList (by rw [hz]; rfl) (by rw [hz]; rfl) (lcs_one _) (lcs_one _) w
    (fun k v hv => by rw [hz, Nat.zero_add]; exact h.cells i hi k v (by simpa using hv)) (fun k v hv => by rw [hz, Nat.zero_add]; exact h.cells j hj k v (by simpa using hv))
    (fun k _ => blk_frozen _ h1) (fun k _ => blk_frozen _ h1)
  rw [hz, Nat.zero_add, Nat.zero_add] at hr
  rw [run_callFunc_extern Tryz.func93 (by kernel_rfl) (by kernel_rfl) (by kernel_rfl) (e := Extern.ReflectliteSwapper.swap false) (by kernel_rfl)]
  show (Sem.run Tryz.prog (Extern.ReflectliteSwapper.swap false #[.int .i64 (i : Nat), .int .i64 (j : Nat), .slice (some ⟨blk, 0, none⟩) n c, typeHandle Tryz.prog 38]) w).andThen _ = _
  rw [hr]
  rfl
theorem LkS.swap2 (w : World) (d : Array Lk) (i j : Nat) (h : LkS w0 blk lx 1 c w d) (hi : i < 1) (hj : j < 1) : ∃ w', (callFunc 86 (#[.int .i64 (i : Nat), .int .i64 (j : Nat)] ++ #[])).run Tryz.prog w = .ok (.value (.tuple #[])) w' ∧ LkS w0 blk lx 1 c w' (Sort.swp d i j) ∧ Kp (fun q => q < w0.heap.size) w w' := by
  obtain rfl : i = 0 := by omega
  obtain rfl : j = 0 := by omega
  refine ⟨w, ?_, ?_, Kp.refl _ _⟩
  · rw [run_callFunc_extern Tryz.func86 (by kernel_rfl) (by kernel_rfl) (by kernel_rfl) (e := fun | #[.int .i64 0, .int .i64 0] => pure (.tuple #[]) | _ => Extern.ReflectliteSwapper.outOfRange) (by kernel_rfl)]
    rfl
  · have hd : Sort.swp d 0 0 = d := by
      have hs := h.s
      apply Array.ext
      · simp [Sort.swp]
      · intro k h1 h2
        obtain rfl : k = 0 := by omega
        simp [Sort.swp, getElem!_pos, hs]
    rw [hd]
    exact h
end
end
section
open Go.RowKit Go
theorem lfl_get {ls : List Lk} {i k : Nat} {u : Value} {l : Lk} (hl : ls[i]? = some l) (hu : (lcs l)[k]? = some u) : (lfl ls)[i * 4 + k]? = some u :=
  gfl_get (n := 4) (fun c hc => by obtain ⟨x, _, rfl⟩ := List.mem_map.1 hc; rfl) i (lcs l) k u (by rw [List.getElem?_map, hl]; rfl) hu
theorem lfl_len (ls : List Lk) : (lfl ls).length = ls.length * 4 := by
  unfold lfl
  rw [gfl_len (k := 4) (fun c hc => by obtain ⟨x, _, rfl⟩ := List.mem_map.1 hc; rfl), List.length_map]
theorem lfl_ext {cur : Array Value} {ls : List Lk} (hs : ls.length * 4 ≤ cur.size) (h : ∀ i l, ls[i]? = some l → ∀ k u, (lcs l)[k]? = some u → cur[i * 4 + k]? = some u) : cur.toList.take (ls.length * 4) = lfl ls := by
  apply List.ext_getElem?
  intro q
  by_cases hq : q < ls.length * 4
  · obtain ⟨l, hl⟩ : ∃ l, ls[q / 4]? = some l := ⟨ls[q / 4]'(by omega), List.getElem?_eq_getElem (by omega)⟩
    obtain ⟨u, hu⟩ : ∃ u, (lcs l)[q % 4]? = some u := ⟨(lcs l)[q % 4]'(by rw [lcs_size]; omega), Array.getElem?_eq_getElem (by rw [lcs_size]; omega)⟩
    have e : q = q / 4 * 4 + q % 4 := by omega
    have h1 := h _ _ hl _ _ hu
    have h2 := lfl_get hl hu
    rw [← e] at h1 h2
    rw [h2, List.getElem?_take, if_pos hq]
    simpa using h1
  · rw [List.getElem?_eq_none (by simp; omega), List.getElem?_eq_none (by rw [lfl_len]; omega)]
theorem toArr_at {ls : List Lk} {i : Nat} {l : Lk} (h : ls[i]? = some l) : ls.toArray[i]! = l := by
  obtain ⟨hi, rfl⟩ := List.getElem?_eq_some_iff.1 h
  simp [getElem!_pos, hi]
theorem at_toList {d : Array Lk} {i : Nat} (hi : i < d.size) : d.toList[i]? = some d[i]! := by
  rw [Array.getElem?_toList, getElem!_pos d i hi]
  simp [hi]
theorem lks_of {w : World} {base n c blk lx : Nat} {ss : List Lk} (ho : w.ownsRow base 38 4 (.slice (some ⟨blk, 0, none⟩) n c) ss.length (lfl ss)) (hb : w.heap[lx]? = some (.cells #[.slice (some ⟨blk, 0, none⟩) n c] 68 (0, 0))) (hn : n = ss.length) (h0 : 0 < n) (hg : ∀ l ∈ ss, Lkb l ∧ lok l) : LkS w blk lx n c w ss.toArray := by
  rcases ho.2 with ⟨e, h⟩ | ⟨g, cap, cur, e, _, h1, h2, h3, h4, h5⟩
  · omega
  · injection e with e1 e2 e3
    injection e1 with e1
    injection e1 with e1
    subst e1 e3
    refine ⟨⟨cur, h1, h4, fun i hi k u hu => ?_⟩, by omega, hb, Kp.refl _ _, by simp [hn], fun i hi => ?_⟩
    · obtain ⟨l, hl⟩ : ∃ l, ss[i]? = some l := ⟨ss[i]'(by omega), List.getElem?_eq_getElem (by omega)⟩
      rw [toArr_at hl] at hu
      have h6 := lfl_get hl hu
      rw [← h5, List.getElem?_take] at h6
      split at h6
      · simpa using h6
      · cases h6
    · obtain ⟨l, hl⟩ : ∃ l, ss[i]? = some l := ⟨ss[i]'(by omega), List.getElem?_eq_getElem (by omega)⟩
      rw [toArr_at hl]
      exact hg l (List.mem_of_getElem? hl)
theorem LkS.own {w0 w : World} {base n c blk lx : Nat} {d : Array Lk} (h : LkS w0 blk lx n c w d) (hb : base ≤ blk) (hc : c ≤ maxLen) : w.ownsRow base 38 4 (.slice (some ⟨blk, 0, none⟩) n c) d.toList.length (lfl d.toList) := by
  obtain ⟨⟨cur, h1, h2, h3⟩, hnc, -, -, hs, -⟩ := h
  have hl : d.toList.length = n := by simp [hs]
  refine ⟨lfl_len _, .inr ⟨blk, c, cur, by rw [hl], hb, h1, by omega, hc, h2, lfl_ext (by omega) (fun i l hi k u hu => ?_)⟩⟩
  have hin : i < n := by
    have := (List.getElem?_eq_some_iff.1 hi).1
    omega
  rw [at_toList (by omega)] at hi
  injection hi with hi
  exact h3 i hin k u (by rw [hi]; exact hu)
end
section
open Go.RowKit Go.Lib Go
theorem bang_toList (d : Array Lk) (i : Nat) : d.toList[i]! = d[i]! := by
  simp only [getElem!_def, Array.getElem?_toList]
def LsP (base : Nat) (a : Option Addr) (n cap : Nat) (ss : List Lk) (w1 : World) (e : Ending) (w' : World) : Prop :=
  e = .returned (.tuple #[]) ∧ ∃ ss' : List Lk, ss'.length = n ∧ ss'.Perm ss ∧ (∀ i j, i < j → j < n → lkt ss'[j]! ss'[i]! = false) ∧ w'.ownsRow base 38 4 (.slice a n cap) ss'.length (lfl ss') ∧ w'.heap[w1.heap.size]? = some (.cells #[.slice a n cap] 68 (0, 0)) ∧ Kp (fun q => base ≤ q) w1 w'
theorem srf_none (w0 : World) (lb : Array Value) : Srf 39 85 lb #[] lkt w0.heap.size (fun w (d : Array Lk) => d.size = 0 ∧ Below w0.heap.size w0 w) where
  el := enters_of Tryz.func39 (by kernel_rfl) rfl
  low h := h.2.size
  keep h hb := ⟨h.1, h.2.trans hb⟩
  less i j h hi _ := by have := h.1; omega
  swap i j h hi _ := by have := h.1; omega
theorem linksSort_any (w1 : World) (base : Nat) (a : Option Addr) (n cap : Nat) (ss : List Lk) (ho : w1.ownsRow base 38 4 (.slice a n cap) ss.length (lfl ss)) (hn : n = ss.length) (hs : ss.length ≤ 1000000) (hg : ∀ l ∈ ss, Lkb l ∧ lok l) :
    Calls Tryz.prog 38 #[.iface 68 (.slice a n cap), .func (.func 39) #[] #[.pointer (some ⟨w1.heap.size, 0, none⟩)]] (w1.alloc (.cells #[.slice a n cap] 68)) (LsP base a n cap ss w1) := by
  obtain ⟨w2, hw2⟩ : ∃ w2, w2 = w1.alloc (.cells #[.slice a n cap] 68) := ⟨_, rfl⟩
  have hb12 : Below w1.heap.size w1 w2 := by rw [hw2]; exact below_alloc4 w1 _
  have hbx : w2.heap[w1.heap.size]? = some (.cells #[.slice a n cap] 68 (0, 0)) := by rw [hw2]; exact heap_alloc_new w1 _
  have ho2 := (Kp.of_below (S := fun _ => False) hb12).owns ho (fun _ _ h => h)
  have hlx := blk_lt hbx
  rw [← hw2]
  clear hw2
  have hd : ss.toArray.size = n := by simp [hn]
  by_cases h0 : n = 0
  · have hss : ss = [] := List.length_eq_zero_iff.1 (by omega)
    subst hss
    subst h0
    have h1 := slice9_any (srf_none w2 #[.pointer (some ⟨w1.heap.size, 0, none⟩)]) lkt_swo (w := w2) (d := #[]) ⟨rfl, Below.refl _ _⟩ a cap (by decide) (.inl ⟨rfl, rfl, rfl⟩)
    refine h1.mono ?_
    rintro e w' ⟨rfl, h2⟩
    obtain ⟨d', ⟨h3, h4⟩, -⟩ := h2.out
    exact ⟨rfl, [], rfl, List.Perm.refl _, fun i j _ hj => by omega, (Kp.of_below (S := fun _ => False) h4).owns ho2 (fun _ _ h => h), (h4.block _ hlx).trans hbx, ((Kp.of_below (S := fun q => base ≤ q) hb12).trans (Kp.of_below (S := fun _ => False) h4) (fun _ _ h => h.elim))⟩
  · obtain ⟨a', cap', hv, hf⟩ := own_formG ho
    obtain ⟨blk, hblk⟩ := hf (by omega)
    injection hv with e1 e2 e3
    subst e1
    subst hblk
    have hlt := ho.lt blk rfl
    have hcap : cap ≤ maxLen := by
      rcases ho.2 with ⟨e, _⟩ | ⟨g, cp, cur, e, _, _, _, h3, _⟩
      · cases e
      · injection e with _ _ e3
        rw [e3]
        exact h3
    have hk := lks_of (lx := w1.heap.size) ho2 hbx hn (by omega) hg
    have hbk : blk < w2.heap.size := Nat.lt_of_lt_of_le hlt.2 hb12.size
    have hne : w1.heap.size ≠ blk := by omega
    have hfin : ∀ e w', (e = .returned (.tuple #[]) ∧ Hid (∃ d', LkS w2 blk w1.heap.size n cap w' d' ∧ Srd lkt ss.toArray d')) → LsP base (some ⟨blk, 0, none⟩) n cap ss w1 e w' := by
      rintro e w' ⟨rfl, h2⟩
      obtain ⟨d', h3, h4, h5, h6⟩ := h2.out
      have hs' : d'.size = n := h3.s
      refine ⟨rfl, d'.toList, by simp [hs'], by simpa using h5, fun i j hij hj => ?_, h3.own hlt.1 hcap, h3.b, (Kp.of_below (S := fun q => base ≤ q) hb12).trans h3.k (fun k _ e => by rw [e]; exact hlt.1)⟩
      have h7 := h6 i j (Nat.zero_le _) hij (by rw [hd]; exact hj)
      rw [bang_toList, bang_toList]
      exact h7
    have hsz : ss.toArray.size < 4611686018427387904 := by rw [hd]; omega
    by_cases h1 : n = 1
    · have hM := LkS.srf (n := n) (c := cap) hbk hlx (gs := 86) (sb := #[]) (fun w d i j h hi hj => by
        subst h1
        exact h.swap2 w d i j hi hj)
      have h2 := slice9_any hM lkt_swo (w := w2) (d := ss.toArray) hk (some ⟨blk, 0, none⟩) cap hsz (.inr (.inl ⟨by rw [hd]; exact h1, rfl, rfl⟩))
      rw [hd] at h2
      exact h2.mono fun e w' h => hfin e w' h
    · have hM := LkS.srf (n := n) (c := cap) hbk hlx (fun w d i j h hi hj => LkS.swap9 hbk hne w d i j h hi hj)
      have h2 := slice9_any hM lkt_swo (w := w2) (d := ss.toArray) hk (some ⟨blk, 0, none⟩) cap hsz (.inr (.inr ⟨by rw [hd]; omega, rfl, by rw [hd]⟩))
      rw [hd] at h2
      exact h2.mono fun e w' h => hfin e w' h
end
section
open Go.RowKit Go
structure LinP (w : World) (g B r : Nat) (L : List Blk) (e : Ending) (w' : World) : Prop where
  e : ∃ (a : Option Addr) (cap : Nat) (ss : List Lk), e = .returned (.slice a L.length cap) ∧ ss.length = L.length ∧ ss.Perm (L.map (·.1)) ∧ (∀ i j, i < j → j < L.length → lkt ss[j]! ss[i]! = false) ∧ w'.ownsRow w.heap.size 38 4 (.slice a L.length cap) ss.length (lfl ss)
  s : Sto w' g B r L
  k : Kp (fun q => q = g) w w'
set_option maxRecDepth 1000000 in
set_option maxHeartbeats 1000000 in
theorem links13_any (w : World) (g B r : Nat) (L : List Blk) (hS : Sto w g B r L) (hok : ∀ p ∈ L, lok p.1) : Calls Tryz.prog 21 #[.pointer (some ⟨g, 0, none⟩)] w (LinP w g B r L) := by
  have hmf : ∀ (fn : Fn) (first cap : Array Value) (w : World), (Instr.makeFunc fn first cap).run Tryz.prog w = .ok (.func fn first cap) w := fun _ _ _ _ => rfl
  have HU := hide (unsorted13_any w g B r L hS)
  have HG := hide (blk_lt hS.c)
  have HBL := hide hS.m.lt
  have HOK := hide hok
  have HLN : Hid (L.length ≤ 65536) := by have h1 := hS.n; have h2 := hS.h; show _ ≤ _; omega
  clear hS hok
  go_enter Tryz.func21, Tryz.ntmps21
  go_wp2_with fail
  refine HU.out.mono ?_
  rintro e w1 ⟨⟨v, ss, rfl, hp, ho⟩, hs1, hk1⟩
  obtain ⟨a, cap, hv, -⟩ := own_formG ho
  subst hv
  have hln : ss.length = L.length := by rw [hp.length_eq, List.length_map]
  have hgd : ∀ l ∈ ss, Lkb l ∧ lok l := fun l hl => by
    obtain ⟨p, h1, rfl⟩ := List.mem_map.1 (hp.mem_iff.1 hl)
    exact ⟨(hs1.m.ok p h1).l.toLkb, HOK.out p h1⟩
  have HL := hide (linksSort_any w1 w.heap.size a ss.length cap ss ho rfl (by have := HLN.out; omega) hgd)
  have HS1 := hide hs1
  have HK1 := hide hk1
  have HP := hide hp
  have HN := hide hln
  have hbx := heap_alloc_new w1 (.cells #[.slice a ss.length cap] 68)
  have c0 := blk_cell (j := 0) (v := .slice a ss.length cap) hbx rfl
  clear hs1 hk1 hp hln ho hgd HU hbx
  go_upto_region 2 with fail
  generalize w1.alloc (.cells #[.slice a ss.length cap] 68) = w2 at *
  go_wp2_with fail
  refine HL.out.mono ?_
  rintro e w3 ⟨rfl, ss', h1, h2, h3, h4, h5, h6⟩
  have HR : Hid (LinP w g B r L (.returned (.slice a ss.length cap)) w3) := by
    have e1 := HN.out
    rw [e1] at h1 h3 h4
    rw [e1]
    have hgw := HG.out
    have hbw := HBL.out
    have hz := HK1.out.size
    exact ⟨⟨a, cap, ss', rfl, h1, h2.trans HP.out, h3, h4⟩, ⟨(h6.block g (by omega) (by omega)).trans HS1.out.c, HS1.out.m.block (h6.block B (by omega) (by omega)), HS1.out.h, HS1.out.n⟩, HK1.out.trans h6 (fun k hk e => by omega)⟩
  have c3 := blk_cell (j := 0) (v := .slice a ss.length cap) h5 rfl
  clear h1 h2 h3 h4 h5 h6 HL HS1 HK1 HP HN c0
  go_wp2_with fail
  go_ret
  exact HR.out
end
section
open Go.RowKit Go
theorem lxl_tot : ∀ x y, lxl x y = false → lxl y x = false → x = y
  | [], [], _, _ => rfl
  | [], _ :: _, h, _ => by simp [lxl] at h
  | _ :: _, [], _, h => by simp [lxl] at h
  | x :: r, y :: q, h1, h2 => by
    simp only [lxl] at h1 h2
    by_cases e : x = y
    · subst e
      rw [if_pos rfl] at h1 h2
      rw [lxl_tot r q h1 h2]
    · rw [if_neg e] at h1
      rw [if_neg (fun e' => e e'.symm)] at h2
      have h3 := of_decide_eq_false h1
      have h4 := of_decide_eq_false h2
      omega
theorem lkt_tot {a b : Lk} (ha : lok a) (hb : lok b) (h1 : lkt a b = false) (h2 : lkt b a = false) : a = b := lbytes_inj ha hb (lxl_tot _ _ h1 h2)
theorem row_less {ss : List Lk} (hn : ss.Nodup) (hk : ∀ l ∈ ss, lok l) (hs : ∀ i j, i < j → j < ss.length → lkt ss[j]! ss[i]! = false) {i : Nat} (hi : i + 1 < ss.length) : llt ss[i]! ss[i + 1]! = true := by
  have e1 : ss[i]! = ss[i] := getElem!_pos ss i (by omega)
  have e2 : ss[i + 1]! = ss[i + 1] := getElem!_pos ss (i + 1) hi
  have k1 := hk ss[i] (List.getElem_mem _)
  have k2 := hk ss[i + 1] (List.getElem_mem _)
  have h1 := hs i (i + 1) (by omega) hi
  rw [e1, e2] at h1
  rw [e1, e2, llt_lkt k1 k2]
  cases h2 : lkt ss[i] ss[i + 1] with
  | true => rfl
  | false =>
    exact absurd (lkt_tot k1 k2 h2 h1) (List.pairwise_iff_getElem.1 hn i (i + 1) (by omega) hi (by omega))
theorem nbs_row {L : List Blk} {c : Nat} (hL : Nbs L c) (hn : ndB L) {ss : List Lk} (hp : ss.Perm (L.map (·.1))) : ss.Nodup ∧ (∀ l ∈ ss, ∃ j, l = ln4 j ∧ atB L l = some (blk4 j)) := by
  refine ⟨hp.nodup_iff.2 hn, fun l hl => ?_⟩
  obtain ⟨x, hx, rfl⟩ := List.mem_map.1 (hp.mem_iff.1 hl)
  have h1 := mem_atB hn hx
  obtain ⟨j, -, rfl⟩ := hL x hx
  exact ⟨j, rfl, h1⟩
theorem getr_nb {L : List Blk} {j : Nat} (h : atB L (ln4 j) = some (blk4 j)) : getr13 L (ln4 j) = (blk4 j, 0) := by
  unfold getr13
  rw [if_pos (lok_ln4 j), if_neg (by show ¬ (18 : Nat) = 0; decide), h]
  show (if dholds (nb j).1.h (nb j).1.d (nb j).2 = true then _ else _) = _
  rw [if_pos (dholds_nb j)]
end
end Go.Proofs.YtnbbnainmifenaaGreatDoor

import Derived.Test.YtmcamdcgnegmmaaGreatDoorJi
import Derived.Sort.AssemblyPlain
import Derived.Test.YtmcamdcgnegmmaaGreatDoorJe
import Derived.Test.YtmcamdcgnegmmaaGreatDoorJa
import Derived.Test.YtmcamdcgnegmmaaGreatDoorJb
import Derived.Test.YtmcamdcgnegmmaaGreatDoorJg
import Derived.BigRegion
import Derived.Lib.AppendZerosOnto
import Derived.Lib.SliceRun
import Derived.Lib.BytesEntry
import Derived.Laws.Externs
import Derived.Lib.Bytealg
set_option maxRecDepth 1000000
set_option maxHeartbeats 16000000
namespace Go.Proofs.YtmcamdcgnegmmaaGreatDoor
section
open Go.RowKit Go
theorem hcd_2 {h : Sort.Hint} (e : h = .decreasing) : hcd h = 2 := by subst e; rfl
theorem hcd_1 {h : Sort.Hint} (e : h = .increasing) : hcd h = 1 := by subst e; rfl
theorem hcd_n2 {h : Sort.Hint} (e : h ≠ .decreasing) : hcd h ≠ 2 := by cases h <;> first | decide | exact absurd rfl e
theorem hcd_n1 {h : Sort.Hint} (e : h ≠ .increasing) : hcd h ≠ 1 := by cases h <;> first | decide | exact absurd rfl e
theorem rev_size {α : Type} [Inhabited α] : ∀ (k i j : Nat) (d : Array α), j - i ≤ k → (Sort.reverseLoop i j d).size = d.size
  | 0, i, j, d, h => by rw [rev_no (by omega)]
  | k + 1, i, j, d, h => by
    by_cases hij : i < j
    · rw [rev_go hij, rev_size k _ _ _ (by omega), swp_size]
    · rw [rev_no hij]
theorem insOuter_size {α : Type} [Inhabited α] (lt : α → α → Bool) (a b : Nat) : ∀ (k i : Nat) (d : Array α), b - i ≤ k → (Sort.insOuter lt a b i d).size = d.size
  | 0, i, d, h => by rw [insOuter_no (by omega)]
  | k + 1, i, d, h => by
    by_cases hij : i < b
    · rw [insOuter_go hij, insOuter_size lt a b k _ _ (by omega), insInner_size]
    · rw [insOuter_no hij]
theorem heapPop_size {α : Type} [Inhabited α] (lt : α → α → Bool) (a : Nat) : ∀ (k : Nat) (d : Array α), (Sort.heapPop lt a k d).size = d.size
  | 0, d => rfl
  | k + 1, d => by
    unfold Sort.heapPop
    rw [heapPop_size lt a k, sift_size k a _ 0 _ (Nat.le_refl _), swp_size]
theorem heapBuild_size {α : Type} [Inhabited α] (lt : α → α → Bool) (hi a : Nat) : ∀ (k : Nat) (d : Array α), (Sort.heapBuild lt hi a k d).size = d.size
  | 0, d => rfl
  | k + 1, d => by
    unfold Sort.heapBuild
    rw [heapBuild_size lt hi a k, sift_size hi a _ k _ (Nat.le_refl _)]
theorem heapSort_size {α : Type} [Inhabited α] (lt : α → α → Bool) (d : Array α) (a b : Nat) : (Sort.heapSort lt d a b).size = d.size := by
  unfold Sort.heapSort
  rw [heapPop_size, heapBuild_size]
def PdC {α : Type} [Inhabited α] (T : TypeId) (rv : Value) (lt : α → α → Bool) (St : World → Array α → Prop) (K : Nat) : Prop := ∀ (w : World) (d : Array α) (a b L : Nat) (x y z : Int), Hid (St w d) → x = (a : Int) → y = (b : Int) → z = (L : Int) → b - a < K → a ≤ b → b ≤ d.size → d.size < 4611686018427387904 → L < 4611686018427387904 → Calls Tryz.prog 70 #[.iface T rv, .int .i64 x, .int .i64 y, .int .i64 z] w fun e w' => e = .returned (.tuple #[]) ∧ Hid (St w' (Sort.pdq lt d a b L true true) ∧ (Sort.pdq lt d a b L true true).size = d.size)
theorem pdq_step {α : Type} [Inhabited α] {T : TypeId} {rv : Value} {gl gs : FuncId} {lt : α → α → Bool} {M : Nat} {St : World → Array α → Prop} (hM : Srm T rv gl gs lt M St) (K : Nat) (ih : PdC T rv lt St K) : PdC T rv lt St (K + 1) := by
  intro w d a b L x y z h hx hy hz hK hab hb hsz hL
  subst hx hy hz
  obtain ⟨LS, hLS⟩ : ∃ LS, LS = Sort.pdq lt d a b L true true := ⟨_, rfl⟩
  rw [← hLS]
  have HLS := hide hLS
  have HM := hide hM
  have HI := hide ih
  have ml : ∀ w, (method 342 T rv "Less").run Tryz.prog w = .ok (gl, rv) w := hM.ml
  have el := hM.el
  obtain ⟨n, hn⟩ : ∃ n, n = d.size := ⟨_, rfl⟩
  rw [← hn] at hb hsz ⊢
  have HN : Hid (d.size = n) := hn.symm
  clear hM ih hLS hn
  go_enter Tryz.func70, Tryz.ntmps70
  go_wp2_with fail
  go_loopg [1, 2, 3, 8, 9] (b - a) (fun gk s1 s2 s3 s8 s9 wx => ∃ (x y z : Int) (a b L : Nat) (wb wp : Bool), s1 = .int .i64 x ∧ s2 = .int .i64 y ∧ s3 = .int .i64 z ∧ s8 = .bool wb ∧ s9 = .bool wp ∧ x = (a : Int) ∧ y = (b : Int) ∧ z = (L : Int) ∧ a ≤ b ∧ b ≤ n ∧ L < 4611686018427387904 ∧ b - a ≤ K ∧ b - a ≤ gk ∧ ∃ e : Array α, St wx e ∧ e.size = n ∧ LS = Sort.pdq lt e a b L wb wp)
  case atStart => exact ⟨_, _, _, a, b, L, true, true, rfl, rfl, rfl, rfl, rfl, rfl, rfl, rfl, hab, hb, hL, by omega, Nat.le_refl _, d, h.out, HN.out, HLS.out⟩
  case round =>
    clear hab hb hL hK
    obtain ⟨x, y, z, a, b, L, wb, wp, rfl, rfl, rfl, rfl, rfl, rfl, rfl, rfl, hab, hb, hL, hK, hgk, e, hs, hd, hls⟩ := hrel
    have HS := hide hs
    clear h HLS HN
    have HLS := hide hls
    clear hs hls
    by_cases h12 : b - a ≤ 12
    · as_aux_lemma =>
      have g12 : (b : Int) - (a : Int) ≤ 12 := by omega
      have HL2 := hide (HLS.out.trans (pdq_small lt h12))
      go_wp2_with fail
      refine (insertionSort_any HM.out.srt HS.out a b (by omega) hab (by omega)).mono ?_
      rintro _ w1 ⟨rfl, hs1⟩
      have HE : Hid (St w1 LS ∧ LS.size = n) := by
        show _ ∧ _
        rw [HL2.out]
        exact ⟨hs1.out, (insOuter_size lt a b _ _ _ (Nat.le_refl _)).trans hd⟩
      clear HS HL2 HLS hs1
      go_wp2_with fail
      first
        | (go_end0; exact ⟨rfl, HE⟩)
        | exact bodyPost_ret (results_none rfl _ _ _) rfl ⟨rfl, HE⟩
    have g12 : ¬ ((b : Int) - (a : Int) ≤ 12) := by omega
    by_cases hL0 : L = 0
    · as_aux_lemma =>
      have gL : ((L : Int) == 0) = true := by simp; omega
      have HL2 := hide (HLS.out.trans (pdq_heap lt h12 hL0))
      clear hL0
      go_wp2_with fail
      refine (heapSort_any HM.out.srt HS.out a b (by omega) (by omega) (by omega)).mono ?_
      rintro _ w1 ⟨rfl, hs1⟩
      have HE : Hid (St w1 LS ∧ LS.size = n) := by
        show _ ∧ _
        rw [HL2.out]
        exact ⟨hs1.out, (heapSort_size lt _ a b).trans hd⟩
      clear HS HL2 HLS hs1
      go_wp2_with fail
      first
        | (go_end0; exact ⟨rfl, HE⟩)
        | exact bodyPost_ret (results_none rfl _ _ _) rfl ⟨rfl, HE⟩
    have gL : ((L : Int) == 0) = false := by simp; omega
    have HL2 := hide (HLS.out.trans (pdq_rest lt h12 hL0))
    clear HLS
    go_upto_if 35 with fail
    go_cut [3] (fun v3 wx => ∃ (z : Int) (L1 : Nat), v3 = .int .i64 z ∧ z = (L1 : Int) ∧ L1 < 4611686018427387904 ∧ ∃ d1 : Array α, St wx d1 ∧ d1.size = n ∧ LS = pqH lt d1 a b L1 wb wp)
    case first =>
      cases wb with
      | true =>
        as_aux_lemma =>
        go_wp2_with fail
        go_meet
        case rel => exact ⟨_, L, rfl, rfl, hL, e, HS.out, hd, HL2.out⟩
      | false =>
        as_aux_lemma =>
        go_wp2_with fail
        refine (breakPatterns_any HM.out HS.out a b (by omega) (by omega) (by omega)).mono ?_
        rintro _ w1 ⟨rfl, hs1⟩
        clear HS
        go_wp2_with fail
        go_meet
        case rel => exact ⟨_, L - 1, rfl, by omega, by omega, _, hs1.out.1, hs1.out.2.trans hd, HL2.out⟩
    case rest =>
      obtain ⟨z, L1, rfl, rfl, hL1, d1, hs1, hd1, hl1⟩ := hcut
      have HS1 := hide hs1
      have HL3 := hide hl1
      clear hs1 hl1 HS HL2
      obtain ⟨⟨p, hint⟩, hcp⟩ : ∃ r, Sort.choosePivot lt d1 a b = r := ⟨_, rfl⟩
      have hpr : a ≤ p ∧ p < b := by have h1 := Sort.choosePivot_holds lt d1 a b (by omega); rw [hcp] at h1; exact h1
      have HL4 : Hid (LS = pqP lt (if hint = .decreasing then Sort.reverseRange d1 a b else d1) a b (if hint = .decreasing then (b - 1) - (p - a) else p) L1 (if hint = .decreasing then .increasing else hint) wb wp) := by
        show _ = _
        rw [HL3.out]
        unfold pqH
        rw [hcp]
      have HCP := hide hcp
      clear hcp HL3
      go_upto_if 50 with fail
      refine (choosePivot_any HM.out HS1.out a b p hint HCP.out (by omega) (by omega) (by omega)).mono ?_
      rintro _ w2 ⟨rfl, hs2⟩
      clear HS1 HCP
      go_upto_if 50 with fail
      go_cut [11, 12] (fun v11 v12 wx => ∃ (x y : Int) (pv : Nat) (h2 : Sort.Hint), v11 = .int .i64 x ∧ v12 = .int .i64 y ∧ x = (pv : Int) ∧ y = hcd h2 ∧ a ≤ pv ∧ pv < b ∧ ∃ d2 : Array α, St wx d2 ∧ d2.size = n ∧ LS = pqP lt d2 a b pv L1 h2 wb wp)
      case first =>
        by_cases hdec : hint = .decreasing
        · as_aux_lemma =>
          have gd : (hcd hint == 2) = true := by rw [hcd_2 hdec]; rfl
          have HL5 := HL4.out
          rw [if_pos hdec, if_pos hdec, if_pos hdec] at HL5
          have HL6 := hide HL5
          clear HL4 HL5 hdec
          go_wp2_with fail
          refine (reverseRange_any HM.out.srt hs2.out.1 a b (by omega) (by omega) (by omega)).mono ?_
          rintro _ w3 ⟨rfl, hs3⟩
          clear hs2
          go_wp2_with fail
          go_meet
          case rel => exact ⟨_, _, (b - 1) - (p - a), .increasing, rfl, rfl, by omega, rfl, by omega, by omega, _, hs3.out, (rev_size _ _ _ _ (Nat.le_refl _)).trans hd1, HL6.out⟩
        · as_aux_lemma =>
          have gd : (hcd hint == 2) = false := by have h1 := hcd_n2 hdec; simpa using h1
          have HL5 := HL4.out
          rw [if_neg hdec, if_neg hdec, if_neg hdec] at HL5
          have HL6 := hide HL5
          clear HL4 HL5 hdec
          go_wp2_with fail
          go_meet
          case rel => exact ⟨_, _, p, hint, rfl, rfl, rfl, rfl, hpr.1, hpr.2, d1, hs2.out.1, hd1, HL6.out⟩
      case rest =>
        obtain ⟨x, y, pv, h2, rfl, rfl, rfl, rfl, hp1, hp2, d2, hs3, hd2, hl3⟩ := hcut
        have HS3 := hide hs3
        have HL5 := hide hl3
        clear hs3 hl3 hs2 HL4 hpr
        go_upto_region 15 with fail
        go_cut [68] (fun v68 wx => ∃ c : Bool, v68 = .bool c ∧ Hid (c = (wb && wp && decide (h2 = .increasing))) ∧ Hid (St wx d2))
        case first =>
          cases wb with
          | false =>
            as_aux_lemma =>
            go_wp2_with fail
            go_meet
            case rel => exact ⟨false, rfl, rfl, HS3⟩
          | true =>
            cases wp with
            | false =>
              as_aux_lemma =>
              go_wp2_with fail
              go_meet
              case rel => exact ⟨false, rfl, rfl, HS3⟩
            | true =>
              by_cases hinc : h2 = .increasing
              · as_aux_lemma =>
                have gi : (hcd h2 == 1) = true := by rw [hcd_1 hinc]; rfl
                have HC : Hid (true = (true && true && decide (h2 = .increasing))) := by show _ = _; simp [hinc]
                clear hinc
                go_wp2_with fail
                go_meet
                case rel => exact ⟨true, rfl, HC, HS3⟩
              · as_aux_lemma =>
                have gi : (hcd h2 == 1) = false := by have h1 := hcd_n1 hinc; simpa using h1
                have HC : Hid (false = (true && true && decide (h2 = .increasing))) := by show _ = _; simp [hinc]
                clear hinc
                go_wp2_with fail
                go_meet
                case rel => exact ⟨false, rfl, HC, HS3⟩
        case rest =>
          obtain ⟨c, rfl, hc, hs4⟩ := hcut
          clear HS3
          obtain ⟨⟨d3', ok⟩, hpi⟩ : ∃ r, Sort.partialInsertionSort lt d2 a b = r := ⟨_, rfl⟩
          have HPI := hide hpi
          clear hpi
          go_upto_if 68 with fail
          go_cut [] (fun wx => ∃ d3 : Array α, St wx d3 ∧ d3.size = n ∧ LS = pqT lt d3 a b pv L1 wb wp)
          case first =>
            cases c with
            | false =>
              as_aux_lemma =>
              have HL6 : Hid (LS = pqT lt d2 a b pv L1 wb wp) := by
                show _ = _
                rw [HL5.out]
                unfold pqP
                rw [← hc.out]
                rfl
              clear HL5 hc
              go_wp2_with fail
              go_meet
              case rel => exact ⟨d2, hs4.out, hd2, HL6.out⟩
            | true =>
              as_aux_lemma =>
              have HL6 : Hid (LS = if ok then d3' else pqT lt d3' a b pv L1 wb wp) := by
                show _ = _
                rw [HL5.out]
                unfold pqP
                rw [← hc.out, if_pos rfl, HPI.out]
              clear HL5 hc
              go_wp2_with fail
              refine (partialInsertionSort_any HM.out.srt hs4.out a b d3' ok HPI.out (by omega) (by omega) (by omega)).mono ?_
              rintro _ w4 ⟨rfl, hs5⟩
              clear hs4 HPI
              cases ok with
              | true =>
                have HE : Hid (St w4 LS ∧ LS.size = n) := by
                  show _ ∧ _
                  rw [HL6.out]
                  exact ⟨hs5.out.1, hs5.out.2.trans hd2⟩
                clear HL6 hs5
                go_wp2_with fail
                first
                  | (go_end0; exact ⟨rfl, HE⟩)
                  | exact bodyPost_ret (results_none rfl _ _ _) rfl ⟨rfl, HE⟩
              | false =>
                go_wp2_with fail
                go_meet
                case rel => exact ⟨d3', hs5.out.1, hs5.out.2.trans hd2, HL6.out⟩
          case rest =>
            obtain ⟨d3, hs5, hd3, hl6⟩ := hcut
            have HS5' := hide hs5
            have HL6 := hide hl6
            clear hs5 hl6 hs4 hc HPI HL5
            by_cases ha0 : 0 < a
            · have ga : (a : Int) > 0 := by omega
              go_wp2_with fail
              refine (HM.out.srt.lz HS5' (a - 1) pv _ _ (by first | rfl | omega) (by first | rfl | omega) (by omega) (by omega)).mono ?_
              rintro _ w4 ⟨rfl, hsX⟩
              clear HS5'
              generalize hlv : lt d3[a - 1]! d3[pv]! = lv at *
              have HLV := hide hlv
              clear hlv
              cases lv with
              | false =>
                as_aux_lemma =>
                obtain ⟨⟨mid, d4⟩, hpt⟩ : ∃ r, Sort.partitionEqual lt d3 a b pv = r := ⟨_, rfl⟩
                have HPT := hide hpt
                clear hpt
                go_wp2_with fail
                refine (partitionEqual_any HM.out.srt hsX.out a b pv mid d4 HPT.out (by omega) (by omega) (by omega) (by omega)).mono ?_
                rintro _ w5 ⟨rfl, h5⟩
                obtain ⟨hs6, hm1, hm2, hd5⟩ := h5.out
                have HS6 := hide hs6
                have HL9 := hide (HL6.out.trans (pqT_eq lt ha0 HLV.out HPT.out hm1 hm2))
                clear hsX hs6 h5 HL6 HPT HLV
                go_wp2_with fail
                go_roundg (b - mid)
                case measure => omega
                case rel => exact ⟨_, _, _, mid, b, L1, wb, wp, rfl, rfl, rfl, rfl, rfl, by first | rfl | omega, by first | rfl | omega, by first | rfl | omega, by omega, by omega, hL1, by omega, Nat.le_refl _, d4, HS6.out, by omega, HL9.out⟩
              | true =>
                have HNE : Hid (¬ (0 < a ∧ lt d3[a - 1]! d3[pv]! = false)) := fun h => by have h1 := HLV.out; rw [h1] at h; cases h.2
                clear HLV
                obtain ⟨⟨mid, ap, d4⟩, hpt⟩ : ∃ r, Sort.partition lt d3 a b pv = r := ⟨_, rfl⟩
                have HPT := hide hpt
                clear hpt
                go_wp2_with fail
                refine (partition_any HM.out.srt hsX.out a b pv mid ap d4 HPT.out (by omega) (by omega) (by omega) (by omega)).mono ?_
                rintro _ w5 ⟨rfl, h5⟩
                obtain ⟨hs5, hm1, hm2, hd5⟩ := h5.out
                have HS5 := hide hs5
                clear hsX hs5 h5
                by_cases hlr : mid - a < b - mid
                · as_aux_lemma =>
                  have glr : (mid : Int) - (a : Int) < (b : Int) - (mid : Int) := by omega
                  have HL9 := hide (HL6.out.trans (pqT_l lt HNE.out HPT.out hm1 hm2 hlr))
                  clear HL6 HPT HNE
                  go_wp2_with fail
                  refine (HI.out w5 d4 a mid L1 _ _ _ HS5 (by first | rfl | omega) (by first | rfl | omega) (by first | rfl | omega) (by omega) hm1 (by omega) (by omega) hL1).mono ?_
                  rintro _ w6 ⟨rfl, h6⟩
                  clear HS5
                  go_wp2_with fail
                  go_roundg (b - (mid + 1))
                  case measure => omega
                  case rel => exact ⟨_, _, _, mid + 1, b, L1, decide (mid - a ≥ (b - a) / 8), ap, rfl, rfl, rfl, congrArg Value.bool (decide_eq_decide.2 (by omega)), rfl, by omega, by first | rfl | omega, by first | rfl | omega, by omega, by omega, hL1, by omega, Nat.le_refl _, _, h6.out.1, by rw [h6.out.2]; omega, HL9.out⟩
                · as_aux_lemma =>
                  have glr : ¬ ((mid : Int) - (a : Int) < (b : Int) - (mid : Int)) := by omega
                  have HL9 := hide (HL6.out.trans (pqT_r lt HNE.out HPT.out hm1 hm2 hlr))
                  clear HL6 HPT HNE
                  go_wp2_with fail
                  refine (HI.out w5 d4 (mid + 1) b L1 _ _ _ HS5 (by first | rfl | omega) (by first | rfl | omega) (by first | rfl | omega) (by omega) (by omega) (by omega) (by omega) hL1).mono ?_
                  rintro _ w6 ⟨rfl, h6⟩
                  clear HS5
                  go_wp2_with fail
                  go_roundg (mid - a)
                  case measure => omega
                  case rel => exact ⟨_, _, _, a, mid, L1, decide (b - mid ≥ (b - a) / 8), ap, rfl, rfl, rfl, congrArg Value.bool (decide_eq_decide.2 (by omega)), rfl, by first | rfl | omega, by first | rfl | omega, by first | rfl | omega, by omega, by omega, hL1, by omega, Nat.le_refl _, _, h6.out.1, by rw [h6.out.2]; omega, HL9.out⟩
            · have ga : ¬ ((a : Int) > 0) := by omega
              have gab : decide ((a : Int) > 0) = false := decide_eq_false ga
              have HNE : Hid (¬ (0 < a ∧ lt d3[a - 1]! d3[pv]! = false)) := fun h => ha0 h.1
              have hsX := HS5'
              clear HS5' ha0
              obtain ⟨⟨mid, ap, d4⟩, hpt⟩ : ∃ r, Sort.partition lt d3 a b pv = r := ⟨_, rfl⟩
              have HPT := hide hpt
              clear hpt
              go_wp2_with fail
              refine (partition_any HM.out.srt hsX.out a b pv mid ap d4 HPT.out (by omega) (by omega) (by omega) (by omega)).mono ?_
              rintro _ w5 ⟨rfl, h5⟩
              obtain ⟨hs5, hm1, hm2, hd5⟩ := h5.out
              have HS5 := hide hs5
              clear hsX hs5 h5
              by_cases hlr : mid - a < b - mid
              · as_aux_lemma =>
                have glr : (mid : Int) - (a : Int) < (b : Int) - (mid : Int) := by omega
                have HL9 := hide (HL6.out.trans (pqT_l lt HNE.out HPT.out hm1 hm2 hlr))
                clear HL6 HPT HNE
                go_wp2_with fail
                refine (HI.out w5 d4 a mid L1 _ _ _ HS5 (by first | rfl | omega) (by first | rfl | omega) (by first | rfl | omega) (by omega) hm1 (by omega) (by omega) hL1).mono ?_
                rintro _ w6 ⟨rfl, h6⟩
                clear HS5
                go_wp2_with fail
                go_roundg (b - (mid + 1))
                case measure => omega
                case rel => exact ⟨_, _, _, mid + 1, b, L1, decide (mid - a ≥ (b - a) / 8), ap, rfl, rfl, rfl, congrArg Value.bool (decide_eq_decide.2 (by omega)), rfl, by omega, by first | rfl | omega, by first | rfl | omega, by omega, by omega, hL1, by omega, Nat.le_refl _, _, h6.out.1, by rw [h6.out.2]; omega, HL9.out⟩
              · as_aux_lemma =>
                have glr : ¬ ((mid : Int) - (a : Int) < (b : Int) - (mid : Int)) := by omega
                have HL9 := hide (HL6.out.trans (pqT_r lt HNE.out HPT.out hm1 hm2 hlr))
                clear HL6 HPT HNE
                go_wp2_with fail
                refine (HI.out w5 d4 (mid + 1) b L1 _ _ _ HS5 (by first | rfl | omega) (by first | rfl | omega) (by first | rfl | omega) (by omega) (by omega) (by omega) (by omega) hL1).mono ?_
                rintro _ w6 ⟨rfl, h6⟩
                clear HS5
                go_wp2_with fail
                go_roundg (mid - a)
                case measure => omega
                case rel => exact ⟨_, _, _, a, mid, L1, decide (b - mid ≥ (b - a) / 8), ap, rfl, rfl, rfl, congrArg Value.bool (decide_eq_decide.2 (by omega)), rfl, by first | rfl | omega, by first | rfl | omega, by first | rfl | omega, by omega, by omega, hL1, by omega, Nat.le_refl _, _, h6.out.1, by rw [h6.out.2]; omega, HL9.out⟩
theorem pdqsort_any {α : Type} [Inhabited α] {T : TypeId} {rv : Value} {gl gs : FuncId} {lt : α → α → Bool} {M : Nat} {St : World → Array α → Prop} (hM : Srm T rv gl gs lt M St) : ∀ K, PdC T rv lt St K
  | 0 => fun _ _ _ _ _ _ _ _ _ _ _ _ h => by omega
  | K + 1 => pdq_step hM K (pdqsort_any hM K)
end
section
open Go.RowKit Go
theorem perm_of_in {α : Type} [Inhabited α] {d d' : Array α} (h : Sort.PermIn 0 d.size d d') : d'.toList.Perm d.toList := by
  have h3 := h.2.2
  have e1 : d.extract 0 d.size = d := by simp
  have e2 : d'.extract 0 d.size = d' := by rw [← h.1]; simp
  rw [e1, e2] at h3
  exact h3
def Srd {α : Type} [Inhabited α] (lt : α → α → Bool) (d d' : Array α) : Prop := d'.size = d.size ∧ d'.toList.Perm d.toList ∧ Sort.SortedIn lt 0 d.size d'
theorem pdq_whole {α : Type} [Inhabited α] {lt : α → α → Bool} (hO : Sort.SWO lt) (d : Array α) (L : Nat) : Srd lt d (Sort.pdq lt d 0 d.size L true true) := by
  have h := Sort.pdq_sorts lt hO d 0 d.size L true true (Nat.zero_le _) (Nat.le_refl _) (.inl rfl)
  exact ⟨h.1.1, perm_of_in h.1, h.2⟩
theorem sortSort_any {α : Type} [Inhabited α] {T : TypeId} {rv : Value} {gl gs gn : FuncId} {lt : α → α → Bool} {M : Nat} {St : World → Array α → Prop} (hM : Srm T rv gl gs lt M St) (mn : ∀ w, (method 342 T rv "Len").run Tryz.prog w = .ok (gn, rv) w) (en : ∀ args w, (callFunc gn args).run Tryz.prog w = .ok (.enter gn args) w) (hO : Sort.SWO lt) {w : World} {d : Array α} (h : St w d) (hlen : Calls Tryz.prog gn #[rv] w fun e w' => e = .returned (.int .i64 (d.size : Nat)) ∧ Below w.heap.size w w') (hsz : d.size < 4611686018427387904) : Calls Tryz.prog 46 #[.iface T rv] w fun e w' => e = .returned (.tuple #[]) ∧ Hid (∃ d', St w' d' ∧ Srd lt d d') := by
  have HM := hide hM
  have HO := hide hO
  have HS := hide h
  have HL := hide hlen
  obtain ⟨n, hn⟩ : ∃ n, n = d.size := ⟨_, rfl⟩
  have HN := hide hn
  rw [← hn] at hsz
  clear hM hO h hlen hn
  go_enter Tryz.func46, Tryz.ntmps46
  go_wp2_with fail
  refine HL.out.mono ?_
  rintro _ w1 ⟨rfl, hb1⟩
  rw [← HN.out]
  have HS1 := hide (HM.out.on HS.out hb1)
  clear HL HS hb1
  by_cases h1 : n ≤ 1
  · have g1 : (n : Int) ≤ 1 := by omega
    have HE : Hid (∃ d', St w1 d' ∧ Srd lt d d') := ⟨d, HS1.out, rfl, List.Perm.refl _, fun i j _ hij hj => by have h2 := HN.out; omega⟩
    clear HS1
    go_wp2_with fail
    first
      | (go_end0; exact ⟨rfl, HE⟩)
      | exact bodyPost_ret (results_none rfl _ _ _) rfl ⟨rfl, HE⟩
  · have g1 : ¬ ((n : Int) ≤ 1) := by omega
    go_wp2_with fail
    refine (bitsLen_any n hsz w1).mono ?_
    rintro _ w2 ⟨rfl, rfl⟩
    have hk : Sort.bitsLen n ≤ 62 := (Sort.bitsLen_le_iff n 62).2 (by omega)
    generalize Sort.bitsLen n = L at *
    go_wp2_with fail
    refine (pdqsort_any HM.out (n + 1) w2 d 0 n L _ _ _ HS1 (by first | rfl | omega) (by first | rfl | omega) (by first | rfl | omega) (by omega) (by omega) (by rw [← HN.out]; exact Nat.le_refl _) (by rw [← HN.out]; exact hsz) (by omega)).mono ?_
    rintro _ w3 ⟨rfl, hs3⟩
    have HE : Hid (∃ d', St w3 d' ∧ Srd lt d d') := ⟨_, hs3.out.1, by rw [HN.out]; exact pdq_whole HO.out d L⟩
    clear HS1 hs3
    go_wp2_with fail
    first
      | (go_end0; exact ⟨rfl, HE⟩)
      | exact bodyPost_ret (results_none rfl _ _ _) rfl ⟨rfl, HE⟩
end
section
open Go.RowKit Go
theorem vfl_set : ∀ {L : List (Array Value)}, (∀ c ∈ L, c.size = 13) → ∀ (j : Nat) (c' : Array Value), j < L.length → c'.size = 13 → ∀ (X : List Value), (splice (vfl L ++ X) (j * 13) c'.toList).take (L.length * 13) = vfl (L.set j c')
  | [], _, j, _, h, _, _ => by simp at h
  | c :: r, hL, 0, c', _, hc, X => by
    have h1 : c.size = 13 := hL c (List.mem_cons_self ..)
    have e1 : vfl (c :: r) = c.toList ++ vfl r := by simp [vfl]
    have e2 : vfl ((c :: r).set 0 c') = c'.toList ++ vfl r := by simp [vfl]
    have h2 := vfl_len (l := r) (fun d hd => hL d (List.mem_cons_of_mem _ hd))
    rw [e1, e2]
    unfold splice
    have l1 : c.toList.length = 13 := by simpa using h1
    have l2 : c'.toList.length = 13 := by simpa using hc
    rw [Nat.zero_mul, List.take_zero, List.nil_append, Nat.zero_add, l2, List.append_assoc, List.drop_append_of_le_length (by omega), List.drop_of_length_le (by omega), List.nil_append, List.length_cons, List.take_append, l2, List.take_of_length_le (by omega)]
    congr 1
    rw [show (r.length + 1) * 13 - 13 = (vfl r).length by omega, List.take_append_of_le_length (by omega), List.take_length]
  | c :: r, hL, j + 1, c', hj, hc, X => by
    have h1 : c.size = 13 := hL c (List.mem_cons_self ..)
    have ih := vfl_set (L := r) (fun d hd => hL d (List.mem_cons_of_mem _ hd)) j c' (by simpa using hj) hc X
    have e1 : vfl (c :: r) = c.toList ++ vfl r := by simp [vfl]
    have e2 : vfl ((c :: r).set (j + 1) c') = c.toList ++ vfl (r.set j c') := by simp [vfl]
    have l1 : c.toList.length = 13 := by simpa using h1
    have l2 : c'.toList.length = 13 := by simpa using hc
    have h2 := vfl_len (l := r) (fun d hd => hL d (List.mem_cons_of_mem _ hd))
    have hsp : splice (c.toList ++ (vfl r ++ X)) ((j + 1) * 13) c'.toList = c.toList ++ splice (vfl r ++ X) (j * 13) c'.toList := by
      have hk : (j + 1) * 13 = c.toList.length + j * 13 := by omega
      unfold splice
      rw [hk, List.take_length_add_append, Nat.add_assoc, List.drop_length_add_append, List.append_assoc]
    rw [e1, e2, ← ih, List.append_assoc, hsp]
    have hk2 : (c :: r).length * 13 = c.toList.length + r.length * 13 := by rw [List.length_cons]; omega
    rw [hk2, List.take_length_add_append]
theorem own_part {w w' : World} {B g n cap : Nat} {L : List (Array Value)} {cur : Array Value} {j : Nat} {c' : Array Value} (h : w.ownsRow B 41 13 (.slice (some ⟨g, 0, none⟩) n cap) n (vfl L)) (hL : L.length = n) (h13 : ∀ c ∈ L, c.size = 13) (hg : w.heap[g]? = some (.cells cur 41 (0, 0))) (hj : j < n) (hc : c'.size = 13)
    (hw : w'.heap[g]? = some (.cells (splice cur.toList (j * 13) c'.toList).toArray 41 (0, 0))) : w'.ownsRow B 41 13 (.slice (some ⟨g, 0, none⟩) n cap) n (vfl (L.set j c')) := by
  rcases h.2 with ⟨hv, _⟩ | ⟨g', cap', cur', hv, hb, hg', h1, h2, h3, h4⟩
  · cases hv
  injection hv with e1 e2 e3
  injection e1 with e1
  injection e1 with e1 _ _
  subst e1
  subst e3
  rw [hg'] at hg
  injection hg with hg
  injection hg with hg _ _
  subst hg
  have l13 := vfl_len h13
  have hlc : cur'.toList.length = cap * 13 := by simpa using h3
  have hcl : c'.toList.length = 13 := by simpa using hc
  have hs13 : ∀ c ∈ L.set j c', c.size = 13 := fun d hd => by
    rcases List.mem_or_eq_of_mem_set hd with e | e
    · exact h13 d e
    · rw [e]; exact hc
  refine ⟨by rw [vfl_len hs13, List.length_set, hL], .inr ⟨g, cap, _, rfl, hb, hw, h1, h2, ?_, ?_⟩⟩
  · rw [List.size_toArray, length_splice _ _ _ (by omega), hlc]
  · have e : cur'.toList = vfl L ++ cur'.toList.drop (n * 13) := by
      conv => lhs; rw [← List.take_append_drop (n * 13) cur'.toList, h4]
    rw [e, List.toList_toArray]
    have := vfl_set h13 j c' (by omega) hc (cur'.toList.drop (n * 13))
    rw [hL] at this
    exact this
end
section
open Go.RowKit Go
section
variable {P : Program} {Q : Exit → Act → World → Prop} {S : World → Prop} {l : List Oper} {fuel : Nat} {listed : Array Bool} {a : Act} {w : World}
theorem heldPair (i j : Nat) {oi oj : Oper} (vi vj : Value) (hi : l[i]? = some oi) (hj : l[j]? = some oj) (hr : Region.ready .any l.toArray listed = [i, j]) (hri : Region.ready .any l.toArray (listed.setIfInBounds i true) = [j]) (hrj : Region.ready .any l.toArray (listed.setIfInBounds j true) = [i])
    (hwi : ∀ t, Region.wanted oi (yielded l.toArray t) = true) (hwj : ∀ t, Region.wanted oj (yielded l.toArray t) = true) (hS : S w)
    (yi : (execOp a.eval oi).run P w = .ok (.value vi) w) (yj : (execOp a.eval oj).run P w = .ok (.value vj) w) (yi' : (execOp (a.put oj.dst vj).eval oi).run P w = .ok (.value vi) w) (yj' : (execOp (a.put oi.dst vi).eval oj).run P w = .ok (.value vj) w)
    (hc : (a.put oj.dst vj).put oi.dst vi = (a.put oi.dst vi).put oj.dst vj) (hl : (listed.setIfInBounds j true).setIfInBounds i true = (listed.setIfInBounds i true).setIfInBounds j true)
    (h : wpAnyH P .any l.toArray Q S fuel ((listed.setIfInBounds i true).setIfInBounds j true) ((a.put oi.dst vi).put oj.dst vj) w) : wpAnyH P .any l.toArray Q S (fuel + 1 + 1) listed a w := by
  refine wpAnyH_ready hr (by simp) (AllReadyH.cons (by simpa using hi) (fun K hK => ?_) (AllReadyH.cons (by simpa using hj) (fun K hK => ?_) AllReadyH.nil))
  · rw [if_pos (hwi _)]
    unfold Oper.wp
    rw [yi]
    refine hK.out _ _ hS (fun _ => wpAnyH_ready hri (by simp) (AllReadyH.cons (by simpa using hj) (fun K2 hK2 => ?_) AllReadyH.nil))
    rw [if_pos (hwj _)]
    unfold Oper.wp
    rw [yj']
    exact hK2.out _ _ hS (fun _ => h)
  · rw [if_pos (hwj _)]
    unfold Oper.wp
    rw [yj]
    refine hK.out _ _ hS (fun _ => wpAnyH_ready hrj (by simp) (AllReadyH.cons (by simpa using hi) (fun K2 hK2 => ?_) AllReadyH.nil))
    rw [if_pos (hwi _)]
    unfold Oper.wp
    rw [yi']
    refine hK2.out _ _ hS (fun _ => ?_)
    rw [hc, hl]
    exact h
end
end
section
open Go.RowKit Go
structure Byk (lo kb ib ck ci : Nat) (w : World) (d : Array (ByteArray × Array Value)) : Prop where
  k : w.ownsRow lo 9 1 (.slice (some ⟨kb, 0, none⟩) d.size ck) d.size (d.toList.map fun x => .string x.1)
  i : w.ownsRow lo 41 13 (.slice (some ⟨ib, 0, none⟩) d.size ci) d.size (vfl (d.toList.map fun x => x.2))
  c : ∀ x ∈ d.toList, one13 x.2
section
variable {lo kb ib ck ci : Nat} {w w' : World} {d : Array (ByteArray × Array Value)}
theorem Byk.keyAt (h : Byk lo kb ib ck ci w d) (i : Nat) (hi : i < d.size) : w.cell? ⟨kb, i, none⟩ = some (.string (d[i]!).1) ∧ w.frozen? ⟨kb, i, none⟩ = false := by
  refine own_cell h.k ?_
  rw [List.getElem?_map, Array.getElem?_toList, Array.getElem?_eq_getElem hi]
  simp [getElem!_pos d i hi]
theorem Byk.kp {S : Nat → Prop} (h : Byk lo kb ib ck ci w d) (hk : Kp S w w') (h1 : ¬ S kb) (h2 : ¬ S ib) : Byk lo kb ib ck ci w' d :=
  ⟨hk.owns h.k (fun q e => by cases e; exact h1), hk.owns h.i (fun q e => by cases e; exact h2), h.c⟩
end
theorem step_part9 {ops : Array Oper} {o : Oper} {a : Act} {K : Act → World → Prop} {Q : Exit → Act → World → Prop} {w : World} {T : TypeId} {p x : Operand} (hw : Region.wanted o (yielded ops a.tmps) = true) (ho : o.op = .store T p x) (g off : Nat) (cur cs : Array Value) (t : TypeId)
    (hp : a.eval p = .pointer (some ⟨g, off, none⟩)) (hx : a.eval x = .agg cs) (hg : w.heap[g]? = some (.cells cur t (0, 0))) (hi : (Tryz.prog.info? T).map (·.size) = some cs.size) (hf : off + cs.size ≤ cur.size) (h1 : ∀ v ∈ cs.toList, v.oneCell' = true)
    (h : K (a.put o.dst undef) (w.setRow g (splice cur.toList off cs.toList).toArray)) : if Region.wanted o (yielded ops a.tmps) = true then Oper.wp Tryz.prog o a w K Q else K (a.put o.dst undef) w := by
  rw [if_pos hw]
  unfold Oper.wp execOp
  have hr := part_store (w := w) (T := T) (t := t) g off cur.toList cs.toList (by simpa using hg) (by simpa using hi) (by simpa using hf) h1
  simp only [Array.toArray_toList] at hr
  simp only [ho, Sem.run_bind, hp, hx, hr, Result.andThen_ok]
  exact h
theorem kp_row9 (w : World) (g : Nat) (cs : Array Value) : Kp (fun q => q = g) w (w.setRow g cs) :=
  ⟨by unfold World.setRow; rfl, by unfold World.setRow; rfl, by unfold World.setRow; rfl, by unfold World.setRow; simp, fun k _ hk => row_other hk⟩
theorem own_cur9 {w : World} {B T g n cap : Nat} {xs : List Value} (h : w.ownsRow B T 13 (.slice (some ⟨g, 0, none⟩) n cap) n xs) : ∃ cur, w.heap[g]? = some (.cells cur T (0, 0)) ∧ n * 13 ≤ cur.size := by
  rcases h.2 with ⟨hv, _⟩ | ⟨g', cap', cur', hv, hb, hg', h1, h2, h3, h4⟩
  · cases hv
  injection hv with e1 e2 e3
  injection e1 with e1
  injection e1 with e1 _ _
  subst e1
  refine ⟨cur', hg', ?_⟩
  have h5 := congrArg List.length h4
  rw [h.1, List.length_take] at h5
  have h6 : cur'.toList.length = cur'.size := by simp
  omega
theorem swp_map {α β : Type} [Inhabited α] (d : Array α) (i j : Nat) (f : α → β) : (Sort.swp d i j).toList.map f = ((d.toList.map f).set i (f d[j]!)).set j (f d[i]!) := by
  simp [Sort.swp, List.map_set]
theorem bykSwap_any {lo kb ib ck ci : Nat} {w : World} {d : Array (ByteArray × Array Value)} (h : Byk lo kb ib ck ci w d) (i j : Nat) (hi : i < d.size) (hj : j < d.size) (hki : kb ≠ ib) : Calls Tryz.prog 183 #[.agg #[.slice (some ⟨kb, 0, none⟩) d.size ck, .slice (some ⟨ib, 0, none⟩) d.size ci], .int .i64 (i : Nat), .int .i64 (j : Nat)] w fun e w' => e = .returned (.tuple #[]) ∧ Hid (Byk lo kb ib ck ci w' (Sort.swp d i j)) ∧ Kp (fun q => q = kb ∨ q = ib) w w' := by
  obtain ⟨n, hnd⟩ : ∃ n, n = d.size := ⟨_, rfl⟩
  obtain ⟨s, hs⟩ : ∃ s, s = (d[i]!).1 := ⟨_, rfl⟩
  obtain ⟨t, ht⟩ : ∃ t, t = (d[j]!).1 := ⟨_, rfl⟩
  obtain ⟨g, hg⟩ : ∃ g, g = w.heap.size := ⟨_, rfl⟩
  obtain ⟨w0, hw0⟩ : ∃ w0, w0 = w.alloc (.cells #[.slice (some ⟨kb, 0, none⟩) n ck, .slice (some ⟨ib, 0, none⟩) n ci] 94) := ⟨_, rfl⟩
  have hkl : kb < g := by rw [hg]; exact (h.k.lt kb rfl).2
  have hil : ib < g := by rw [hg]; exact (h.i.lt ib rfl).2
  have h0 : Byk lo kb ib ck ci w0 d := h.kp (S := fun _ => False) (by rw [hw0]; exact (Kp.refl _ w).alloc _) id id
  have hk0 : Kp (fun q => q = kb ∨ q = ib) w w0 := by rw [hw0]; exact (Kp.refl _ w).alloc _
  have hb0 : w0.heap[g]? = some (.cells #[.slice (some ⟨kb, 0, none⟩) n ck, .slice (some ⟨ib, 0, none⟩) n ci] 94 (0, 0)) := by
    rw [hw0, hg]
    unfold World.alloc
    simp only [Array.getElem?_push_size]
  obtain ⟨c1, f1⟩ := h0.keyAt i hi
  obtain ⟨c2, f2⟩ := h0.keyAt j hj
  have hks : ∀ v, (w0.setCell ⟨kb, i, none⟩ v).ownsRow lo 9 1 (.slice (some ⟨kb, 0, none⟩) d.size ck) d.size ((d.toList.map fun x => .string x.1).set i v) := fun v => own_set v h0.k
  have hj2 : ((d.toList.map fun x => Value.string x.1).set i (.string t))[j]? = some (.string t) := by
    rw [List.getElem?_set]
    split
    · rename_i e
      subst e
      simp [hi]
    · rw [List.getElem?_map, Array.getElem?_toList, Array.getElem?_eq_getElem hj, ht]
      simp [getElem!_pos d j hj]
  obtain ⟨c3, f3⟩ := own_cell (hks (.string t)) hj2
  have hks2 := hide (own_set (j := j) (.string s) (hks (.string t)))
  have hbx : ∀ v, (w0.setCell ⟨kb, i, none⟩ v).heap[g]? = some (.cells #[.slice (some ⟨kb, 0, none⟩) n ck, .slice (some ⟨ib, 0, none⟩) n ci] 94 (0, 0)) := fun v => blk_other i v hb0 (by omega)
  have b1 := blk_cell (j := 0) (v := .slice (some ⟨kb, 0, none⟩) n ck) hb0 rfl
  have b3 : ∀ v, (w0.setCell ⟨kb, i, none⟩ v).cell? ⟨g, 0, none⟩ = some (.slice (some ⟨kb, 0, none⟩) n ck) := fun v => blk_cell (j := 0) (v := .slice (some ⟨kb, 0, none⟩) n ck) (hbx v) rfl
  obtain ⟨w1, hw1⟩ : ∃ w1, w1 = (w0.setCell ⟨kb, i, none⟩ (.string t)).setCell ⟨kb, j, none⟩ (.string s) := ⟨_, rfl⟩
  have hk1 : Kp (fun q => q = kb) w0 w1 := by rw [hw1]; exact ((Kp.refl (fun q => q = kb) w0).setCell ⟨kb, i, none⟩ _ (fun _ => rfl)).setCell ⟨kb, j, none⟩ _ (fun _ => rfl)
  have HK1 := hide (hk0.trans (hk1.mono (T := fun q => q = kb ∨ q = ib) (fun q _ e => .inl e)) (fun q _ e => e))
  have HR1 : Hid (w1.ownsRow lo 9 1 (.slice (some ⟨kb, 0, none⟩) d.size ck) d.size (((d.toList.map fun x => .string x.1).set i (.string t)).set j (.string s)) ∧ w1.ownsRow lo 41 13 (.slice (some ⟨ib, 0, none⟩) d.size ci) d.size (vfl (d.toList.map fun x => x.2)) ∧ w1.heap[g]? = some (.cells #[.slice (some ⟨kb, 0, none⟩) n ck, .slice (some ⟨ib, 0, none⟩) n ci] 94 (0, 0))) := by
    refine ⟨by rw [hw1]; exact hks2.out, hk1.owns h0.i (fun q e e2 => hki (by cases e; exact e2.symm)), ?_⟩
    rw [hk1.block g (blk_lt hb0) (fun e => by omega)]
    exact hb0
  have HST : Hid (s = (d[i]!).1 ∧ t = (d[j]!).1 ∧ ∀ x ∈ d.toList, one13 x.2) := ⟨hs, ht, h.c⟩
  rw [← hs] at c1
  rw [← ht] at c2
  rw [← hnd] at hi hj ⊢
  have gi : (i : Int) < (n : Int) := by omega
  have gj : (j : Int) < (n : Int) := by omega
  have HW0 := hide hw0
  have HG := hide hg
  have HW1 := hide hw1
  have HND := hide hnd
  clear h h0 hk0 hb0 hks hj2 hks2 hbx hk1 hs ht hw0 hg hw1 hnd
  go_enter Tryz.func183, Tryz.ntmps183
  go_wp2_with fail
  rw [← HW0.out, ← HG.out]
  go_region
  rw [← HW1.out]
  have HR2 : Hid (w1.drew.ownsRow lo 9 1 (.slice (some ⟨kb, 0, none⟩) d.size ck) d.size (((d.toList.map fun x => .string x.1).set i (.string t)).set j (.string s)) ∧ w1.drew.ownsRow lo 41 13 (.slice (some ⟨ib, 0, none⟩) d.size ci) d.size (vfl (d.toList.map fun x => x.2)) ∧ w1.drew.heap[g]? = some (.cells #[.slice (some ⟨kb, 0, none⟩) n ck, .slice (some ⟨ib, 0, none⟩) n ci] 94 (0, 0))) := HR1
  have HK2 : Hid (Kp (fun q => q = kb ∨ q = ib) w w1.drew) := HK1.out.drew
  clear HR1 HK1 HW1 HW0 b1 b3 c1 c2 c3 f1 f2 f3
  generalize w1.drew = w2 at *
  go_wp2_with fail
  have hS0 := hide (blk_cell (j := 1) (v := .slice (some ⟨ib, 0, none⟩) n ci) HR2.out.2.2 rfl)
  refine heldStart (S := fun wy => wy.cell? ⟨g, 1, none⟩ = some (.slice (some ⟨ib, 0, none⟩) n ci)) (by kernel_rfl) ?_
  have hS : w2.drew.cell? ⟨g, 1, none⟩ = some (.slice (some ⟨ib, 0, none⟩) n ci) := hS0.out
  refine heldTake 0 _ rfl (by kernel_rfl) (by kernel_rfl) (by kernel_rfl) (fun _ _ _ h => h) rfl hS (fun wy hy => by first | (go_simp; done) | (go_simp; rfl) | rfl) ?_
  (try simp only [Act.put]); (try simp only [LsA, Ls0, LsS])
  refine heldTake 1 _ rfl (by kernel_rfl) (by kernel_rfl) (by kernel_rfl) (fun _ _ _ h => h) rfl hS (fun wy hy => by have hb : wy.cell? ⟨g, 1, none⟩ = some (.slice (some ⟨ib, 0, none⟩) n ci) := hy; first | (go_simp; done) | (go_simp; rfl)) ?_
  (try simp only [Act.put]); (try simp only [LsA, Ls0, LsS])
  refine heldTake 2 _ rfl (by kernel_rfl) (by kernel_rfl) (by kernel_rfl) (fun _ _ _ h => h) rfl hS (fun wy hy => by first | (go_simp; done) | (go_simp; rfl) | rfl) ?_
  (try simp only [Act.put]); (try simp only [LsA, Ls0, LsS])
  refine heldTake 3 _ rfl (by kernel_rfl) (by kernel_rfl) (by kernel_rfl) (fun _ _ _ h => h) rfl hS (fun wy hy => by first | (go_simp; done) | (go_simp; rfl) | rfl) ?_
  (try simp only [Act.put]); (try simp only [LsA, Ls0, LsS])
  refine heldTake 4 _ rfl (by kernel_rfl) (by kernel_rfl) (by kernel_rfl) (fun _ _ _ h => h) rfl hS (fun wy hy => by have hb : wy.cell? ⟨g, 1, none⟩ = some (.slice (some ⟨ib, 0, none⟩) n ci) := hy; first | (go_simp; done) | (go_simp; rfl)) ?_
  (try simp only [Act.put]); (try simp only [LsA, Ls0, LsS])
  refine heldTake 5 _ rfl (by kernel_rfl) (by kernel_rfl) (by kernel_rfl) (fun _ _ _ h => h) rfl hS (fun wy hy => by first | (go_simp; done) | (go_simp; rfl) | rfl) ?_
  (try simp only [Act.put]); (try simp only [LsA, Ls0, LsS])
  refine heldTake 6 _ rfl (by kernel_rfl) (by kernel_rfl) (by kernel_rfl) (fun _ _ _ h => h) rfl hS (fun wy hy => by first | (go_simp; done) | (go_simp; rfl) | rfl) ?_
  (try simp only [Act.put]); (try simp only [LsA, Ls0, LsS])
  refine heldTake 7 _ rfl (by kernel_rfl) (by kernel_rfl) (by kernel_rfl) (fun _ _ _ h => h) rfl hS (fun wy hy => by have hb : wy.cell? ⟨g, 1, none⟩ = some (.slice (some ⟨ib, 0, none⟩) n ci) := hy; first | (go_simp; done) | (go_simp; rfl)) ?_
  (try simp only [Act.put]); (try simp only [LsA, Ls0, LsS])
  refine heldTake 8 _ rfl (by kernel_rfl) (by kernel_rfl) (by kernel_rfl) (fun _ _ _ h => h) rfl hS (fun wy hy => by first | (go_simp; done) | (go_simp; rfl) | rfl) ?_
  (try simp only [Act.put]); (try simp only [LsA, Ls0, LsS])
  refine heldTake 9 _ rfl (by kernel_rfl) (by kernel_rfl) (by kernel_rfl) (fun _ _ _ h => h) rfl hS (fun wy hy => by first | (go_simp; done) | (go_simp; rfl) | rfl) ?_
  (try simp only [Act.put]); (try simp only [LsA, Ls0, LsS])
  refine heldTake 11 _ rfl (by kernel_rfl) (by kernel_rfl) (by kernel_rfl) (fun _ _ _ h => h) rfl hS (fun wy hy => by first | (go_simp; done) | (go_simp; rfl) | rfl) ?_
  (try simp only [Act.put]); (try simp only [LsA, Ls0, LsS])
  refine heldTake 12 _ rfl (by kernel_rfl) (by kernel_rfl) (by kernel_rfl) (fun _ _ _ h => h) rfl hS (fun wy hy => by have hb : wy.cell? ⟨g, 1, none⟩ = some (.slice (some ⟨ib, 0, none⟩) n ci) := hy; first | (go_simp; done) | (go_simp; rfl)) ?_
  (try simp only [Act.put]); (try simp only [LsA, Ls0, LsS])
  refine heldTake 13 _ rfl (by kernel_rfl) (by kernel_rfl) (by kernel_rfl) (fun _ _ _ h => h) rfl hS (fun wy hy => by first | (go_simp; done) | (go_simp; rfl) | rfl) ?_
  (try simp only [Act.put]); (try simp only [LsA, Ls0, LsS])
  refine heldTake 14 _ rfl (by kernel_rfl) (by kernel_rfl) (by kernel_rfl) (fun _ _ _ h => h) rfl hS (fun wy hy => by first | (go_simp; done) | (go_simp; rfl) | rfl) ?_
  (try simp only [Act.put]); (try simp only [LsA, Ls0, LsS])
  obtain ⟨cJ, hcJ⟩ : ∃ c, c = (d[j]!).2 := ⟨_, rfl⟩
  obtain ⟨cI, hcI⟩ : ∃ c, c = (d[i]!).2 := ⟨_, rfl⟩
  obtain ⟨L, hL⟩ : ∃ L, L = d.toList.map fun x => x.2 := ⟨_, rfl⟩
  have hnd := HND.out
  have hLl : L.length = n := by rw [hL, hnd]; simp
  have hLi : L[i]? = some cI := by
    rw [hL, List.getElem?_map, Array.getElem?_toList, Array.getElem?_eq_getElem (by omega), hcI]
    simp [getElem!_pos d i (by omega)]
  have hLj : L[j]? = some cJ := by
    rw [hL, List.getElem?_map, Array.getElem?_toList, Array.getElem?_eq_getElem (by omega), hcJ]
    simp [getElem!_pos d j (by omega)]
  have hL1 : ∀ c ∈ L, one13 c := fun c hc => by
    rw [hL] at hc
    obtain ⟨x, hx, rfl⟩ := List.mem_map.1 hc
    exact HST.out.2.2 x hx
  have hI1 := hL1 cI (List.mem_of_getElem? hLi)
  have hJ1 := hL1 cJ (List.mem_of_getElem? hLj)
  have hO2 : w2.drew.ownsRow lo 41 13 (.slice (some ⟨ib, 0, none⟩) n ci) n (vfl L) := by rw [hL, hnd]; exact HR2.out.2.1
  obtain ⟨cur, hcur, hcs⟩ := own_cur9 hO2
  have hvI : ∀ m u, cI[m]? = some u → w2.drew.cell? ⟨ib, i * 13 + m, none⟩ = some u := fun m u hu => (own_val hO2 (fun c hc => (hL1 c hc).1) hLi m u hu)
  have hvJ : ∀ m u, cJ[m]? = some u → w2.drew.cell? ⟨ib, j * 13 + m, none⟩ = some u := fun m u hu => (own_val hO2 (fun c hc => (hL1 c hc).1) hLj m u hu)
  refine heldPair 10 15 (.agg cJ) (.agg cI) rfl rfl (by kernel_rfl) (by kernel_rfl) (by kernel_rfl) (fun _ => rfl) (fun _ => rfl) hS (exec_valAt rfl rfl hJ1.1 hvJ) (exec_valAt rfl rfl hI1.1 hvI) (exec_valAt rfl rfl hJ1.1 hvJ) (exec_valAt rfl rfl hI1.1 hvI) rfl rfl ?_
  (try simp only [Act.put]); (try simp only [LsA, Ls0, LsS])
  have HCI := hide hcI
  have HCJ := hide hcJ
  have HLD := hide hL
  have HLl := hide hLl
  have HL1 := hide hL1
  have HI1 := hide hI1
  have HJ1 := hide hJ1
  have HO2 := hide hO2
  have HCU := hide hcur
  have HCS := hide hcs
  clear hcI hcJ hL hnd hLl hLi hLj hL1 hI1 hJ1 hO2 hcur hcs hvI hvJ
  refine heldTake 16 _ rfl (by kernel_rfl) (by kernel_rfl) (by kernel_rfl) (fun _ _ _ h => h) rfl hS (fun wy hy => by first | (go_simp; done) | (go_simp; rfl) | rfl) ?_
  (try simp only [Act.put]); (try simp only [LsA, Ls0, LsS])
  have hin : (Tryz.prog.info? 41).map (·.size) = some 13 := by kernel_rfl
  refine heldStep 17 rfl (by kernel_rfl) (fun K hK => ?_)
  refine step_part9 rfl rfl ib (i * 13) cur cJ 41 rfl rfl HCU.out (by rw [HJ1.out.1]; exact hin) (by rw [HJ1.out.1]; have h1 := HCS.out; omega) HJ1.out.2 ?_
  obtain ⟨cur3, hcur3⟩ : ∃ cur3, cur3 = (splice cur.toList (i * 13) cJ.toList).toArray := ⟨_, rfl⟩
  rw [← hcur3]
  have hc3 : (w2.drew.setRow ib cur3).heap[ib]? = some (.cells cur3 41 (0, 0)) := row_same HCU.out
  have HO3 := hide (own_part HO2.out HLl.out (fun c hc => (HL1.out c hc).1) HCU.out hi HJ1.out.1 (by rw [← hcur3]; exact hc3))
  have HK3 := hide (HK2.out.drew.trans ((kp_row9 w2.drew ib cur3).mono (T := fun q => q = kb ∨ q = ib) (fun q _ e => .inr e)) (fun q _ e => e))
  have HB3 : Hid ((w2.drew.setRow ib cur3).heap[g]? = some (.cells #[.slice (some ⟨kb, 0, none⟩) n ck, .slice (some ⟨ib, 0, none⟩) n ci] 94 (0, 0))) := (row_other (by omega)).trans HR2.out.2.2
  have HK9 := hide ((kp_row9 w2.drew ib cur3).owns HR2.out.1 (fun q e e2 => hki (by cases e; exact e2)))
  have HC3 := hide hc3
  clear hc3 hcur3 HO2 HCU HCS HR2 HK2 hS0 hS
  generalize w2.drew.setRow ib cur3 = w3 at *
  have hS : w3.cell? ⟨g, 1, none⟩ = some (.slice (some ⟨ib, 0, none⟩) n ci) := blk_cell (j := 1) (v := .slice (some ⟨ib, 0, none⟩) n ci) HB3.out rfl
  refine (Hid.out hK) _ _ hS (fun _ => ?_)
  clear hK K
  (try simp only [Act.put]); (try simp only [LsA, Ls0, LsS])
  clear hin
  refine heldTake 18 _ rfl (by kernel_rfl) (by kernel_rfl) (by kernel_rfl) (fun _ _ _ h => h) rfl hS (fun wy hy => by first | (go_simp; done) | (go_simp; rfl) | rfl) ?_
  (try simp only [Act.put]); (try simp only [LsA, Ls0, LsS])
  have hin : (Tryz.prog.info? 41).map (·.size) = some 13 := by kernel_rfl
  obtain ⟨cur4, hcur4, hcs4⟩ := own_cur9 HO3.out
  refine heldStep 19 rfl (by kernel_rfl) (fun K hK => ?_)
  refine step_part9 rfl rfl ib (j * 13) cur4 cI 41 rfl rfl hcur4 (by rw [HI1.out.1]; exact hin) (by rw [HI1.out.1]; omega) HI1.out.2 ?_
  obtain ⟨cur5, hcur5⟩ : ∃ cur5, cur5 = (splice cur4.toList (j * 13) cI.toList).toArray := ⟨_, rfl⟩
  rw [← hcur5]
  have hc5 : (w3.setRow ib cur5).heap[ib]? = some (.cells cur5 41 (0, 0)) := row_same hcur4
  have HL5 : Hid (∀ c ∈ L.set i cJ, c.size = 13) := fun c hc => by
    rcases List.mem_or_eq_of_mem_set hc with e | e
    · exact (HL1.out c e).1
    · rw [e]; exact HJ1.out.1
  have HO5 := hide (own_part HO3.out (by rw [List.length_set]; exact HLl.out) HL5.out hcur4 hj HI1.out.1 (by rw [← hcur5]; exact hc5))
  have HK5 := hide (HK3.out.trans ((kp_row9 w3 ib cur5).mono (T := fun q => q = kb ∨ q = ib) (fun q _ e => .inr e)) (fun q _ e => e))
  have HB5 : Hid ((w3.setRow ib cur5).heap[g]? = some (.cells #[.slice (some ⟨kb, 0, none⟩) n ck, .slice (some ⟨ib, 0, none⟩) n ci] 94 (0, 0))) := (row_other (by omega)).trans HB3.out
  have HK8 := hide ((kp_row9 w3 ib cur5).owns HK9.out (fun q e e2 => hki (by cases e; exact e2)))
  clear hc5 hcur5 hcur4 hcs4 HO3 HC3 HK3 HB3 HK9 hS hin
  generalize w3.setRow ib cur5 = w5 at *
  have hS : w5.cell? ⟨g, 1, none⟩ = some (.slice (some ⟨ib, 0, none⟩) n ci) := blk_cell (j := 1) (v := .slice (some ⟨ib, 0, none⟩) n ci) HB5.out rfl
  refine (Hid.out hK) _ _ hS (fun _ => ?_)
  clear hK K
  (try simp only [Act.put]); (try simp only [LsA, Ls0, LsS])
  refine heldDone (by kernel_rfl) ?_
  have HE : Hid (Byk lo kb ib ck ci w5 (Sort.swp d i j)) := by
    have e1 := HST.out.1
    have e2 := HST.out.2.1
    have e3 : (Sort.swp d i j).size = n := (swp_size d i j).trans HND.out.symm
    refine ⟨?_, ?_, fun x hx => ?_⟩
    · rw [swp_map, e3, ← e1, ← e2, HND.out]
      exact HK8.out
    · rw [swp_map, e3, ← HCI.out, ← HCJ.out, ← HLD.out]
      exact HO5.out
    · have h1 : x.2 ∈ (Sort.swp d i j).toList.map fun x => x.2 := List.mem_map.2 ⟨x, hx, rfl⟩
      rw [swp_map, ← HCI.out, ← HCJ.out, ← HLD.out] at h1
      rcases List.mem_or_eq_of_mem_set h1 with e | e
      · rcases List.mem_or_eq_of_mem_set e with e | e
        · exact HL1.out _ e
        · rw [e]; exact HJ1.out
      · rw [e]; exact HI1.out
  clear HK8 HO5 HB5 hS HL1 HL5 HI1 HJ1 HLl HLD HCI HCJ
  go_wp2_with fail
  first
    | (go_end0; exact ⟨rfl, HE, HK5.out⟩)
    | exact bodyPost_ret (results_none rfl _ _ _) rfl ⟨rfl, HE, HK5.out⟩
end
section
open Go.RowKit Go

end
section
open Go.RowKit Go
def bfr (a b : List Nat) : Bool := if a.length = b.length then blt a b else decide (a.length < b.length)
theorem nat_ne {a b : Nat} : ((a : Int) != (b : Int)) = decide (a ≠ b) := by
  rw [Bool.eq_iff_iff]
  simp
  omega
end
section
open Go.RowKit Go
theorem grow_any (w : World) (n : Nat) (h0 : 0 < n) (hn : n ≤ 1000) :
    Calls Tryz.prog 148 #[.slice none 0 0, .int .i64 (n : Nat)] w fun e w' => ∃ v, e = .returned v ∧ w'.ownsRow w.heap.size 5 1 v 0 (bv []) ∧ Below w.heap.size w w' := by
  obtain ⟨i5, hi, hz0, hz1, hz2⟩ := info5_ex
  have hold : (Builtin.firstCells i5.size 0 (.slice none 0 0)).run Tryz.prog w.drew = .ok ([] : List Value).toArray w.drew := run_firstCells_none w.drew i5.size 0 0 0
  have hrz : ∀ ty, (Builtin.append_ #[26, 3] ty #[.slice none 0 0, .int .i64 (n : Nat)]).run Tryz.prog w = .ok (.slice (some ⟨w.heap.size, 0, none⟩) n (grownCap w n 0 5)) (w.drew.alloc (.cells (Builtin.zeroCells (Value.int .u8 0).cells n ++ Builtin.zeroCells (Value.int .u8 0).cells (grownCap w n 0 5 - n)) 5)) := fun ty => by
    have h := Lib.run_append_grow_zeros w 26 3 ty 5 i5 (.int .u8 0) .i64 .i64 Tryz.underlying26 Tryz.underlying3 hi hz0 none 0 0 [] hold n h0 (by rw [hz1]; omega) (by omega) (by omega) (by rw [hz2]; omega) (growslice_fits (by omega) (by rw [hz2]; omega))
    simpa using h
  have hG := grownCap_ge w n 0 5
  have hM := grownCap_le_maxLen w n 0 5 (by unfold maxLen; omega)
  have HO : Hid ((w.drew.alloc (.cells (Builtin.zeroCells (Value.int .u8 0).cells n ++ Builtin.zeroCells (Value.int .u8 0).cells (grownCap w n 0 5 - n)) 5)).ownsRow w.heap.size 5 1 (.slice (some ⟨w.heap.size, 0, none⟩) 0 (grownCap w n 0 5)) 0 (bv [])) := by
    refine ⟨rfl, .inr ⟨w.heap.size, grownCap w n 0 5, _, rfl, Nat.le_refl _, heap_alloc_new w.drew _, by omega, hM, ?_, by simp [bv]⟩⟩
    simp [Builtin.zeroCells, Value.cells]
    omega
  have HB : Hid (Below w.heap.size w (w.drew.alloc (.cells (Builtin.zeroCells (Value.int .u8 0).cells n ++ Builtin.zeroCells (Value.int .u8 0).cells (grownCap w n 0 5 - n)) 5))) := (Below.refl w.heap.size w).drew.alloc (Nat.le_refl _) _
  clear hold hi hz0 hz1 hz2
  have h1 : ¬ ((n : Int) < 0) := by omega
  have h4 : (n : Int) > 0 := by omega
  have hG63 : (grownCap w n 0 5 : Int) ≤ 9223372036854775807 := by unfold maxLen at hM; omega
  generalize grownCap w n 0 5 = G at *
  go_enter Tryz.func148, Tryz.ntmps148
  go_wp2_with (at_builtin; refine Lib.wpList_append_run _ rfl _ _ _ _ rfl _ _ rfl rfl _ _ (hrz _) ?_)
  go_ret
  exact ⟨_, rfl, HO.out, HB.out⟩
end
section
open Go.RowKit Go
structure Rws (w : World) (g : Nat) (vs : List Value) (xss : List (List Nat)) : Prop where
  n : vs.length = xss.length
  c : ∀ i, i < vs.length → w.cell? ⟨g, i, none⟩ = some (vs.getD i undef)
  b : ∀ i, i < vs.length → BSl w (vs.getD i undef) (xss.getD i [])
theorem Rws.below {w w' : World} {g : Nat} {vs : List Value} {xss : List (List Nat)} (h : Rws w g vs xss) (hb : Below w.heap.size w w') : Rws w' g vs xss :=
  ⟨h.n, fun i hi => keep_below hb _ _ (h.c i hi), fun i hi => (h.b i hi).move (keep_below hb)⟩
def fln (xss : List (List Nat)) (k : Nat) : Nat := (xss.take k).flatten.length
def fla (xss : List (List Nat)) (k : Nat) : List Nat := (xss.take k).flatten
theorem fla_len (xss : List (List Nat)) (k : Nat) : (fla xss k).length = fln xss k := rfl
theorem fla_succ (xss : List (List Nat)) (k : Nat) (hk : k < xss.length) : fla xss (k + 1) = fla xss k ++ xss.getD k [] := by
  unfold fla
  rw [List.take_succ_eq_append_getElem hk, List.flatten_append]
  simp [List.getD, hk]
theorem fln_succ (xss : List (List Nat)) (k : Nat) (hk : k < xss.length) : fln xss (k + 1) = fln xss k + (xss.getD k []).length := by
  rw [← fla_len, ← fla_len, fla_succ xss k hk, List.length_append]
theorem fln_le (xss : List (List Nat)) (k : Nat) : fln xss k ≤ fln xss xss.length := by
  unfold fln
  rw [List.take_length]
  conv => rhs; rw [← List.take_append_drop k xss, List.flatten_append, List.length_append]
  omega
end
section
open Go.RowKit Go
def lrow (l : Lk) : List Nat := if lok l then lbytes l else []
theorem lrow_byte {l : Lk} (h : ∀ x ∈ l.d, x < 256) : ∀ x ∈ lrow l, x < 256 := by
  unfold lrow
  split
  · exact lbytes_byte (by assumption) h
  · simp
end
section
open Go.RowKit Go
theorem blt_self : ∀ x, blt x x = false
  | [] => rfl
  | x :: r => by rw [blt, if_pos rfl, blt_self r]
end
section
open Go.RowKit Go
def agn (s t : ByteArray) : Int := if s.size = t.size then Lib.compareBytes s.data.toList t.data.toList else if s.size < t.size then -1 else 1
theorem cmpB_blt : ∀ (x y : List UInt8), x.length = y.length → (Lib.compareBytes x y < 0 ↔ blt (x.map UInt8.toNat) (y.map UInt8.toNat) = true)
  | [], [], _ => by simp [Lib.compareBytes, blt]
  | [], _ :: _, h => by simp at h
  | _ :: _, [], h => by simp at h
  | a :: x, b :: y, h => by
    have ih := cmpB_blt x y (by simpa using h)
    simp only [Lib.compareBytes, List.map_cons, blt]
    by_cases h1 : a < b
    · have h2 : a.toNat < b.toNat := h1
      rw [if_pos h1, if_neg (by omega)]
      simp [h2]
    · rw [if_neg h1]
      by_cases h2 : b < a
      · have h3 : b.toNat < a.toNat := h2
        rw [if_pos h2, if_neg (by omega)]
        simp
        omega
      · have h3 : a.toNat = b.toNat := by
          have e1 : ¬ a.toNat < b.toNat := h1
          have e2 : ¬ b.toNat < a.toNat := h2
          omega
        rw [if_neg h2, if_pos h3]
        exact ih
theorem agn_bfr (s t : ByteArray) : agn s t < 0 ↔ bfr (sl s) (sl t) = true := by
  unfold agn bfr
  rw [sl_len, sl_len]
  by_cases h : s.size = t.size
  · rw [if_pos h, if_pos h]
    exact cmpB_blt _ _ (by rw [Array.length_toList, Array.length_toList]; exact h)
  · rw [if_neg h, if_neg h]
    by_cases h2 : s.size < t.size <;> simp [h2]
theorem cmpString_any (a b : ByteArray) (w : World) : Calls Tryz.prog 139 #[.string a, .string b] w fun e w' => e = .returned (.int .i64 (Lib.compareBytes a.data.toList b.data.toList)) ∧ w' = w := by
  go_enter Tryz.func139, Tryz.ntmps139
  go_wp2
  rw [run_callFunc_extern Tryz.func157 (by kernel_rfl) (by kernel_rfl) (by kernel_rfl) (e := Extern.BytealgCompare.compare) (by kernel_rfl), Lib.run_compareString]
  simp only [Result.andThen]
  rw [Oper.upon_value]
  go_wp2
  go_ret
  exact ⟨rfl, rfl⟩
theorem strCompare_any (a b : ByteArray) (w : World) : Calls Tryz.prog 117 #[.string a, .string b] w fun e w' => e = .returned (.int .i64 (Lib.compareBytes a.data.toList b.data.toList)) ∧ w' = w := by
  go_enter Tryz.func117, Tryz.ntmps117
  go_wp2_with (go_at_call 139; refine (cmpString_any _ _ _).mono ?_; rintro e w' ⟨rfl, rfl⟩)
  go_ret
  exact ⟨rfl, rfl⟩
theorem isNaN_any (x : Int) (w : World) : Calls Tryz.prog 138 #[.int .i64 x] w fun e w' => e = .returned (.bool false) ∧ w' = w := by
  have g0 : (x != x) = false := by simp
  go_enter Tryz.func138, Tryz.ntmps138
  go_wp2_with fail
  go_ret
  exact ⟨rfl, rfl⟩
theorem cmpInt_any (x y : Int) (w : World) (h : x ≠ y) : Calls Tryz.prog 116 #[.int .i64 x, .int .i64 y] w fun e w' => e = .returned (.int .i64 (if x < y then -1 else 1)) ∧ w' = w := by
  go_enter Tryz.func116, Tryz.ntmps116
  by_cases hlt : x < y
  · rw [if_pos hlt]
    go_wp2_with (go_at_call 138; refine (isNaN_any _ _).mono ?_; rintro e w' ⟨rfl, rfl⟩)
    go_ret
    exact ⟨rfl, rfl⟩
  · have h2 : y < x := by omega
    rw [if_neg hlt]
    go_wp2_with (go_at_call 138; refine (isNaN_any _ _).mono ?_; rintro e w' ⟨rfl, rfl⟩)
    go_ret
    exact ⟨rfl, rfl⟩
theorem against_any (s t : ByteArray) (w : World) : Calls Tryz.prog 89 #[.string s, .string t] w fun e w' => e = .returned (.int .i64 (agn s t)) ∧ w' = w := by
  unfold agn
  go_enter Tryz.func89, Tryz.ntmps89
  by_cases h : s.size = t.size
  · rw [if_pos h]
    have g0 : ((s.size : Int) != (t.size : Int)) = false := by rw [nat_ne]; simp [h]
    clear h
    go_wp2_with (go_at_call 117; refine (strCompare_any _ _ _).mono ?_; rintro e w' ⟨rfl, rfl⟩)
    go_ret
    exact ⟨rfl, rfl⟩
  · rw [if_neg h]
    have g0 : ((s.size : Int) != (t.size : Int)) = true := by rw [nat_ne]; simp [h]
    have HC := hide (cmpInt_any (s.size : Int) (t.size : Int) w (by omega))
    have HE : Hid ((if (s.size : Int) < (t.size : Int) then (-1 : Int) else 1) = if s.size < t.size then -1 else 1) := by
      show _ = _
      by_cases h2 : s.size < t.size
      · rw [if_pos h2, if_pos (by omega)]
      · rw [if_neg h2, if_neg (by omega)]
    rw [HE.out] at HC
    clear h HE
    generalize (if s.size < t.size then (-1 : Int) else 1) = R at *
    go_wp2_with (go_at_call 116; refine HC.out.mono ?_; rintro e w' ⟨rfl, rfl⟩)
    go_ret
    exact ⟨rfl, rfl⟩
theorem before_any (s t : ByteArray) (w : World) : Calls Tryz.prog 67 #[.string s, .string t] w fun e w' => e = .returned (.bool (bfr (sl s) (sl t))) ∧ w' = w := by
  have HA := hide (against_any s t w)
  have HE : Hid (decide (agn s t < 0) = bfr (sl s) (sl t)) := by
    show _ = _
    rw [Bool.eq_iff_iff, decide_eq_true_iff]
    exact agn_bfr s t
  go_enter Tryz.func67, Tryz.ntmps67
  go_wp2_with (go_at_call 89; refine HA.out.mono ?_; rintro e w' ⟨rfl, rfl⟩)
  go_ret
  exact ⟨by rw [← HE.out]; rfl, rfl⟩
end
end Go.Proofs.YtmcamdcgnegmmaaGreatDoor

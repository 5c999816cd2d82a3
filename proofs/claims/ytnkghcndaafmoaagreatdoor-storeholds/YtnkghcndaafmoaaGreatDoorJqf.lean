import Derived.Test.YtnkghcndaafmoaaGreatDoorJqc
import Derived.Test.YtnkghcndaafmoaaGreatDoorJqe
namespace Go.Proofs.YtnkghcndaafmoaaGreatDoor
section
open Go.RowKit Go

end
section
open Go.RowKit Go
set_option maxRecDepth 1000000 in
set_option maxHeartbeats 4000000 in
theorem partitionEqualF_any {α : Type} [Inhabited α] {gl gs : FuncId} {lb sb : Array Value} {lt : α → α → Bool} {M : Nat} {St : World → Array α → Prop} (hM : Srf gl gs lb sb lt M St) {w : World} {d : Array α} (h : St w d) (a b pv : Nat) (mid : Nat) (d4 : Array α) (hr : Sort.partitionEqual lt d a b pv = (mid, d4)) (hab : a < b) (hpv : pv < b) (hb : b ≤ d.size) (hsz : d.size < 4611686018427387904) : Calls Tryz.prog 203 #[.agg (lsw gl gs lb sb), .int .i64 (a : Nat), .int .i64 (b : Nat), .int .i64 (pv : Nat)] w fun e w' => e = .returned (.int .i64 (mid : Nat)) ∧ Hid (St w' d4 ∧ a < mid ∧ mid ≤ b ∧ d4.size = d.size) := by
  obtain ⟨St2, hB, hM2, h2, hout⟩ := hM.enter h
  suffices key : Calls Tryz.prog 203 #[.agg (lsw gl gs lb sb), .int .i64 (a : Nat), .int .i64 (b : Nat), .int .i64 (pv : Nat)] w fun e w' => e = .returned (.int .i64 (mid : Nat)) ∧ Hid (St2 w' d4 ∧ a < mid ∧ mid ≤ b ∧ d4.size = d.size) from key.mono fun _ _ h => ⟨h.1, (hout (hide h.2.out.1)).out, h.2.out.2⟩
  clear hout hM h
  have HM := hide hB
  have HMF := hide hM2
  have el := hB.el
  have HS0 := h2
  have c0HS0 := HM.out.c0 HS0
  have c1HS0 := HM.out.c1 HS0
  obtain ⟨n, hn⟩ : ∃ n, n = d.size := ⟨_, rfl⟩
  rw [← hn] at hb hsz
  have HN := hide hn
  have HR := hide hr
  clear hB hM2 h2 hr
  have HRL : Hid ((mid, d4) = Sort.partEqLoop lt a (a + 1) (b - 1) (Sort.swp d a pv)) := HR.out.symm
  rw [← hn]
  clear HR hn
  go_enter Tryz.func203, Tryz.ntmps203
  go_upto_region 1 with fail
  generalize w.alloc (.cells (lsw gl gs lb sb) 200) = w1 at *
  generalize w.heap.size = g at *
  go_wp2_with fail
  refine upon_sz (HM.out.sz HS0 a pv _ _ rfl rfl (by have := HN.out; omega) (by have := HN.out; omega)) ?_
  rintro w0 hs0
  have c0w0 := HM.out.c0 hs0
  have c1w0 := HM.out.c1 hs0
  clear HS0
  go_wp2_with fail
  go_loopg [9, 10] (b - 1 + 1 - (a + 1)) (fun gk s9 s10 wx => ∃ (x y : Int) (i j : Nat), s9 = .int .i64 x ∧ s10 = .int .i64 y ∧ x = (i : Int) ∧ y = (j : Int) ∧ ∃ e : Array α, St2 wx e ∧ e.size = n ∧ a < i ∧ i ≤ j + 1 ∧ j < b ∧ j + 1 - i ≤ gk ∧ Sort.partEqLoop lt a i j e = (mid, d4))
  case atStart => exact ⟨_, _, a + 1, b - 1, rfl, rfl, by omega, by omega, _, hs0.out, (swp_size _ _ _).trans HN.out.symm, by omega, by omega, by omega, Nat.le_refl _, HRL.out.symm⟩
  case round =>
    obtain ⟨x, y, i, j, rfl, rfl, rfl, rfl, e, hs, hd, hai, hij, hjb, hgk, hrl⟩ := hrel
    have HS := hide hs
    have c0HS := HM.out.c0 HS
    have c1HS := HM.out.c1 HS
    clear HRL
    have HRL := hide hrl
    clear hs hrl hs0
    obtain ⟨I2, hI2⟩ : ∃ I2, Sort.scanUp (fun x => !lt e[a]! x) e j i = I2 := ⟨_, rfl⟩
    obtain ⟨J2, hJ2⟩ : ∃ J2, Sort.scanDown (fun x => lt e[a]! x) e I2 j = J2 := ⟨_, rfl⟩
    have HI2 := hide hI2
    have HJ2 := hide hJ2
    have HI3 := hide hI2
    have HJ3 := hide hJ2
    clear hI2 hJ2
    go_wp2_with fail
    go_loopg [9] (j + 2 - i) (fun gk si wx => ∃ (x : Int) (i' : Nat), si = .int .i64 x ∧ x = (i' : Int) ∧ (St2 wx e ∧ Sort.scanUp (fun x => !lt e[a]! x) e j i' = I2 ∧ i ≤ i' ∧ i' ≤ j + 1 ∧ j + 2 - i' ≤ gk))
    case atStart => exact ⟨_, i, rfl, by first | rfl | omega, HS.out, HI2.out, Nat.le_refl _, hij, Nat.le_refl _⟩
    case round =>
      obtain ⟨x, i', rfl, rfl, hs1, hi1, hii, hij', hg1⟩ := hrel
      have HSa := hide hs1
      have c0HSa := HM.out.c0 HSa
      have c1HSa := HM.out.c1 HSa
      have HIa := hide hi1
      clear hs1 hi1 HS HI2
      by_cases hle : i' ≤ j
      · have gz : (i' : Int) ≤ (j : Int) := by omega
        go_wp2_with fail
        refine (HM.out.lz HSa a i' _ _ (by first | rfl | omega) (by first | rfl | omega) (by omega) (by omega)).mono ?_
        rintro _ wa ⟨rfl, hsb⟩
        have c0wa := HM.out.c0 hsb
        have c1wa := HM.out.c1 hsb
        clear HSa
        generalize hlv : lt e[a]! e[i']! = lv at *
        have HLV := hide hlv
        clear hlv
        cases lv with
        | false =>
          as_aux_lemma =>
          go_wp2_with fail
          go_roundg (j + 2 - (i' + 1))
          case measure => omega
          case rel => exact ⟨_, i' + 1, rfl, by omega, hsb.out, (scanUp_go hle (by have h := HLV.out; simp [h])).symm.trans HIa.out, by omega, by omega, Nat.le_refl _⟩
        | true =>
          have hI : i' = I2 := (scanUp_no (fun h => by have h1 := h.2; have h2 := HLV.out; simp [h2] at h1)).symm.trans HIa.out
          subst hI
          clear HIa gz
          go_wp2_with fail
          go_loopg [10] j (fun gk sj wx => ∃ (y : Int) (j' : Nat), sj = .int .i64 y ∧ y = (j' : Int) ∧ (St2 wx e ∧ Sort.scanDown (fun x => lt e[a]! x) e i' j' = J2 ∧ j' ≤ j ∧ i' ≤ j' + 1 ∧ j' ≤ gk))
          case atStart => exact ⟨_, j, rfl, by first | rfl | omega, hsb.out, HJ2.out, Nat.le_refl _, by omega, Nat.le_refl _⟩
          case round =>
            obtain ⟨y, j', rfl, rfl, hs2, hj1, hjj, hij2, hg2⟩ := hrel
            have HSc := hide hs2
            have c0HSc := HM.out.c0 HSc
            have c1HSc := HM.out.c1 HSc
            have HJa := hide hj1
            clear hs2 hj1 hsb HJ2
            by_cases hle2 : i' ≤ j'
            · have gz2 : (i' : Int) ≤ (j' : Int) := by omega
              go_wp2_with fail
              refine (HM.out.lz HSc a j' _ _ (by first | rfl | omega) (by first | rfl | omega) (by omega) (by omega)).mono ?_
              rintro _ wb ⟨rfl, hsd⟩
              have c0wb := HM.out.c0 hsd
              have c1wb := HM.out.c1 hsd
              clear HSc
              generalize hlv2 : lt e[a]! e[j']! = lv2 at *
              have HLV2 := hide hlv2
              clear hlv2
              cases lv2 with
              | true =>
                as_aux_lemma =>
                go_wp2_with fail
                go_roundg (j' - 1)
                case measure => omega
                case rel => exact ⟨_, j' - 1, rfl, by omega, hsd.out, (scanDown_go (by omega) hle2 (by have h := HLV2.out; simp [h])).symm.trans HJa.out, by omega, by omega, Nat.le_refl _⟩
              | false =>
                as_aux_lemma =>
                have hJ : j' = J2 := (scanDown_no (fun h => by have h1 := h.2; have h2 := HLV2.out; simp [h2] at h1)).symm.trans HJa.out
                subst hJ
                have hne : i' ≠ j' := fun h => by have h1 := HLV.out; have h2 := HLV2.out; rw [h] at h1; rw [h1] at h2; cases h2
                have gz3 : ¬ ((i' : Int) > (j' : Int)) := by omega
                have gz4 : ¬ ((j' : Int) < (i' : Int)) := by omega
                clear HJa HLV HLV2 gz2
                have HPN := hide (HRL.out.symm.trans (parte_on HI3.out HJ3.out (by omega) (by omega) (by omega)))
                go_wp2_with fail
                refine upon_sz (HM.out.sz hsd i' j' _ _ (by first | rfl | omega) (by first | rfl | omega) (by omega) (by omega)) ?_
                rintro wc hse
                have c0wc := HM.out.c0 hse
                have c1wc := HM.out.c1 hse
                clear hsd
                go_wp2_with fail
                go_roundg (j' - 1 + 1 - (i' + 1))
                case measure => omega
                case rel => exact ⟨_, _, i' + 1, j' - 1, rfl, rfl, by omega, by omega, _, hse.out, (swp_size _ _ _).trans hd, by omega, by omega, by omega, Nat.le_refl _, HPN.out.symm⟩
            · as_aux_lemma =>
              have gz2 : ¬ ((i' : Int) ≤ (j' : Int)) := by omega
              have gz2b : decide ((i' : Int) ≤ (j' : Int)) = false := decide_eq_false gz2
              have gz3 : (j' : Int) < (i' : Int) := by omega
              have hJ : j' = J2 := (scanDown_no (fun h => hle2 h.1)).symm.trans HJa.out
              subst hJ
              have hgt : i' > j' := by omega
              have HSz := HSc
              clear HJa HSc HLV
              have HLE := hide (HRL.out.symm.trans (parte_brk HI3.out HJ3.out hgt))
              go_wp2_with fail
              go_ret
              refine ⟨by have h1 := congrArg Prod.fst HLE.out; simp only at h1; first | (rw [h1]; done) | (rw [h1]; rfl), ?_, ?_, ?_, ?_⟩
              · have h1 := congrArg Prod.snd HLE.out
                simp only at h1
                rw [h1]
                exact HSz.out
              · have h1 := congrArg Prod.fst HLE.out
                simp only at h1
                omega
              · have h1 := congrArg Prod.fst HLE.out
                simp only at h1
                omega
              · have h1 := congrArg Prod.snd HLE.out
                simp only at h1
                rw [h1]
                exact hd
      · as_aux_lemma =>
        have gz : ¬ ((i' : Int) ≤ (j : Int)) := by omega
        have gzb : decide ((i' : Int) ≤ (j : Int)) = false := decide_eq_false gz
        have hI : i' = I2 := (scanUp_no (fun h => hle h.1)).symm.trans HIa.out
        subst hI
        clear HIa
        go_wp2_with fail
        go_loopg [10] 0 (fun gk sj wx => ∃ (y : Int), sj = .int .i64 y ∧ y = (j : Int) ∧ St2 wx e)
        case atStart => exact ⟨_, rfl, by first | rfl | omega, HSa.out⟩
        case round =>
          obtain ⟨y, rfl, rfl, hs2⟩ := hrel
          have HSz := hide hs2
          have c0HSz := HM.out.c0 HSz
          have c1HSz := HM.out.c1 HSz
          have gz3 : (j : Int) < (i' : Int) := by omega
          have hJ : j = J2 := (scanDown_no (fun h => hle h.1)).symm.trans HJ2.out
          have hgt : i' > j := by omega
          clear hs2 HSa
          subst hJ
          have HLE := hide (HRL.out.symm.trans (parte_brk HI3.out HJ3.out hgt))
          go_wp2_with fail
          go_ret
          refine ⟨by have h1 := congrArg Prod.fst HLE.out; simp only at h1; first | (rw [h1]; done) | (rw [h1]; rfl), ?_, ?_, ?_, ?_⟩
          · have h1 := congrArg Prod.snd HLE.out
            simp only at h1
            rw [h1]
            exact HSz.out
          · have h1 := congrArg Prod.fst HLE.out
            simp only at h1
            omega
          · have h1 := congrArg Prod.fst HLE.out
            simp only at h1
            omega
          · have h1 := congrArg Prod.snd HLE.out
            simp only at h1
            rw [h1]
            exact hd
end
section
open Go.RowKit Go
section
variable {α : Type} [Inhabited α] {lt : α → α → Bool} {d : Array α}
theorem scs_go {b i : Nat} (h : i < b) (hl : lt d[i]! d[i - 1]! = false) : Sort.scanSorted lt d b i = Sort.scanSorted lt d b (i + 1) := by
  conv => lhs; unfold Sort.scanSorted
  rw [if_pos (by simp [hl, h])]
theorem scs_no {b i : Nat} (h : ¬ (i < b ∧ lt d[i]! d[i - 1]! = false)) : Sort.scanSorted lt d b i = i := by
  unfold Sort.scanSorted
  rw [if_neg (by simpa using h)]
theorem shd_go {j : Nat} (h : 1 ≤ j) (hl : lt d[j]! d[j - 1]! = true) : Sort.shiftDown lt j d = Sort.shiftDown lt (j - 1) (Sort.swp d j (j - 1)) := by
  cases j with
  | zero => omega
  | succ j =>
    rw [Nat.add_sub_cancel] at hl ⊢
    conv => lhs; unfold Sort.shiftDown
    rw [if_neg (by simp [hl])]
theorem shd_no {j : Nat} (h : ¬ (1 ≤ j ∧ lt d[j]! d[j - 1]! = true)) : Sort.shiftDown lt j d = d := by
  cases j with
  | zero => rfl
  | succ j =>
    rw [Nat.add_sub_cancel] at h
    unfold Sort.shiftDown
    rw [if_pos]
    simp only [Bool.not_eq_true']
    exact Bool.eq_false_iff.2 (fun e => h ⟨by omega, e⟩)
theorem shu_go {b j : Nat} (h : j < b) (hl : lt d[j]! d[j - 1]! = true) : Sort.shiftUp lt b j d = Sort.shiftUp lt b (j + 1) (Sort.swp d j (j - 1)) := by
  conv => lhs; unfold Sort.shiftUp
  rw [if_pos h, if_neg (by simp [hl])]
theorem shu_no {b j : Nat} (h : ¬ (j < b ∧ lt d[j]! d[j - 1]! = true)) : Sort.shiftUp lt b j d = d := by
  unfold Sort.shiftUp
  by_cases hj : j < b
  · rw [if_pos hj, if_pos]
    simp only [Bool.not_eq_true']
    exact Bool.eq_false_iff.2 (fun e => h ⟨hj, e⟩)
  · rw [if_neg hj]
theorem pin_yes {a b s i : Nat} (h : Sort.scanSorted lt d b i = b) : Sort.partialIns lt a b (s + 1) i d = (d, true) := by
  unfold Sort.partialIns
  simp only [h, if_true]
theorem pin_short {a b s i k : Nat} (h : Sort.scanSorted lt d b i = k) (hk : k ≠ b) (h5 : b - a < 50) : Sort.partialIns lt a b (s + 1) i d = (d, false) := by
  unfold Sort.partialIns
  simp only [h, hk, h5, if_true, if_false]
theorem pin_go {a b s i k : Nat} (h : Sort.scanSorted lt d b i = k) (hk : k ≠ b) (h5 : ¬ b - a < 50) {d1 d2 d3 : Array α} (e1 : Sort.swp d k (k - 1) = d1) (e2 : (if k - a ≥ 2 then Sort.shiftDown lt (k - 1) d1 else d1) = d2) (e3 : (if b - k ≥ 2 then Sort.shiftUp lt b (k + 1) d2 else d2) = d3) : Sort.partialIns lt a b (s + 1) i d = Sort.partialIns lt a b s k d3 := by
  conv => lhs; unfold Sort.partialIns
  simp only [h, hk, h5, if_false, e1, e2, e3]
theorem shd_size (lt : α → α → Bool) : ∀ (j : Nat) (d : Array α), (Sort.shiftDown lt j d).size = d.size
  | 0, d => rfl
  | j + 1, d => by
    unfold Sort.shiftDown
    split
    · rfl
    · rw [shd_size lt j, swp_size]
theorem shu_size (lt : α → α → Bool) (b : Nat) : ∀ (k j : Nat) (d : Array α), b - j ≤ k → (Sort.shiftUp lt b j d).size = d.size
  | 0, j, d, h => by rw [shu_no (fun e => by omega)]
  | k + 1, j, d, h => by
    unfold Sort.shiftUp
    split
    · split
      · rfl
      · rw [shu_size lt b k _ _ (by omega), swp_size]
    · rfl
end
end
end Go.Proofs.YtnkghcndaafmoaaGreatDoor

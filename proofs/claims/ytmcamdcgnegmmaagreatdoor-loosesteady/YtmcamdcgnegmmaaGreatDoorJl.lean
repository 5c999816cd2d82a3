import Derived.Test.YtmcamdcgnegmmaaGreatDoorJk
import Derived.Test.YtmcamdcgnegmmaaGreatDoorJb
import Derived.Laws.Bits64b
import Derived.Deep.LoopGhost
import Derived.Deep.CutBlock
import Derived.Deep.DeepCutAuto
set_option maxRecDepth 1000000
set_option maxHeartbeats 16000000
namespace Go.Proofs.YtmcamdcgnegmmaaGreatDoor
section
open Go.RowKit Go
theorem wrdx9 {w2 : World} {v : Value} {zs : List Nat} (h : BSl w2 v zs) (h8 : 8 ≤ zs.length) (t : Ext w2) : Calls Tryz.prog 88 #[v] t.w' fun e w'' => e = .returned (.int .u64 (wrd9 zs : Nat)) ∧ ∃ t' : Ext w2, w'' = t'.w' :=
  Calls.ext_below ((word9_any t.w' v zs (h.move (keep_below t.h)) h8).mono fun _ _ ⟨he, q, hq⟩ => ⟨he, hq ▸ below_drewN (Below.refl _ _) q⟩)
theorem vld_two9 {zs : List Nat} (hb : ∀ y ∈ zs, y < 256) (hm : (wrd9 zs ||| wrd9 (zs.drop 8)) &&& 9259542123273814144 = 0) : vld (zs.drop 16) = vld zs := by
  have h := or_mask9 hm
  have hb2 : ∀ y ∈ zs.drop 8, y < 256 := fun y hy => hb y (List.mem_of_mem_drop hy)
  have h2 := vld_word hb2 h.2
  rw [List.drop_drop] at h2
  exact h2.trans (vld_word hb h.1)
theorem vld_four9 {zs : List Nat} (hb : ∀ y ∈ zs, y < 256) (hm : ((wrd9 zs ||| wrd9 (zs.drop 8)) ||| (wrd9 (zs.drop 16) ||| wrd9 (zs.drop 24))) &&& 9259542123273814144 = 0) : vld (zs.drop 32) = vld zs := by
  have h := or_mask9 hm
  have hb2 : ∀ y ∈ zs.drop 16, y < 256 := fun y hy => hb y (List.mem_of_mem_drop hy)
  have h2 := vld_two9 hb2 (by rw [List.drop_drop]; exact h.2)
  rw [List.drop_drop] at h2
  exact h2.trans (vld_two9 hb h.1)
theorem cell_lt9 {w : World} {b o : Nat} {u : Value} (h : w.cell? ⟨b, o, none⟩ = some u) : b < w.heap.size := by
  refine Nat.lt_of_not_le fun hle => ?_
  rw [World.cell?] at h
  simp [Array.getElem?_eq_none hle] at h
theorem chk2_9 (n y1 y2 y3 lo hi : Nat) : Lib.checkN n y1 y2 y3 2 lo hi = if n < 2 ∨ y1 < lo ∨ hi < y1 then none else some 2 := rfl
theorem chk3_9 (n y1 y2 y3 lo hi : Nat) : Lib.checkN n y1 y2 y3 3 lo hi = if n < 3 ∨ y1 < lo ∨ hi < y1 ∨ y2 < 128 ∨ 191 < y2 then none else some 3 := rfl
theorem chk4_9 (n y1 y2 y3 lo hi : Nat) : Lib.checkN n y1 y2 y3 4 lo hi = if n < 4 ∨ y1 < lo ∨ hi < y1 ∨ y2 < 128 ∨ 191 < y2 ∨ y3 < 128 ∨ 191 < y3 then none else some 4 := rfl
theorem chk0_9 {n y1 y2 y3 sz lo hi : Nat} (h2 : ¬ sz = 2) (h3 : ¬ sz = 3) (h4 : ¬ sz = 4) : Lib.checkN n y1 y2 y3 sz lo hi = none := by
  unfold Lib.checkN
  rw [if_neg h2, if_neg h3, if_neg h4]
theorem valid9_any : VldC := by
  intro w vp ys hT hp hby
  obtain ⟨ANS, hANS⟩ : ∃ ANS, vld ys = ANS := ⟨_, rfl⟩
  rw [hANS]
  obtain ⟨⟨ad, cap, rfl, hn, hc⟩, hm, hb2⟩ := hp
  have HT := hide hT
  have HC : Hid (BSl w (.slice ad ys.length ys.length) ys) := ⟨⟨ad, _, rfl, ⟨Nat.le_refl _, fun e => by have := hn.2 e; omega⟩, hc⟩, hm, hb2⟩
  have HA := hide hANS
  clear hT hby hc hb2 hANS
  have hn1 : ys.length ≤ cap := hn.1
  have hz : ad = none → cap = 0 := hn.2
  clear hn
  generalize hl : ys.length = n at *
  have HL := hide hl
  clear hl
  have gcap : (n : Int) ≤ (cap : Int) := by omega
  have HSL : Hid (∀ wx, (if ad = none then Value.slice none 0 0 else Value.slice ad n n) = Value.slice ad n n) := fun _ => by
    split
    · rename_i e
      have := hz e
      subst e
      have : n = 0 := by omega
      subst this
      rfl
    · rfl
  go_enter Tryz.func64, Tryz.ntmps64
  rcases ad with _ | ⟨b, off, pt⟩
  · have hc0 := hz rfl
    subst hc0
    have hn0 : n = 0 := by omega
    subst hn0
    have HE : Hid (ANS = true) := by
      have h1 := HL.out
      show ANS = true
      rw [← HA.out, List.eq_nil_of_length_eq_zero h1]
      rfl
    clear HA HL HSL HC hz gcap hn1
    go_wp2_with fail
    go_loopg [0] 1 (fun _ s0 wx => s0 = .slice none 0 0 ∧ Below w.heap.size w wx)
    case atStart => exact ⟨rfl, Below.refl _ _⟩
    case round =>
      obtain ⟨rfl, hbw⟩ := hrel
      have HBW := hide hbw
      clear hbw
      go_wp2_with fail
      go_ret
      exact ⟨by rw [HE.out]; rfl, HBW.out⟩
  clear hz HSL
  go_wp2_with fail
  go_loopg [0] (n + 1) (fun gk s0 wx => ∃ (ad : Option Addr) (m : Nat) (zs : List Nat), s0 = .slice ad m m ∧ Hid (m = zs.length ∧ BSl wx (.slice ad m m) zs ∧ vld zs = ANS ∧ m < gk ∧ Below w.heap.size w wx))
  case atStart => exact ⟨_, n, ys, rfl, HL.out.symm, HC.out, HA.out, Nat.lt_succ_self _, Below.refl _ _⟩
  case round =>
    obtain ⟨ad, m, zs, rfl, hr⟩ := hrel
    obtain ⟨hm2, hbs, hv, hg, hbw⟩ := hr.out
    have hmx : m ≤ 9223372036854775807 := by rw [hm2]; exact hbs.max
    have HM2 := hide hm2
    have HBS := hide hbs
    have HV := hide hv
    have HBW := hide hbw
    clear hr hm2 hbs hv hbw
    by_cases hm0 : m = 0
    · subst hm0
      have HE : Hid (ANS = true ∧ Below w.heap.size w wr) := by
        refine ⟨?_, HBW.out⟩
        rw [← HV.out, List.eq_nil_of_length_eq_zero HM2.out.symm]
        rfl
      clear HBS HV HM2
      go_wp2_with fail
      go_ret
      exact ⟨by rw [HE.out.1]; rfl, HE.out.2⟩
    obtain ⟨b2, off2, hab, hcell⟩ : ∃ b off, ad = some ⟨b, off, none⟩ ∧ ∀ j, j < m → wr.cell? ⟨b, off + j, none⟩ = some (.int .u8 ((zs.getD j 0 : Nat) : Int)) := by
      obtain ⟨⟨a2, c2, e2, -, h2⟩, -, -⟩ := HBS.out
      injection e2 with e2 _ _
      subst e2
      rcases h2 with h2 | ⟨b, off, e, h2⟩
      · have := HM2.out
        rw [h2] at this
        exact absurd this hm0
      · exact ⟨b, off, e, fun j hj => h2 j (by rw [← HM2.out]; exact hj)⟩
    subst hab
    have c0 : wr.cell? ⟨b2, off2, none⟩ = some (.int .u8 ((zs.getD 0 0 : Nat) : Int)) := hcell 0 (by omega)
    have HCE := hide hcell
    have hy0 : zs.getD 0 0 < 256 := getD_lt HBS.out.byte 0
    have gm0 : (m : Int) > 0 := by omega
    have gm1 : (0 : Int) < (m : Int) := by omega
    clear hcell
    by_cases ha : zs.getD 0 0 < 128
    · as_aux_lemma =>
        have HV1 := hide ((vld_low HBS.out.byte 1 (fun j hj => (show j = 0 from Nat.lt_one_iff.1 hj) ▸ ha)).trans HV.out)
        generalize zs.getD 0 0 = y0 at *
        have gy : (y0 : Int) < 128 := by omega
        by_cases h1 : m = 1
        · subst h1
          have HN1 : Hid (zs.drop 1 = []) := List.drop_eq_nil_of_le (by rw [← HM2.out]; exact Nat.le_refl _)
          go_wp2_with fail
          go_roundg 1
          case measure => omega
          case rel => exact ⟨_, 0, [], rfl, rfl, ⟨⟨_, _, rfl, ⟨Nat.le_refl _, fun _ => rfl⟩, .inl rfl⟩, by decide, fun x hx => by cases hx⟩, by rw [← HN1.out]; exact HV1.out, by omega, HBW.out⟩
        · obtain ⟨m1, hm1⟩ : ∃ m1, m1 = m - 1 := ⟨_, rfl⟩
          have k1 : m - 1 = m1 := hm1.symm
          have km : m1 + 1 = m := by omega
          obtain ⟨z1, hz1⟩ : ∃ z1, z1 = zs.drop 1 := ⟨_, rfl⟩
          have HB1 : Hid (BSl wr (.slice (some ⟨b2, off2 + 1, none⟩) m1 m1) z1 ∧ m1 = z1.length ∧ vld z1 = ANS) := by
            have h2 := HBS.out.drop 1 (by rw [← HM2.out]; omega)
            rw [k1] at h2
            rw [hz1]
            exact ⟨h2, by rw [List.length_drop, ← HM2.out, k1], HV1.out⟩
          have HKM := hide km
          clear hz1 hm1 km HBS HV HV1 HM2 HCE
          by_cases c8 : 8 < m1
          · have g8 : (m1 : Int) > 8 := by omega
            have HZB : Hid (∀ y ∈ z1, y < 256) := HB1.out.1.byte
            obtain ⟨A, hA⟩ : ∃ A, A = wrd9 z1 := ⟨_, rfl⟩
            have hAl : A < 18446744073709551616 := by rw [hA]; exact wrd9_lt z1 HZB.out
            obtain ⟨Z, hZ⟩ : ∃ Z, A &&& 9259542123273814144 = Z := ⟨_, rfl⟩
            have hand : bits .and .u64 (A : Int) 9259542123273814144 = (Z : Int) := by
              have h2 := bits_and_u64_nat A 9259542123273814144 hAl (by decide)
              rw [hZ] at h2
              exact h2
            have HAZ : Hid (A = wrd9 z1 ∧ A &&& 9259542123273814144 = Z) := ⟨hA, hZ⟩
            have HAl := hide hAl
            clear hA hZ hAl
            go_wp2_with fail
            refine (word9_any wr _ z1 HB1.out.1 (by rw [← HB1.out.2.1]; omega)).mono ?_
            rintro _ w2 ⟨rfl, hq⟩
            rw [← HAZ.out.1]
            have HBW2 : Hid (Below w.heap.size w w2) := by obtain ⟨q, rfl⟩ := hq; exact below_drewN HBW.out q
            have HB2 : Hid (BSl w2 (.slice (some ⟨b2, off2 + 1, none⟩) m1 m1) z1 ∧ m1 = z1.length ∧ vld z1 = ANS) := by
              obtain ⟨q, rfl⟩ := hq
              exact ⟨HB1.out.1.move (fun _ _ h => h), HB1.out.2⟩
            clear hq HBW HB1 c0
            by_cases hz0 : Z = 0
            · have gz0 : ((Z : Int) == 0) = true := by simp [hz0]
              obtain ⟨m2, hm2⟩ : ∃ m2, m2 = m1 - 8 := ⟨_, rfl⟩
              have k2 : m1 - 8 = m2 := hm2.symm
              obtain ⟨z2, hz2⟩ : ∃ z2, z2 = z1.drop 8 := ⟨_, rfl⟩
              have HB3 : Hid (BSl w2 (.slice (some ⟨b2, off2 + 1 + 8, none⟩) m2 m2) z2 ∧ m2 = z2.length ∧ vld z2 = ANS) := by
                have h2 := HB2.out.1.drop 8 (by rw [← HB2.out.2.1]; omega)
                rw [k2] at h2
                rw [hz2]
                exact ⟨h2, by rw [List.length_drop, ← HB2.out.2.1, k2], (vld_word HZB.out (by rw [← HAZ.out.1, HAZ.out.2]; exact hz0)).trans HB2.out.2.2⟩
              have HKM2 : Hid (m2 + 9 = m) := by have := HKM.out; show _ = _; omega
              have n18 : ¬ m1 = 8 := by omega
              clear hz2 hm2 HB2 HZB HAZ HAl hz0
              by_cases c16 : 16 < m2
              · have g16 : (m2 : Int) > 16 := by omega
                have g16b : decide ((m2 : Int) > 16) = true := decide_eq_true g16
                have n28 : ¬ m2 = 8 := by omega
                have g28 : (8 : Int) ≤ (m2 : Int) := by omega
                obtain ⟨m3, hm3⟩ : ∃ m3, m3 = m2 - 8 := ⟨_, rfl⟩
                have k3 : m2 - 8 = m3 := hm3.symm
                have HZB2 : Hid (∀ y ∈ z2, y < 256) := HB3.out.1.byte
                have hd8 := HB3.out.1.drop 8 (by rw [← HB3.out.2.1]; omega)
                rw [k3] at hd8
                have HW1 : Hid (∀ t : Ext w2, _) := fun t => wrdx9 HB3.out.1 (by rw [← HB3.out.2.1]; omega) t
                have HW2 : Hid (∀ t : Ext w2, _) := fun t => wrdx9 hd8 (by rw [List.length_drop, ← HB3.out.2.1]; omega) t
                obtain ⟨A2, hA2⟩ : ∃ A2, A2 = wrd9 z2 := ⟨_, rfl⟩
                obtain ⟨B2, hB2⟩ : ∃ B2, B2 = wrd9 (z2.drop 8) := ⟨_, rfl⟩
                have hAl2 : A2 < 18446744073709551616 := by rw [hA2]; exact wrd9_lt z2 HZB2.out
                have hBl2 : B2 < 18446744073709551616 := by rw [hB2]; exact wrd9_lt _ (fun y hy => HZB2.out y (List.mem_of_mem_drop hy))
                rw [← hA2] at HW1
                rw [← hB2] at HW2
                obtain ⟨O2, hO2⟩ : ∃ O2, A2 ||| B2 = O2 := ⟨_, rfl⟩
                have hor : bits .or .u64 (A2 : Int) (B2 : Int) = (O2 : Int) := by rw [← hO2]; exact bits_or_u64_nat A2 B2 hAl2 hBl2
                have hOl : O2 < 18446744073709551616 := by rw [← hO2]; exact Nat.or_lt_two_pow (n := 64) hAl2 hBl2
                obtain ⟨Z2, hZ2⟩ : ∃ Z2, O2 &&& 9259542123273814144 = Z2 := ⟨_, rfl⟩
                have hand2 : bits .and .u64 (O2 : Int) 9259542123273814144 = (Z2 : Int) := by
                  have h2 := bits_and_u64_nat O2 9259542123273814144 hOl (by decide)
                  rw [hZ2] at h2
                  exact h2
                have HV16 : Hid (Z2 = 0 → vld (z2.drop 16) = ANS) := fun e => (vld_two9 HZB2.out (by rw [← hA2, ← hB2, hO2, hZ2]; exact e)).trans HB3.out.2.2
                clear hm3 hd8 hA2 hB2 hAl2 hBl2 hO2 hOl hZ2 HZB2
                go_wp2_with fail
                refine region_ext (by kernel_rfl) (by kernel_rfl) ?_
                with_reducible refine wpQuiet_step (fun K hK => ?_)
                go_simp
                with_reducible refine hK _ ?_
                clear hK K
                with_reducible refine wpQuiet_step (fun K hK => ?_)
                go_simp
                with_reducible refine hK _ ?_
                clear hK K
                with_reducible refine wpQuiet_step (fun K hK => ?_)
                go_simp
                with_reducible refine hK _ ?_
                clear hK K
                with_reducible refine wpQuiet_step (fun K hK => ?_)
                go_simp
                with_reducible refine hK _ ?_
                clear hK K
                with_reducible refine wpQuiet_step (fun K hK => ?_)
                go_simp
                with_reducible refine hK _ ?_
                clear hK K
                with_reducible refine wpQuiet_step (fun K hK => ?_)
                go_simp
                apply Exists.intro
                refine ⟨fun _ => ?_, hK _ ?_⟩
                (go_at_call 88; exact Hid.out HW1 _)
                clear hK K
                with_reducible refine wpQuiet_step (fun K hK => ?_)
                go_simp
                with_reducible refine hK _ ?_
                clear hK K
                with_reducible refine wpQuiet_step (fun K hK => ?_)
                go_simp
                with_reducible refine hK _ ?_
                clear hK K
                with_reducible refine wpQuiet_step (fun K hK => ?_)
                go_simp
                apply Exists.intro
                refine ⟨fun _ => ?_, hK _ ?_⟩
                (go_at_call 88; exact Hid.out HW2 _)
                clear hK K
                with_reducible refine wpQuiet_step (fun K hK => ?_)
                go_simp
                with_reducible refine hK _ ?_
                clear hK K
                with_reducible refine wpQuiet_step (fun K hK => ?_)
                go_simp
                with_reducible refine hK _ ?_
                clear hK K
                with_reducible refine wpQuiet_step (fun K hK => ?_)
                go_simp
                with_reducible refine hK _ ?_
                clear hK K
                with_reducible refine wpQuiet_step (fun K hK => ?_)
                go_simp
                with_reducible refine hK _ ?_
                clear hK K
                refine wpQuiet_nil ?_
                rintro _ ⟨tq, rfl⟩
                have HBW3 : Hid (Below w.heap.size w tq.w') := HBW2.out.trans (tq.h.mono HBW2.out.size)
                have HB4 : Hid (BSl tq.w' (.slice (some ⟨b2, off2 + 1 + 8, none⟩) m2 m2) z2 ∧ m2 = z2.length ∧ vld z2 = ANS) := ⟨HB3.out.1.move (keep_below tq.h), HB3.out.2⟩
                clear HW1 HW2 HB3 HBW2
                generalize tq.w' = w3 at *
                clear tq
                by_cases hz2 : Z2 = 0
                · have gz2 : ((Z2 : Int) == 0) = true := by simp [hz2]
                  have gz2b : decide ((Z2 : Int) = 0) = true := by simp [hz2]
                  obtain ⟨m4, hm4⟩ : ∃ m4, m4 = m2 - 16 := ⟨_, rfl⟩
                  have k4 : m2 - 16 = m4 := hm4.symm
                  have n216 : ¬ m2 = 16 := by omega
                  obtain ⟨z4, hz4⟩ : ∃ z4, z4 = z2.drop 16 := ⟨_, rfl⟩
                  have HB5 : Hid (BSl w3 (.slice (some ⟨b2, off2 + 1 + 8 + 16, none⟩) m4 m4) z4 ∧ m4 = z4.length ∧ vld z4 = ANS) := by
                    have h2 := HB4.out.1.drop 16 (by rw [← HB4.out.2.1]; omega)
                    rw [k4] at h2
                    rw [hz4]
                    exact ⟨h2, by rw [List.length_drop, ← HB4.out.2.1, k4], HV16.out hz2⟩
                  have HKM4 : Hid (m4 + 25 = m) := by have := HKM2.out; show _ = _; omega
                  clear hm4 hz4 HB4 HV16 hz2
                  go_wp2_with fail
                  rw [gz2]
                  clear gz2 gz2b
                  go_loopg [0] (m4 + 1) (fun g2 s0 wx => ∃ (ad : Option Addr) (k : Nat) (zs : List Nat), s0 = .slice ad k k ∧ Hid (k = zs.length ∧ BSl wx (.slice ad k k) zs ∧ vld zs = ANS ∧ k < g2 ∧ k < m ∧ Below w.heap.size w wx))
                  case atStart => exact ⟨_, m4, z4, rfl, HB5.out.2.1, HB5.out.1, HB5.out.2.2, Nat.lt_succ_self _, by have := HKM4.out; omega, HBW3.out⟩
                  case round =>
                    clear HB5 HBW3
                    obtain ⟨ad, k, zz, rfl, hr⟩ := hrel
                    obtain ⟨hk2, hbs, hv, hg2, hkm, hbw⟩ := hr.out
                    have hkx : k ≤ 9223372036854775807 := by rw [hk2]; exact hbs.max
                    have HK2 := hide hk2
                    have HBS := hide hbs
                    have HV := hide hv
                    have HBW := hide hbw
                    clear hr hk2 hbs hv hbw
                    by_cases c32 : 32 < k
                    · have g32 : (k : Int) > 32 := by omega
                      have g32b : decide ((k : Int) > 32) = true := decide_eq_true g32
                      obtain ⟨b3, off3, hab⟩ : ∃ b off, ad = some ⟨b, off, none⟩ := by
                        obtain ⟨⟨a2, c2, e2, -, h2⟩, -, -⟩ := HBS.out
                        injection e2 with e2 _ _
                        subst e2
                        rcases h2 with h2 | ⟨b, off, e, h2⟩
                        · have := HK2.out
                          rw [h2] at this
                          have : k = 0 := this
                          omega
                        · exact ⟨b, off, e⟩
                      subst hab
                      have n28 : ¬ k = 8 := by omega
                      have n216 : ¬ k = 16 := by omega
                      have n224 : ¬ k = 24 := by omega
                      have n232 : ¬ k = 32 := by omega
                      have g28 : (8 : Int) ≤ (k : Int) := by omega
                      have g216 : (16 : Int) ≤ (k : Int) := by omega
                      have g224 : (24 : Int) ≤ (k : Int) := by omega
                      have g232 : (32 : Int) ≤ (k : Int) := by omega
                      obtain ⟨q8, hq8⟩ : ∃ q8, k - 8 = q8 := ⟨_, rfl⟩
                      obtain ⟨q16, hq16⟩ : ∃ q16, k - 16 = q16 := ⟨_, rfl⟩
                      obtain ⟨q24, hq24⟩ : ∃ q24, k - 24 = q24 := ⟨_, rfl⟩
                      obtain ⟨q32, hq32⟩ : ∃ q32, k - 32 = q32 := ⟨_, rfl⟩
                      have HZB2 : Hid (∀ y ∈ zz, y < 256) := HBS.out.byte
                      have HDB : Hid (∀ j, ∀ y ∈ zz.drop j, y < 256) := fun j y hy => HZB2.out y (List.mem_of_mem_drop hy)
                      have hd8 := HBS.out.drop 8 (by rw [← HK2.out]; omega)
                      have hd16 := HBS.out.drop 16 (by rw [← HK2.out]; omega)
                      have hd24 := HBS.out.drop 24 (by rw [← HK2.out]; omega)
                      rw [hq8] at hd8
                      rw [hq16] at hd16
                      rw [hq24] at hd24
                      have HW1 : Hid (∀ t : Ext wr, _) := fun t => wrdx9 HBS.out (by rw [← HK2.out]; omega) t
                      have HW2 : Hid (∀ t : Ext wr, _) := fun t => wrdx9 hd8 (by rw [List.length_drop, ← HK2.out]; omega) t
                      have HW3 : Hid (∀ t : Ext wr, _) := fun t => wrdx9 hd16 (by rw [List.length_drop, ← HK2.out]; omega) t
                      have HW4 : Hid (∀ t : Ext wr, _) := fun t => wrdx9 hd24 (by rw [List.length_drop, ← HK2.out]; omega) t
                      obtain ⟨A2, hA2⟩ : ∃ A2, A2 = wrd9 zz := ⟨_, rfl⟩
                      obtain ⟨B2, hB2⟩ : ∃ B2, B2 = wrd9 (zz.drop 8) := ⟨_, rfl⟩
                      obtain ⟨C2, hC2⟩ : ∃ C2, C2 = wrd9 (zz.drop 16) := ⟨_, rfl⟩
                      obtain ⟨D2, hD2⟩ : ∃ D2, D2 = wrd9 (zz.drop 24) := ⟨_, rfl⟩
                      have hAl2 : A2 < 18446744073709551616 := by rw [hA2]; exact wrd9_lt zz HZB2.out
                      have hBl2 : B2 < 18446744073709551616 := by rw [hB2]; exact wrd9_lt _ (HDB.out 8)
                      have hCl2 : C2 < 18446744073709551616 := by rw [hC2]; exact wrd9_lt _ (HDB.out 16)
                      have hDl2 : D2 < 18446744073709551616 := by rw [hD2]; exact wrd9_lt _ (HDB.out 24)
                      rw [← hA2] at HW1
                      rw [← hB2] at HW2
                      rw [← hC2] at HW3
                      rw [← hD2] at HW4
                      obtain ⟨O2, hO2⟩ : ∃ O2, A2 ||| B2 = O2 := ⟨_, rfl⟩
                      have hor : bits .or .u64 (A2 : Int) (B2 : Int) = (O2 : Int) := by rw [← hO2]; exact bits_or_u64_nat A2 B2 hAl2 hBl2
                      have hOl : O2 < 18446744073709551616 := by rw [← hO2]; exact Nat.or_lt_two_pow (n := 64) hAl2 hBl2
                      obtain ⟨P2, hP2⟩ : ∃ P2, C2 ||| D2 = P2 := ⟨_, rfl⟩
                      have hor2 : bits .or .u64 (C2 : Int) (D2 : Int) = (P2 : Int) := by rw [← hP2]; exact bits_or_u64_nat C2 D2 hCl2 hDl2
                      have hPl : P2 < 18446744073709551616 := by rw [← hP2]; exact Nat.or_lt_two_pow (n := 64) hCl2 hDl2
                      obtain ⟨R2, hR2⟩ : ∃ R2, O2 ||| P2 = R2 := ⟨_, rfl⟩
                      have hor3 : bits .or .u64 (O2 : Int) (P2 : Int) = (R2 : Int) := by rw [← hR2]; exact bits_or_u64_nat O2 P2 hOl hPl
                      have hRl : R2 < 18446744073709551616 := by rw [← hR2]; exact Nat.or_lt_two_pow (n := 64) hOl hPl
                      obtain ⟨Z2, hZ2⟩ : ∃ Z2, R2 &&& 9259542123273814144 = Z2 := ⟨_, rfl⟩
                      have hand2 : bits .and .u64 (R2 : Int) 9259542123273814144 = (Z2 : Int) := by
                        have h2 := bits_and_u64_nat R2 9259542123273814144 hRl (by decide)
                        rw [hZ2] at h2
                        exact h2
                      have HV32 : Hid (Z2 = 0 → vld (zz.drop 32) = ANS) := fun e => (vld_four9 HZB2.out (by rw [← hA2, ← hB2, ← hC2, ← hD2, hO2, hP2, hR2, hZ2]; exact e)).trans HV.out
                      clear hd8 hd16 hd24 hA2 hB2 hC2 hD2 hAl2 hBl2 hCl2 hDl2 hO2 hP2 hR2 hOl hPl hRl hZ2 HZB2 HDB
                      go_wp2_with fail
                      refine region_ext (by kernel_rfl) (by kernel_rfl) ?_
                      with_reducible refine wpQuiet_step (fun K hK => ?_)
                      go_simp
                      with_reducible refine hK _ ?_
                      clear hK K
                      with_reducible refine wpQuiet_step (fun K hK => ?_)
                      go_simp
                      with_reducible refine hK _ ?_
                      clear hK K
                      with_reducible refine wpQuiet_step (fun K hK => ?_)
                      go_simp
                      with_reducible refine hK _ ?_
                      clear hK K
                      with_reducible refine wpQuiet_step (fun K hK => ?_)
                      go_simp
                      with_reducible refine hK _ ?_
                      clear hK K
                      with_reducible refine wpQuiet_step (fun K hK => ?_)
                      go_simp
                      with_reducible refine hK _ ?_
                      clear hK K
                      with_reducible refine wpQuiet_step (fun K hK => ?_)
                      go_simp
                      apply Exists.intro
                      refine ⟨fun _ => ?_, hK _ ?_⟩
                      (go_at_call 88; exact Hid.out HW1 _)
                      clear hK K
                      with_reducible refine wpQuiet_step (fun K hK => ?_)
                      go_simp
                      with_reducible refine hK _ ?_
                      clear hK K
                      with_reducible refine wpQuiet_step (fun K hK => ?_)
                      go_simp
                      with_reducible refine hK _ ?_
                      clear hK K
                      with_reducible refine wpQuiet_step (fun K hK => ?_)
                      go_simp
                      apply Exists.intro
                      refine ⟨fun _ => ?_, hK _ ?_⟩
                      (go_at_call 88; exact Hid.out HW2 _)
                      clear hK K
                      with_reducible refine wpQuiet_step (fun K hK => ?_)
                      go_simp
                      with_reducible refine hK _ ?_
                      clear hK K
                      with_reducible refine wpQuiet_step (fun K hK => ?_)
                      go_simp
                      with_reducible refine hK _ ?_
                      clear hK K
                      with_reducible refine wpQuiet_step (fun K hK => ?_)
                      go_simp
                      with_reducible refine hK _ ?_
                      clear hK K
                      with_reducible refine wpQuiet_step (fun K hK => ?_)
                      go_simp
                      apply Exists.intro
                      refine ⟨fun _ => ?_, hK _ ?_⟩
                      (go_at_call 88; exact Hid.out HW3 _)
                      clear hK K
                      with_reducible refine wpQuiet_step (fun K hK => ?_)
                      go_simp
                      with_reducible refine hK _ ?_
                      clear hK K
                      with_reducible refine wpQuiet_step (fun K hK => ?_)
                      go_simp
                      with_reducible refine hK _ ?_
                      clear hK K
                      with_reducible refine wpQuiet_step (fun K hK => ?_)
                      go_simp
                      apply Exists.intro
                      refine ⟨fun _ => ?_, hK _ ?_⟩
                      (go_at_call 88; exact Hid.out HW4 _)
                      clear hK K
                      with_reducible refine wpQuiet_step (fun K hK => ?_)
                      go_simp
                      with_reducible refine hK _ ?_
                      clear hK K
                      with_reducible refine wpQuiet_step (fun K hK => ?_)
                      go_simp
                      with_reducible refine hK _ ?_
                      clear hK K
                      with_reducible refine wpQuiet_step (fun K hK => ?_)
                      go_simp
                      with_reducible refine hK _ ?_
                      clear hK K
                      with_reducible refine wpQuiet_step (fun K hK => ?_)
                      go_simp
                      with_reducible refine hK _ ?_
                      clear hK K
                      with_reducible refine wpQuiet_step (fun K hK => ?_)
                      go_simp
                      with_reducible refine hK _ ?_
                      clear hK K
                      refine wpQuiet_nil ?_
                      rintro _ ⟨tq, rfl⟩
                      have HBW6 : Hid (Below w.heap.size w tq.w') := HBW.out.trans (tq.h.mono HBW.out.size)
                      have HB6 : Hid (BSl tq.w' (.slice (some ⟨b3, off3, none⟩) k k) zz) := HBS.out.move (keep_below tq.h)
                      clear HW1 HW2 HW3 HW4 HBS HBW
                      generalize tq.w' = w6 at *
                      clear tq
                      by_cases hz2 : Z2 = 0
                      · have gz2 : ((Z2 : Int) == 0) = true := by simp [hz2]
                        have gz2b : decide ((Z2 : Int) = 0) = true := by simp [hz2]
                        have HB7 : Hid (BSl w6 (.slice (some ⟨b3, off3 + 32, none⟩) q32 q32) (zz.drop 32) ∧ q32 = (zz.drop 32).length ∧ vld (zz.drop 32) = ANS) := by
                          have h2 := HB6.out.drop 32 (by rw [← HK2.out]; omega)
                          rw [hq32] at h2
                          exact ⟨h2, by rw [List.length_drop, ← HK2.out, hq32], HV32.out hz2⟩
                        have HQK : Hid (q32 < k) := by show q32 < k; omega
                        go_wp2_with fail
                        go_roundg k
                        case measure => omega
                        case rel => exact ⟨_, q32, zz.drop 32, rfl, HB7.out.2.1, HB7.out.1, HB7.out.2.2, HQK.out, by have := HQK.out; omega, HBW6.out⟩
                      · have gz2 : ((Z2 : Int) == 0) = false := by simp; omega
                        have gz2b : decide ((Z2 : Int) = 0) = false := by simp; omega
                        go_wp2_with fail
                        go_roundg m
                        case measure => omega
                        case rel => exact ⟨_, k, zz, rfl, HK2.out, HB6.out, HV.out, hkm, HBW6.out⟩
                    · have g32 : ¬ ((k : Int) > 32) := by omega
                      have g32b : decide ((k : Int) > 32) = false := decide_eq_false g32
                      go_wp2_with fail
                      go_quiet (fail)
                      go_wp2_with fail
                      go_roundg m
                      case measure => omega
                      case rel => exact ⟨_, k, zz, rfl, HK2.out, HBS.out.move (fun _ _ h => h), HV.out, hkm, below_drewN HBW.out _⟩
                · have gz2 : ((Z2 : Int) == 0) = false := by simp; omega
                  have gz2b : decide ((Z2 : Int) = 0) = false := by simp; omega
                  go_wp2_with fail
                  go_roundg m
                  case measure => omega
                  case rel => exact ⟨_, m2, z2, rfl, HB4.out.2.1, HB4.out.1, HB4.out.2.2, by have := HKM2.out; omega, HBW3.out⟩
              · have g16 : ¬ ((m2 : Int) > 16) := by omega
                have g16b : decide ((m2 : Int) > 16) = false := decide_eq_false g16
                go_wp2_with fail
                go_quiet (fail)
                go_wp2_with fail
                go_roundg m
                case measure => omega
                case rel => exact ⟨_, m2, z2, rfl, HB3.out.2.1, HB3.out.1.move (fun _ _ h => h), HB3.out.2.2, by have := HKM2.out; omega, below_drewN HBW2.out _⟩
            · have gz0 : ((Z : Int) == 0) = false := by simp; omega
              go_wp2_with fail
              go_roundg m
              case measure => omega
              case rel => exact ⟨_, m1, z1, rfl, HB2.out.2.1, HB2.out.1, HB2.out.2.2, by have := HKM.out; omega, HBW2.out⟩
          · have g8 : ¬ ((m1 : Int) > 8) := by omega
            have g8b : decide ((m1 : Int) > 8) = false := decide_eq_false g8
            go_wp2_with fail
            go_roundg m
            case measure => omega
            case rel => exact ⟨_, m1, z1, rfl, HB1.out.2.1, HB1.out.1, HB1.out.2.2, by have := HKM.out; omega, HBW.out⟩
    · have hge : 128 ≤ zs.getD 0 0 := by omega
      have HVL : Hid (_ = ANS) := (vld_lead (by intro e; rw [e] at HM2; exact hm0 HM2.out) HBS.out.byte hge).symm.trans HV.out
      have HTw := HT.out.next HBW.out
      generalize zs.getD 0 0 = y0 at *
      have gy : ¬ ((y0 : Int) < 128) := by omega
      have gyb : decide ((y0 : Int) < 128) = false := decide_eq_false gy
      obtain ⟨X, hX⟩ : ∃ X, X = Lib.firstT y0 := ⟨_, rfl⟩
      have hX5 : X < 80 ∨ X = 241 := by
        have h1 := Lib.firstT_cases y0
        have h2 : Lib.firstT y0 ≠ 240 := by
          unfold Lib.firstT
          rw [if_neg (by omega)]
          repeat' split
          all_goals decide
        rw [← hX] at h1 h2
        omega
      have hXl : X < 256 := by omega
      have t0 : wr.cell? ⟨1, y0, none⟩ = some (.int .u8 (X : Int)) := by rw [hX]; exact HTw.1 y0 hy0
      have hai : X / 16 < 16 := by omega
      have t1 : wr.cell? ⟨2, 2 * (X / 16), none⟩ = some (.int .u8 (Lib.accLo (X / 16) : Nat)) := (HTw.2 (X / 16) hai).1
      have t2 : wr.cell? ⟨2, 2 * (X / 16) + 1, none⟩ = some (.int .u8 (Lib.accHi (X / 16) : Nat)) := (HTw.2 (X / 16) hai).2
      rw [← hX] at HVL
      have gy2 : (y0 : Int) < 256 := by omega
      obtain ⟨sz, hsz⟩ : ∃ sz : Nat, sz = X % 8 := ⟨_, rfl⟩
      have hs8 : (X : Int) % 8 = (sz : Int) := by omega
      obtain ⟨ai, hai2⟩ : ∃ ai : Nat, ai = X / 16 := ⟨_, rfl⟩
      have hs16 : (X : Int) / 16 = (ai : Int) := by omega
      rw [← hai2] at t1 t2 hai HVL
      rw [← hsz] at HVL
      have hszl : sz < 8 := by omega
      obtain ⟨lo, hlo⟩ : ∃ lo, lo = Lib.accLo ai := ⟨_, rfl⟩
      obtain ⟨hi, hhi⟩ : ∃ hi, hi = Lib.accHi ai := ⟨_, rfl⟩
      rw [← hlo] at t1 HVL
      rw [← hhi] at t2 HVL
      have HI3 : Hid ((Tryz.prog.info? 163).map (·.size) = some 2) := by show _ = _; kernel_rfl
      have HA3 : Hid (∀ w, (isAgg 163).run Tryz.prog w = .ok true w) := fun w => by kernel_rfl
      have HC3 : Hid (∀ j u, (#[.int .u8 (lo : Int), .int .u8 (hi : Int)] : Array Value)[j]? = some u → wr.cell? ⟨2, 2 * ai + j, none⟩ = some u) := by
        intro j u hu
        match j, hu with
        | 0, hu => exact (by simpa using hu : Value.int .u8 (lo : Int) = u) ▸ t1
        | 1, hu => exact (by simpa using hu : Value.int .u8 (hi : Int) = u) ▸ t2
        | (j + 2), hu => simp at hu
      have gai : (ai : Int) < 16 := by omega
      have HSZ := hide (And.intro hsz hai2)
      clear hX hsz hai2 hlo hhi t1 t2 hX5
      have HAW : Hid (Below wr.heap.size wr (wr.alloc (.cells #[.int .u8 (lo : Int), .int .u8 (hi : Int)] 163))) := below_alloc4 wr _
      have HAW2 : Hid (Below w.heap.size w (wr.alloc (.cells #[.int .u8 (lo : Int), .int .u8 (hi : Int)] 163))) := HBW.out.trans (HAW.out.mono HBW.out.size)
      have hb2w : b2 < wr.heap.size := cell_lt9 (by exact HCE.out 0 (by omega))
      rw [← HM2.out] at HVL
      have c1 : 1 < m → wr.cell? ⟨b2, off2 + 1, none⟩ = some (.int .u8 ((zs.getD 1 0 : Nat) : Int)) := fun h => HCE.out 1 h
      have c2 : 2 < m → wr.cell? ⟨b2, off2 + 2, none⟩ = some (.int .u8 ((zs.getD 2 0 : Nat) : Int)) := fun h => HCE.out 2 h
      have c3 : 3 < m → wr.cell? ⟨b2, off2 + 3, none⟩ = some (.int .u8 ((zs.getD 3 0 : Nat) : Int)) := fun h => HCE.out 3 h
      generalize zs.getD 1 0 = y1 at *
      generalize zs.getD 2 0 = y2 at *
      generalize zs.getD 3 0 = y3 at *
      have HC1 := hide c1
      have HC2 := hide c2
      have HC3' := hide c3
      clear c1 c2 c3 HCE HV
      by_cases s2 : sz = 2
      · subst s2
        as_aux_lemma =>
          by_cases gm : m < 2
          · have HE : Hid (ANS = false) := by
              show ANS = false
              rw [← HVL.out, chk2_9, if_pos (.inl gm)]
            have gmi : ((m : Int) < 2) := by omega
            have gmb : decide ((m : Int) < 2) = true := decide_eq_true gmi
            clear gm
            go_upto_region 14 with fail
            go_wp2_with (refine wpList_aggAt rfl rfl HI3.out HA3.out 2 (2 * ai) #[.int .u8 (lo : Int), .int .u8 (hi : Int)] ?_ rfl HC3.out ?_)
            go_quiet (fail)
            go_wp2_with fail
            go_ret
            exact ⟨by rw [HE.out]; rfl, below_drewN HAW2.out _⟩
          have gmi : ¬ ((m : Int) < 2) := by omega
          have gmb : decide ((m : Int) < 2) = false := decide_eq_false gmi
          have e1 := HC1.out (by omega)
          have gj1 : (1 : Int) < (m : Int) := by omega
          by_cases d1 : y1 < lo
          · have HE : Hid (ANS = false) := by
              show ANS = false
              rw [← HVL.out, chk2_9, if_pos (.inr (.inl d1))]
            have d1i : ((y1 : Int) < (lo : Int)) := by omega
            have d1b : decide ((y1 : Int) < (lo : Int)) = true := decide_eq_true d1i
            clear d1
            go_upto_region 14 with fail
            go_wp2_with (refine wpList_aggAt rfl rfl HI3.out HA3.out 2 (2 * ai) #[.int .u8 (lo : Int), .int .u8 (hi : Int)] ?_ rfl HC3.out ?_)
            go_quiet (fail)
            go_wp2_with fail
            go_ret
            exact ⟨by rw [HE.out]; rfl, below_drewN HAW2.out _⟩
          have d1i : ¬ ((y1 : Int) < (lo : Int)) := by omega
          have d1b : decide ((y1 : Int) < (lo : Int)) = false := decide_eq_false d1i
          by_cases d2 : hi < y1
          · have HE : Hid (ANS = false) := by
              show ANS = false
              rw [← HVL.out, chk2_9, if_pos (.inr (.inr (d2)))]
            have d2i : ((hi : Int) < (y1 : Int)) := by omega
            have d2b : decide ((hi : Int) < (y1 : Int)) = true := decide_eq_true d2i
            clear d2
            go_upto_region 14 with fail
            go_wp2_with (refine wpList_aggAt rfl rfl HI3.out HA3.out 2 (2 * ai) #[.int .u8 (lo : Int), .int .u8 (hi : Int)] ?_ rfl HC3.out ?_)
            go_quiet (fail)
            go_wp2_with fail
            go_ret
            exact ⟨by rw [HE.out]; rfl, below_drewN HAW2.out _⟩
          have d2i : ¬ ((hi : Int) < (y1 : Int)) := by omega
          have d2b : decide ((hi : Int) < (y1 : Int)) = false := decide_eq_false d2i
          have HE : Hid (vld (zs.drop 2) = ANS) := by
            show _ = ANS
            rw [← HVL.out, chk2_9, if_neg (not_or.2 ⟨gm, not_or.2 ⟨d1, d2⟩⟩)]
          have gle : 2 ≤ m := by omega
          have glei : (2 : Int) ≤ (m : Int) := by omega
          by_cases me : m = 2
          · subst me
            have HN : Hid (zs.drop 2 = []) := List.drop_eq_nil_of_le (by rw [← HM2.out]; exact Nat.le_refl _)
            go_upto_region 14 with fail
            go_wp2_with (refine wpList_aggAt rfl rfl HI3.out HA3.out 2 (2 * ai) #[.int .u8 (lo : Int), .int .u8 (hi : Int)] ?_ rfl HC3.out ?_)
            go_quiet (fail)
            go_wp2_with fail
            go_roundg 2
            case measure => omega
            case rel => exact ⟨_, 0, [], rfl, rfl, ⟨⟨_, _, rfl, ⟨Nat.le_refl _, fun _ => rfl⟩, .inl rfl⟩, by decide, fun x hx => by cases hx⟩, by rw [← HN.out]; exact HE.out, by omega, below_drewN HAW2.out _⟩
          · obtain ⟨mq, hmq⟩ : ∃ mq, m - 2 = mq := ⟨_, rfl⟩
            have HQ : Hid (BSl wr (.slice (some ⟨b2, off2 + 2, none⟩) mq mq) (zs.drop 2) ∧ mq = (zs.drop 2).length) := by
              have h2 := HBS.out.drop 2 (by rw [← HM2.out]; omega)
              rw [hmq] at h2
              exact ⟨h2, by rw [List.length_drop, ← HM2.out, hmq]⟩
            have HQM : Hid (mq < m) := by show mq < m; omega
            go_upto_region 14 with fail
            go_wp2_with (refine wpList_aggAt rfl rfl HI3.out HA3.out 2 (2 * ai) #[.int .u8 (lo : Int), .int .u8 (hi : Int)] ?_ rfl HC3.out ?_)
            go_quiet (fail)
            go_wp2_with fail
            go_roundg m
            case measure => omega
            case rel => exact ⟨_, mq, zs.drop 2, rfl, HQ.out.2, HQ.out.1.move (keep_below (below_drewN HAW.out _)), HE.out, HQM.out, below_drewN HAW2.out _⟩
      by_cases s3 : sz = 3
      · subst s3
        as_aux_lemma =>
          by_cases gm : m < 3
          · have HE : Hid (ANS = false) := by
              show ANS = false
              rw [← HVL.out, chk3_9, if_pos (.inl gm)]
            have gmi : ((m : Int) < 3) := by omega
            have gmb : decide ((m : Int) < 3) = true := decide_eq_true gmi
            clear gm
            go_upto_region 14 with fail
            go_wp2_with (refine wpList_aggAt rfl rfl HI3.out HA3.out 2 (2 * ai) #[.int .u8 (lo : Int), .int .u8 (hi : Int)] ?_ rfl HC3.out ?_)
            go_quiet (fail)
            go_wp2_with fail
            go_ret
            exact ⟨by rw [HE.out]; rfl, below_drewN HAW2.out _⟩
          have gmi : ¬ ((m : Int) < 3) := by omega
          have gmb : decide ((m : Int) < 3) = false := decide_eq_false gmi
          have e1 := HC1.out (by omega)
          have gj1 : (1 : Int) < (m : Int) := by omega
          have e2 := HC2.out (by omega)
          have gj2 : (2 : Int) < (m : Int) := by omega
          by_cases d1 : y1 < lo
          · have HE : Hid (ANS = false) := by
              show ANS = false
              rw [← HVL.out, chk3_9, if_pos (.inr (.inl d1))]
            have d1i : ((y1 : Int) < (lo : Int)) := by omega
            have d1b : decide ((y1 : Int) < (lo : Int)) = true := decide_eq_true d1i
            clear d1
            go_upto_region 14 with fail
            go_wp2_with (refine wpList_aggAt rfl rfl HI3.out HA3.out 2 (2 * ai) #[.int .u8 (lo : Int), .int .u8 (hi : Int)] ?_ rfl HC3.out ?_)
            go_quiet (fail)
            go_wp2_with fail
            go_ret
            exact ⟨by rw [HE.out]; rfl, below_drewN HAW2.out _⟩
          have d1i : ¬ ((y1 : Int) < (lo : Int)) := by omega
          have d1b : decide ((y1 : Int) < (lo : Int)) = false := decide_eq_false d1i
          by_cases d2 : hi < y1
          · have HE : Hid (ANS = false) := by
              show ANS = false
              rw [← HVL.out, chk3_9, if_pos (.inr (.inr (.inl d2)))]
            have d2i : ((hi : Int) < (y1 : Int)) := by omega
            have d2b : decide ((hi : Int) < (y1 : Int)) = true := decide_eq_true d2i
            clear d2
            go_upto_region 14 with fail
            go_wp2_with (refine wpList_aggAt rfl rfl HI3.out HA3.out 2 (2 * ai) #[.int .u8 (lo : Int), .int .u8 (hi : Int)] ?_ rfl HC3.out ?_)
            go_quiet (fail)
            go_wp2_with fail
            go_ret
            exact ⟨by rw [HE.out]; rfl, below_drewN HAW2.out _⟩
          have d2i : ¬ ((hi : Int) < (y1 : Int)) := by omega
          have d2b : decide ((hi : Int) < (y1 : Int)) = false := decide_eq_false d2i
          by_cases d3 : y2 < 128
          · have HE : Hid (ANS = false) := by
              show ANS = false
              rw [← HVL.out, chk3_9, if_pos (.inr (.inr (.inr (.inl d3))))]
            have d3i : ((y2 : Int) < 128) := by omega
            have d3b : decide ((y2 : Int) < 128) = true := decide_eq_true d3i
            clear d3
            go_upto_region 14 with fail
            go_wp2_with (refine wpList_aggAt rfl rfl HI3.out HA3.out 2 (2 * ai) #[.int .u8 (lo : Int), .int .u8 (hi : Int)] ?_ rfl HC3.out ?_)
            go_quiet (fail)
            go_wp2_with fail
            go_ret
            exact ⟨by rw [HE.out]; rfl, below_drewN HAW2.out _⟩
          have d3i : ¬ ((y2 : Int) < 128) := by omega
          have d3b : decide ((y2 : Int) < 128) = false := decide_eq_false d3i
          by_cases d4 : 191 < y2
          · have HE : Hid (ANS = false) := by
              show ANS = false
              rw [← HVL.out, chk3_9, if_pos (.inr (.inr (.inr (.inr (d4)))))]
            have d4i : ((191 : Int) < (y2 : Int)) := by omega
            have d4b : decide ((191 : Int) < (y2 : Int)) = true := decide_eq_true d4i
            clear d4
            go_upto_region 14 with fail
            go_wp2_with (refine wpList_aggAt rfl rfl HI3.out HA3.out 2 (2 * ai) #[.int .u8 (lo : Int), .int .u8 (hi : Int)] ?_ rfl HC3.out ?_)
            go_quiet (fail)
            go_wp2_with fail
            go_ret
            exact ⟨by rw [HE.out]; rfl, below_drewN HAW2.out _⟩
          have d4i : ¬ ((191 : Int) < (y2 : Int)) := by omega
          have d4b : decide ((191 : Int) < (y2 : Int)) = false := decide_eq_false d4i
          have HE : Hid (vld (zs.drop 3) = ANS) := by
            show _ = ANS
            rw [← HVL.out, chk3_9, if_neg (not_or.2 ⟨gm, not_or.2 ⟨d1, not_or.2 ⟨d2, not_or.2 ⟨d3, d4⟩⟩⟩⟩)]
          have gle : 3 ≤ m := by omega
          have glei : (3 : Int) ≤ (m : Int) := by omega
          by_cases me : m = 3
          · subst me
            have HN : Hid (zs.drop 3 = []) := List.drop_eq_nil_of_le (by rw [← HM2.out]; exact Nat.le_refl _)
            go_upto_region 14 with fail
            go_wp2_with (refine wpList_aggAt rfl rfl HI3.out HA3.out 2 (2 * ai) #[.int .u8 (lo : Int), .int .u8 (hi : Int)] ?_ rfl HC3.out ?_)
            go_quiet (fail)
            go_wp2_with fail
            go_roundg 3
            case measure => omega
            case rel => exact ⟨_, 0, [], rfl, rfl, ⟨⟨_, _, rfl, ⟨Nat.le_refl _, fun _ => rfl⟩, .inl rfl⟩, by decide, fun x hx => by cases hx⟩, by rw [← HN.out]; exact HE.out, by omega, below_drewN HAW2.out _⟩
          · obtain ⟨mq, hmq⟩ : ∃ mq, m - 3 = mq := ⟨_, rfl⟩
            have HQ : Hid (BSl wr (.slice (some ⟨b2, off2 + 3, none⟩) mq mq) (zs.drop 3) ∧ mq = (zs.drop 3).length) := by
              have h2 := HBS.out.drop 3 (by rw [← HM2.out]; omega)
              rw [hmq] at h2
              exact ⟨h2, by rw [List.length_drop, ← HM2.out, hmq]⟩
            have HQM : Hid (mq < m) := by show mq < m; omega
            go_upto_region 14 with fail
            go_wp2_with (refine wpList_aggAt rfl rfl HI3.out HA3.out 2 (2 * ai) #[.int .u8 (lo : Int), .int .u8 (hi : Int)] ?_ rfl HC3.out ?_)
            go_quiet (fail)
            go_wp2_with fail
            go_roundg m
            case measure => omega
            case rel => exact ⟨_, mq, zs.drop 3, rfl, HQ.out.2, HQ.out.1.move (keep_below (below_drewN HAW.out _)), HE.out, HQM.out, below_drewN HAW2.out _⟩
      by_cases s4 : sz = 4
      · subst s4
        as_aux_lemma =>
          by_cases gm : m < 4
          · have HE : Hid (ANS = false) := by
              show ANS = false
              rw [← HVL.out, chk4_9, if_pos (.inl gm)]
            have gmi : ((m : Int) < 4) := by omega
            have gmb : decide ((m : Int) < 4) = true := decide_eq_true gmi
            clear gm
            go_upto_region 14 with fail
            go_wp2_with (refine wpList_aggAt rfl rfl HI3.out HA3.out 2 (2 * ai) #[.int .u8 (lo : Int), .int .u8 (hi : Int)] ?_ rfl HC3.out ?_)
            go_quiet (fail)
            go_wp2_with fail
            go_ret
            exact ⟨by rw [HE.out]; rfl, below_drewN HAW2.out _⟩
          have gmi : ¬ ((m : Int) < 4) := by omega
          have gmb : decide ((m : Int) < 4) = false := decide_eq_false gmi
          have e1 := HC1.out (by omega)
          have gj1 : (1 : Int) < (m : Int) := by omega
          have e2 := HC2.out (by omega)
          have gj2 : (2 : Int) < (m : Int) := by omega
          have e3 := HC3'.out (by omega)
          have gj3 : (3 : Int) < (m : Int) := by omega
          by_cases d1 : y1 < lo
          · have HE : Hid (ANS = false) := by
              show ANS = false
              rw [← HVL.out, chk4_9, if_pos (.inr (.inl d1))]
            have d1i : ((y1 : Int) < (lo : Int)) := by omega
            have d1b : decide ((y1 : Int) < (lo : Int)) = true := decide_eq_true d1i
            clear d1
            go_upto_region 14 with fail
            go_wp2_with (refine wpList_aggAt rfl rfl HI3.out HA3.out 2 (2 * ai) #[.int .u8 (lo : Int), .int .u8 (hi : Int)] ?_ rfl HC3.out ?_)
            go_quiet (fail)
            go_wp2_with fail
            go_ret
            exact ⟨by rw [HE.out]; rfl, below_drewN HAW2.out _⟩
          have d1i : ¬ ((y1 : Int) < (lo : Int)) := by omega
          have d1b : decide ((y1 : Int) < (lo : Int)) = false := decide_eq_false d1i
          by_cases d2 : hi < y1
          · have HE : Hid (ANS = false) := by
              show ANS = false
              rw [← HVL.out, chk4_9, if_pos (.inr (.inr (.inl d2)))]
            have d2i : ((hi : Int) < (y1 : Int)) := by omega
            have d2b : decide ((hi : Int) < (y1 : Int)) = true := decide_eq_true d2i
            clear d2
            go_upto_region 14 with fail
            go_wp2_with (refine wpList_aggAt rfl rfl HI3.out HA3.out 2 (2 * ai) #[.int .u8 (lo : Int), .int .u8 (hi : Int)] ?_ rfl HC3.out ?_)
            go_quiet (fail)
            go_wp2_with fail
            go_ret
            exact ⟨by rw [HE.out]; rfl, below_drewN HAW2.out _⟩
          have d2i : ¬ ((hi : Int) < (y1 : Int)) := by omega
          have d2b : decide ((hi : Int) < (y1 : Int)) = false := decide_eq_false d2i
          by_cases d3 : y2 < 128
          · have HE : Hid (ANS = false) := by
              show ANS = false
              rw [← HVL.out, chk4_9, if_pos (.inr (.inr (.inr (.inl d3))))]
            have d3i : ((y2 : Int) < 128) := by omega
            have d3b : decide ((y2 : Int) < 128) = true := decide_eq_true d3i
            clear d3
            go_upto_region 14 with fail
            go_wp2_with (refine wpList_aggAt rfl rfl HI3.out HA3.out 2 (2 * ai) #[.int .u8 (lo : Int), .int .u8 (hi : Int)] ?_ rfl HC3.out ?_)
            go_quiet (fail)
            go_wp2_with fail
            go_ret
            exact ⟨by rw [HE.out]; rfl, below_drewN HAW2.out _⟩
          have d3i : ¬ ((y2 : Int) < 128) := by omega
          have d3b : decide ((y2 : Int) < 128) = false := decide_eq_false d3i
          by_cases d4 : 191 < y2
          · have HE : Hid (ANS = false) := by
              show ANS = false
              rw [← HVL.out, chk4_9, if_pos (.inr (.inr (.inr (.inr (.inl d4)))))]
            have d4i : ((191 : Int) < (y2 : Int)) := by omega
            have d4b : decide ((191 : Int) < (y2 : Int)) = true := decide_eq_true d4i
            clear d4
            go_upto_region 14 with fail
            go_wp2_with (refine wpList_aggAt rfl rfl HI3.out HA3.out 2 (2 * ai) #[.int .u8 (lo : Int), .int .u8 (hi : Int)] ?_ rfl HC3.out ?_)
            go_quiet (fail)
            go_wp2_with fail
            go_ret
            exact ⟨by rw [HE.out]; rfl, below_drewN HAW2.out _⟩
          have d4i : ¬ ((191 : Int) < (y2 : Int)) := by omega
          have d4b : decide ((191 : Int) < (y2 : Int)) = false := decide_eq_false d4i
          by_cases d5 : y3 < 128
          · have HE : Hid (ANS = false) := by
              show ANS = false
              rw [← HVL.out, chk4_9, if_pos (.inr (.inr (.inr (.inr (.inr (.inl d5))))))]
            have d5i : ((y3 : Int) < 128) := by omega
            have d5b : decide ((y3 : Int) < 128) = true := decide_eq_true d5i
            clear d5
            go_upto_region 14 with fail
            go_wp2_with (refine wpList_aggAt rfl rfl HI3.out HA3.out 2 (2 * ai) #[.int .u8 (lo : Int), .int .u8 (hi : Int)] ?_ rfl HC3.out ?_)
            go_quiet (fail)
            go_wp2_with fail
            go_ret
            exact ⟨by rw [HE.out]; rfl, below_drewN HAW2.out _⟩
          have d5i : ¬ ((y3 : Int) < 128) := by omega
          have d5b : decide ((y3 : Int) < 128) = false := decide_eq_false d5i
          by_cases d6 : 191 < y3
          · have HE : Hid (ANS = false) := by
              show ANS = false
              rw [← HVL.out, chk4_9, if_pos (.inr (.inr (.inr (.inr (.inr (.inr (d6)))))))]
            have d6i : ((191 : Int) < (y3 : Int)) := by omega
            have d6b : decide ((191 : Int) < (y3 : Int)) = true := decide_eq_true d6i
            clear d6
            go_upto_region 14 with fail
            go_wp2_with (refine wpList_aggAt rfl rfl HI3.out HA3.out 2 (2 * ai) #[.int .u8 (lo : Int), .int .u8 (hi : Int)] ?_ rfl HC3.out ?_)
            go_quiet (fail)
            go_wp2_with fail
            go_ret
            exact ⟨by rw [HE.out]; rfl, below_drewN HAW2.out _⟩
          have d6i : ¬ ((191 : Int) < (y3 : Int)) := by omega
          have d6b : decide ((191 : Int) < (y3 : Int)) = false := decide_eq_false d6i
          have HE : Hid (vld (zs.drop 4) = ANS) := by
            show _ = ANS
            rw [← HVL.out, chk4_9, if_neg (not_or.2 ⟨gm, not_or.2 ⟨d1, not_or.2 ⟨d2, not_or.2 ⟨d3, not_or.2 ⟨d4, not_or.2 ⟨d5, d6⟩⟩⟩⟩⟩⟩)]
          have gle : 4 ≤ m := by omega
          have glei : (4 : Int) ≤ (m : Int) := by omega
          by_cases me : m = 4
          · subst me
            have HN : Hid (zs.drop 4 = []) := List.drop_eq_nil_of_le (by rw [← HM2.out]; exact Nat.le_refl _)
            go_upto_region 14 with fail
            go_wp2_with (refine wpList_aggAt rfl rfl HI3.out HA3.out 2 (2 * ai) #[.int .u8 (lo : Int), .int .u8 (hi : Int)] ?_ rfl HC3.out ?_)
            go_quiet (fail)
            go_wp2_with fail
            go_roundg 4
            case measure => omega
            case rel => exact ⟨_, 0, [], rfl, rfl, ⟨⟨_, _, rfl, ⟨Nat.le_refl _, fun _ => rfl⟩, .inl rfl⟩, by decide, fun x hx => by cases hx⟩, by rw [← HN.out]; exact HE.out, by omega, below_drewN HAW2.out _⟩
          · obtain ⟨mq, hmq⟩ : ∃ mq, m - 4 = mq := ⟨_, rfl⟩
            have HQ : Hid (BSl wr (.slice (some ⟨b2, off2 + 4, none⟩) mq mq) (zs.drop 4) ∧ mq = (zs.drop 4).length) := by
              have h2 := HBS.out.drop 4 (by rw [← HM2.out]; omega)
              rw [hmq] at h2
              exact ⟨h2, by rw [List.length_drop, ← HM2.out, hmq]⟩
            have HQM : Hid (mq < m) := by show mq < m; omega
            go_upto_region 14 with fail
            go_wp2_with (refine wpList_aggAt rfl rfl HI3.out HA3.out 2 (2 * ai) #[.int .u8 (lo : Int), .int .u8 (hi : Int)] ?_ rfl HC3.out ?_)
            go_quiet (fail)
            go_wp2_with fail
            go_roundg m
            case measure => omega
            case rel => exact ⟨_, mq, zs.drop 4, rfl, HQ.out.2, HQ.out.1.move (keep_below (below_drewN HAW.out _)), HE.out, HQM.out, below_drewN HAW2.out _⟩
      have HE : Hid (ANS = false) := by
        show ANS = false
        rw [← HVL.out, chk0_9 s2 s3 s4]
      have gs2 : ((sz : Int) == 2) = false := by simp; omega
      have gs3 : ((sz : Int) == 3) = false := by simp; omega
      have gs4 : ((sz : Int) == 4) = false := by simp; omega
      clear s2 s3 s4
      go_upto_region 14 with fail
      go_wp2_with (refine wpList_aggAt rfl rfl HI3.out HA3.out 2 (2 * ai) #[.int .u8 (lo : Int), .int .u8 (hi : Int)] ?_ rfl HC3.out ?_)
      go_ret
      exact ⟨by rw [HE.out]; rfl, HAW2.out⟩
end
end Go.Proofs.YtmcamdcgnegmmaaGreatDoor

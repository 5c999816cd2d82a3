import Derived.Test.YtnkghcndaafmoaaGreatDoorJqc
namespace Go.Proofs.YtnkghcndaafmoaaGreatDoor
section
open Go.RowKit Go
set_option maxRecDepth 1000000 in
set_option maxHeartbeats 4000000 in
theorem choosePivotF_any {α : Type} [Inhabited α] {gl gs : FuncId} {lb sb : Array Value} {lt : α → α → Bool} {M : Nat} {St : World → Array α → Prop} (hM : Srf gl gs lb sb lt M St) {w : World} {d : Array α} (h : St w d) (a b : Nat) (p : Nat) (hint : Sort.Hint) (hr : Sort.choosePivot lt d a b = (p, hint)) (hab : a + 12 < b) (hb : b ≤ d.size) (hsz : d.size < 4611686018427387904) : Calls Tryz.prog 200 #[.agg (lsw gl gs lb sb), .int .i64 (a : Nat), .int .i64 (b : Nat)] w fun e w' => e = .returned (.tuple #[.int .i64 (p : Nat), .int .i64 (hcd hint)]) ∧ Hid (St w' d ∧ p < d.size) := by
  obtain ⟨St2, hB, hM2, hs0, hout⟩ := hM.enter h
  suffices key : Calls Tryz.prog 200 #[.agg (lsw gl gs lb sb), .int .i64 (a : Nat), .int .i64 (b : Nat)] w fun e w' => e = .returned (.tuple #[.int .i64 (p : Nat), .int .i64 (hcd hint)]) ∧ Hid (St2 w' d ∧ p < d.size) from key.mono fun _ _ h => ⟨h.1, (hout (hide h.2.out.1)).out, h.2.out.2⟩
  clear hout hM h
  have HM := hide hB
  have HMF := hide hM2
  have el := hB.el
  have HR := hide hr
  have hlow := hM2.low hs0.out
  have hz1 : (w.alloc (.cells (lsw gl gs lb sb) 200)).heap.size = w.heap.size + 1 := by simp
  obtain ⟨cb, hcb⟩ : ∃ cb, cb = w.heap.size + 1 := ⟨_, rfl⟩
  obtain ⟨wA, hwA⟩ : ∃ wA, wA = (w.alloc (.cells (lsw gl gs lb sb) 200)).alloc (.cells #[.int .i64 0] 3) := ⟨_, rfl⟩
  have HC : Hid (St2 wA d ∧ Cnt wA cb 0 ∧ w.heap.size + 1 ≤ cb) := by
    refine ⟨?_, ?_, by omega⟩
    · rw [hwA]
      exact hM2.on hs0.out (below_allocS _ _)
    · unfold Cnt
      rw [hwA, hcb, ← hz1]
      exact heap_alloc_new _ _
  have c0A := HM.out.c0 (hide HC.out.1)
  have c1A := HM.out.c1 (hide HC.out.1)
  obtain ⟨n, hn⟩ : ∃ n, n = d.size := ⟨_, rfl⟩
  rw [← hn] at hb hsz ⊢
  have HN := hide hn
  obtain ⟨l, hl⟩ : ∃ l, l = b - a := ⟨_, rfl⟩
  obtain ⟨q, hq⟩ : ∃ q, q = l / 4 := ⟨_, rfl⟩
  obtain ⟨I, hI⟩ : ∃ I, I = a + q := ⟨_, rfl⟩
  obtain ⟨J, hJ⟩ : ∃ J, J = a + q * 2 := ⟨_, rfl⟩
  obtain ⟨K, hK⟩ : ∃ K, K = a + q * 3 := ⟨_, rfl⟩
  have k1 : (b : Int) - (a : Int) = (l : Int) := by omega
  have k2 : (l : Int) / 4 = (q : Int) := by omega
  have k3 : (a : Int) + (q : Int) = (I : Int) := by omega
  have k4 : (a : Int) + (q : Int) * 2 = (J : Int) := by omega
  have k5 : (a : Int) + (q : Int) * 3 = (K : Int) := by omega
  have b1 : 1 ≤ I ∧ I + 1 < n := by omega
  have b2 : 1 ≤ J ∧ J + 1 < n := by omega
  have b3 : 1 ≤ K ∧ K + 1 < n := by omega
  have b4 : q * 3 ≤ n := by omega
  have g8 : (l : Int) ≥ 8 := by omega
  have HE : Hid (I = a + (b - a) / 4 ∧ J = a + (b - a) / 4 * 2 ∧ K = a + (b - a) / 4 * 3 ∧ 8 ≤ b - a ∧ (50 ≤ l ↔ 50 ≤ b - a)) := by
    show _ ∧ _
    subst hl hq
    exact ⟨hI, hJ, hK, by omega, Iff.rfl⟩
  have HCB := hide hcb
  have HWA := hide hwA
  by_cases h50 : 50 ≤ l
  · as_aux_lemma =>
    have g50 : (l : Int) ≥ 50 := by omega
    obtain ⟨⟨i1, s1⟩, h1⟩ : ∃ r, Sort.medianAdjacent lt d I 0 = r := ⟨_, rfl⟩
    obtain ⟨⟨j1, s2⟩, h2⟩ : ∃ r, Sort.medianAdjacent lt d J s1 = r := ⟨_, rfl⟩
    obtain ⟨⟨k1', s3⟩, h3⟩ : ∃ r, Sort.medianAdjacent lt d K s2 = r := ⟨_, rfl⟩
    obtain ⟨⟨p', s4⟩, h4⟩ : ∃ r, Sort.median lt d i1 j1 k1' s3 = r := ⟨_, rfl⟩
    have e1 := median_in (n := n) h1 (by omega) (by omega) (by omega)
    have e2 := median_in (n := n) h2 (by omega) (by omega) (by omega)
    have e3 := median_in (n := n) h3 (by omega) (by omega) (by omega)
    have e4 := median_in (n := n) h4 e1.1 e2.1 e3.1
    have HP : Hid (p = p' ∧ hint = hnt s4) := by
      obtain ⟨x1, x2, x3, x4, x5⟩ := HE.out
      have := pivot_big (x5.1 h50) (x1 ▸ h1) (x2 ▸ h2) (x3 ▸ h3) h4
      rw [HR.out] at this
      injection this with y1 y2
      exact ⟨y1, y2⟩
    have H1 := hide h1
    have H2 := hide h2
    have H3 := hide h3
    have H4 := hide h4
    have l3 : s1 < 900 ∧ s2 < 900 ∧ s3 < 900 := by omega
    have l4 : s4 < 900 := by omega
    clear hB hM2 hs0 hr hz1 hl hq hI hJ hK HR HE h1 h2 h3 h4 hcb hwA hn h50 hlow
    go_enter Tryz.func200, Tryz.ntmps200
    go_upto_region 3 with fail
    rw [← HWA.out, ← HCB.out]
    go_wp2_with fail
    refine (medianAdjacentF_any HMF.out cb 0 I HC _ _ H1.out _ rfl b1.1 (by rw [← HN.out]; exact b1.2) (by rw [← HN.out]; exact hsz) (by omega)).mono ?_
    rintro _ w1 ⟨rfl, hwx⟩
    have hw1 := hide hwx.out.1
    clear hwx
    have c0w1 := HM.out.c0 (hide hw1.out.1)
    have c1w1 := HM.out.c1 (hide hw1.out.1)
    clear HC HWA
    go_wp2_with fail
    refine (medianAdjacentF_any HMF.out cb s1 J hw1 _ _ H2.out _ rfl b2.1 (by rw [← HN.out]; exact b2.2) (by rw [← HN.out]; exact hsz) (by omega)).mono ?_
    rintro _ w2 ⟨rfl, hwx⟩
    have hw2 := hide hwx.out.1
    clear hwx
    have c0w2 := HM.out.c0 (hide hw2.out.1)
    have c1w2 := HM.out.c1 (hide hw2.out.1)
    clear hw1
    go_wp2_with fail
    refine (medianAdjacentF_any HMF.out cb s2 K hw2 _ _ H3.out _ rfl b3.1 (by rw [← HN.out]; exact b3.2) (by rw [← HN.out]; exact hsz) (by omega)).mono ?_
    rintro _ w3 ⟨rfl, hwx⟩
    have hw3 := hide hwx.out.1
    clear hwx
    have c0w3 := HM.out.c0 (hide hw3.out.1)
    have c1w3 := HM.out.c1 (hide hw3.out.1)
    clear hw2
    go_wp2_with fail
    refine (medianF_any HMF.out cb s3 i1 j1 k1' hw3 _ _ H4.out _ _ _ rfl rfl rfl (by rw [← HN.out]; exact e1.1) (by rw [← HN.out]; exact e2.1) (by rw [← HN.out]; exact e3.1) (by omega)).mono ?_
    rintro _ w4 ⟨rfl, hwx⟩
    have hw4 := hide hwx.out.1
    clear hwx
    have c0w4 := HM.out.c0 (hide hw4.out.1)
    have c1w4 := HM.out.c1 (hide hw4.out.1)
    clear hw3
    have c4 := blk_cell (j := 0) (v := .int .i64 (s4 : Nat)) hw4.out.2.1 rfl
    have HF : Hid (St2 w4 d ∧ p' < n) := ⟨hw4.out.1, e4.1⟩
    obtain ⟨hp1, hp2⟩ := HP.out
    subst hp1 hp2
    clear HP hw4
    by_cases z0 : s4 = 0
    · have g0 : ((s4 : Int) == 0) = true := by simp; omega
      go_wp2_with fail
      go_ret2
      exact ⟨by rw [hnt_0 z0]; rfl, HF⟩
    · have g0 : ((s4 : Int) == 0) = false := by simp; omega
      by_cases z12 : s4 = 12
      · have g1 : ((s4 : Int) == 12) = true := by simp; omega
        go_wp2_with fail
        go_ret2
        exact ⟨by rw [hnt_12 z0 z12]; rfl, HF⟩
      · have g1 : ((s4 : Int) == 12) = false := by simp; omega
        go_wp2_with fail
        go_ret2
        exact ⟨by rw [hnt_no z0 z12]; rfl, HF⟩
  · as_aux_lemma =>
    have g50 : ¬ ((l : Int) ≥ 50) := by omega
    obtain ⟨⟨p', s4⟩, h4⟩ : ∃ r, Sort.median lt d I J K 0 = r := ⟨_, rfl⟩
    have e4 := median_in (n := n) h4 (by omega) (by omega) (by omega)
    have HP : Hid (p = p' ∧ hint = hnt s4) := by
      obtain ⟨x1, x2, x3, x4, x5⟩ := HE.out
      have := pivot_small x4 (fun h => h50 (x5.2 h)) (x1 ▸ x2 ▸ x3 ▸ h4)
      rw [HR.out] at this
      injection this with y1 y2
      exact ⟨y1, y2⟩
    have H4 := hide h4
    have l4 : s4 < 900 := by omega
    clear hB hM2 hs0 hr hz1 hl hq hI hJ hK HR HE h4 hcb hwA hn h50 hlow
    go_enter Tryz.func200, Tryz.ntmps200
    go_upto_region 3 with fail
    rw [← HWA.out, ← HCB.out]
    go_wp2_with fail
    refine (medianF_any HMF.out cb 0 I J K HC _ _ H4.out _ _ _ rfl rfl rfl (by rw [← HN.out]; omega) (by rw [← HN.out]; omega) (by rw [← HN.out]; omega) (by omega)).mono ?_
    rintro _ w4 ⟨rfl, hwx⟩
    have hw4 := hide hwx.out.1
    clear hwx
    have c0w4 := HM.out.c0 (hide hw4.out.1)
    have c1w4 := HM.out.c1 (hide hw4.out.1)
    clear HC HWA
    have c4 := blk_cell (j := 0) (v := .int .i64 (s4 : Nat)) hw4.out.2.1 rfl
    have HF : Hid (St2 w4 d ∧ p' < n) := ⟨hw4.out.1, e4.1⟩
    obtain ⟨hp1, hp2⟩ := HP.out
    subst hp1 hp2
    clear HP hw4
    by_cases z0 : s4 = 0
    · have g0 : ((s4 : Int) == 0) = true := by simp; omega
      go_wp2_with fail
      go_ret2
      exact ⟨by rw [hnt_0 z0]; rfl, HF⟩
    · have g0 : ((s4 : Int) == 0) = false := by simp; omega
      by_cases z12 : s4 = 12
      · have g1 : ((s4 : Int) == 12) = true := by simp; omega
        go_wp2_with fail
        go_ret2
        exact ⟨by rw [hnt_12 z0 z12]; rfl, HF⟩
      · have g1 : ((s4 : Int) == 12) = false := by simp; omega
        go_wp2_with fail
        go_ret2
        exact ⟨by rw [hnt_no z0 z12]; rfl, HF⟩
end
section
open Go.RowKit Go

end
end Go.Proofs.YtnkghcndaafmoaaGreatDoor

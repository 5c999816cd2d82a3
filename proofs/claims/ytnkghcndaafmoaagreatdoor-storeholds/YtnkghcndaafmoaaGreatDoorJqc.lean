import Derived.Test.YtnkghcndaafmoaaGreatDoorJqb
import Derived.Test.YtnkghcndaafmoaaGreatDoorJqa
namespace Go.Proofs.YtnkghcndaafmoaaGreatDoor
section
open Go.RowKit Go
theorem siftDownF_z {α : Type} [Inhabited α] {gl gs : FuncId} {lb sb : Array Value} {lt : α → α → Bool} {M : Nat} {St : World → Array α → Prop} (hM : Srf gl gs lb sb lt M St) {w : World} {d : Array α} (h : Hid (St w d)) (lo hi first : Nat) (x y z : Int) (hx : x = (lo : Int)) (hy : y = (hi : Int)) (hz : z = (first : Int)) (hb : first + hi ≤ d.size) (hlo : lo ≤ hi) (hsz : d.size < 4611686018427387904) : Calls Tryz.prog 220 #[.agg (lsw gl gs lb sb), .int .i64 x, .int .i64 y, .int .i64 z] w fun e w' => e = .returned (.tuple #[]) ∧ Hid (St w' (Sort.siftDown lt hi first lo d)) := by
  subst hx hy hz
  exact siftDownF_any hM h.out lo hi first hb hlo hsz
set_option maxRecDepth 1000000 in
set_option maxHeartbeats 4000000 in
theorem heapSortF_any {α : Type} [Inhabited α] {gl gs : FuncId} {lb sb : Array Value} {lt : α → α → Bool} {M : Nat} {St : World → Array α → Prop} (hM : Srf gl gs lb sb lt M St) {w : World} {d : Array α} (h : St w d) (a b : Nat) (hab : a < b) (hb : b ≤ d.size) (hsz : d.size < 4611686018427387904) : Calls Tryz.prog 198 #[.agg (lsw gl gs lb sb), .int .i64 (a : Nat), .int .i64 (b : Nat)] w fun e w' => e = .returned (.tuple #[]) ∧ Hid (St w' (Sort.heapSort lt d a b)) := by
  obtain ⟨St2, hB, hM2, h2, hout⟩ := hM.enter h
  suffices key : Calls Tryz.prog 198 #[.agg (lsw gl gs lb sb), .int .i64 (a : Nat), .int .i64 (b : Nat)] w fun e w' => e = .returned (.tuple #[]) ∧ Hid (St2 w' (Sort.heapSort lt d a b)) from key.mono fun _ _ h => ⟨h.1, hout h.2⟩
  clear hout hM h
  obtain ⟨LS, hLS⟩ : ∃ LS, LS = Sort.heapSort lt d a b := ⟨_, rfl⟩
  rw [← hLS]
  obtain ⟨hi, hhi⟩ : ∃ hi, hi = b - a := ⟨_, rfl⟩
  obtain ⟨i0, hi0⟩ : ∃ i0, i0 = (hi - 1) / 2 := ⟨_, rfl⟩
  have HLS : Hid (LS = Sort.heapPop lt a hi (Sort.heapBuild lt hi a (i0 + 1) d)) := by show _ = _; rw [hLS, hi0, hhi]; rfl
  have HM := hide hB
  have HMF := hide hM2
  have el := hB.el
  have HS := h2
  have c0HS := HM.out.c0 HS
  have c1HS := HM.out.c1 HS
  obtain ⟨n, hn⟩ : ∃ n, n = d.size := ⟨_, rfl⟩
  rw [← hn] at hb hsz
  have HN := hide hn
  have k1 : (b : Int) - (a : Int) = (hi : Int) := by omega
  have k2 : ((hi : Int) - 1) / 2 = (i0 : Int) := by omega
  have hhb : a + hi ≤ n := by omega
  have hh0 : 1 ≤ hi := by omega
  have hih : i0 + 1 ≤ hi := by omega
  clear hB hM2 h2 hLS hn hhi hi0 hab hb
  go_enter Tryz.func198, Tryz.ntmps198
  go_upto_region 1 with fail
  generalize w.alloc (.cells (lsw gl gs lb sb) 200) = w1 at *
  generalize w.heap.size = g at *
  go_wp2_with fail
  rw [k2]
  clear k2
  go_loopg [9] (i0 + 1) (fun gk s9 wx => ∃ z : Int, s9 = .int .i64 z ∧ ∃ k : Nat, z = (k : Int) - 1 ∧ (∃ d' : Array α, St2 wx d' ∧ d'.size = n ∧ LS = Sort.heapPop lt a hi (Sort.heapBuild lt hi a k d') ∧ k ≤ gk ∧ k ≤ i0 + 1))
  case atStart => exact ⟨_, rfl, i0 + 1, by omega, d, HS.out, HN.out.symm, HLS.out, Nat.le_refl _, Nat.le_refl _⟩
  case round =>
    obtain ⟨z, rfl, k, hz, e, hs1, hd1, hl1, hg1, hk1⟩ := hrel
    have HS1 := hide hs1
    have c0HS1 := HM.out.c0 HS1
    have c1HS1 := HM.out.c1 HS1
    have HL1 := hide hl1
    clear hs1 hl1 HS HLS
    cases k with
    | zero =>
      have hz1 : z = -1 := by omega
      subst hz1
      clear hz
      have HL2 : Hid (LS = Sort.heapPop lt a hi e) := HL1
      clear HL1
      go_wp2_with fail
      go_loopg [10] hi (fun gk s10 wx => ∃ z : Int, s10 = .int .i64 z ∧ ∃ k : Nat, z = (k : Int) - 1 ∧ (∃ d' : Array α, St2 wx d' ∧ d'.size = n ∧ LS = Sort.heapPop lt a k d' ∧ k ≤ gk ∧ k ≤ hi))
      case atStart => exact ⟨_, rfl, hi, by omega, e, HS1.out, hd1, HL2.out, Nat.le_refl _, Nat.le_refl _⟩
      case round =>
        obtain ⟨z, rfl, k, hz, e2, hs2, hd2, hl2, hg2, hk2⟩ := hrel
        have HS2 := hide hs2
        have c0HS2 := HM.out.c0 HS2
        have c1HS2 := HM.out.c1 HS2
        have HL3 := hide hl2
        clear hs2 hl2 HS1 HL2
        cases k with
        | zero =>
          as_aux_lemma =>
          have hz1 : z = -1 := by omega
          subst hz1
          clear hz
          have HE : Hid (St2 wr LS) := by show St2 _ _; rw [HL3.out]; exact HS2.out
          clear HS2 HL3
          go_wp2_with fail
          first
            | (go_end0; exact ⟨rfl, HE⟩)
            | exact bodyPost_ret (results_none rfl _ _ _) rfl ⟨rfl, HE⟩
        | succ k =>
          as_aux_lemma =>
          have hz1 : z = (k : Int) := by omega
          subst hz1
          clear hz
          have gz : (k : Int) ≥ 0 := by omega
          go_wp2_with fail
          refine upon_sz (HM.out.sz HS2 a (a + k) _ _ (by omega) (by omega) (by omega) (by omega)) ?_
          rintro w2 hs3
          have c0w2 := HM.out.c0 hs3
          have c1w2 := HM.out.c1 hs3
          clear HS2
          go_wp2_with fail
          refine (siftDownF_z HMF.out hs3 0 k a _ _ _ (by omega) (by omega) (by omega) (by rw [swp_size]; omega) (by omega) (by rw [swp_size]; omega)).mono ?_
          rintro _ w3 ⟨rfl, hs4⟩
          have c0w3 := HM.out.c0 hs4
          have c1w3 := HM.out.c1 hs4
          clear hs3
          go_wp2_with fail
          go_roundg k
          case measure => omega
          case rel => exact ⟨_, rfl, k, by omega, _, hs4.out, (sift_size k a _ 0 _ (Nat.le_refl _)).trans ((swp_size _ _ _).trans hd2), HL3.out, Nat.le_refl _, by omega⟩
    | succ k =>
      as_aux_lemma =>
      have hz1 : z = (k : Int) := by omega
      subst hz1
      clear hz
      have gz : (k : Int) ≥ 0 := by omega
      go_wp2_with fail
      refine (siftDownF_z HMF.out HS1 k hi a _ _ _ (by omega) (by omega) (by omega) (by omega) (by omega) (by omega)).mono ?_
      rintro _ w3 ⟨rfl, hs4⟩
      have c0w3 := HM.out.c0 hs4
      have c1w3 := HM.out.c1 hs4
      clear HS1
      go_wp2_with fail
      go_roundg k
      case measure => omega
      case rel => exact ⟨_, rfl, k, by omega, _, hs4.out, (sift_size hi a _ k _ (Nat.le_refl _)).trans hd1, HL1.out, Nat.le_refl _, by omega⟩
set_option maxRecDepth 1000000 in
set_option maxHeartbeats 4000000 in
theorem reverseRangeF_any {α : Type} [Inhabited α] {gl gs : FuncId} {lb sb : Array Value} {lt : α → α → Bool} {M : Nat} {St : World → Array α → Prop} (hM : Srf gl gs lb sb lt M St) {w : World} {d : Array α} (h : St w d) (a b : Nat) (hab : a < b) (hb : b ≤ d.size) (hsz : d.size < 4611686018427387904) : Calls Tryz.prog 201 #[.agg (lsw gl gs lb sb), .int .i64 (a : Nat), .int .i64 (b : Nat)] w fun e w' => e = .returned (.tuple #[]) ∧ Hid (St w' (Sort.reverseRange d a b)) := by
  obtain ⟨St2, hB, hM2, h2, hout⟩ := hM.enter h
  suffices key : Calls Tryz.prog 201 #[.agg (lsw gl gs lb sb), .int .i64 (a : Nat), .int .i64 (b : Nat)] w fun e w' => e = .returned (.tuple #[]) ∧ Hid (St2 w' (Sort.reverseRange d a b)) from key.mono fun _ _ h => ⟨h.1, hout h.2⟩
  clear hout hM h
  obtain ⟨LS, hLS⟩ : ∃ LS, LS = Sort.reverseRange d a b := ⟨_, rfl⟩
  rw [← hLS]
  have HLS : Hid (LS = Sort.reverseLoop a (b - 1) d) := hLS
  have HM := hide hB
  have HMF := hide hM2
  have HS := h2
  have c0HS := HM.out.c0 HS
  have c1HS := HM.out.c1 HS
  obtain ⟨n, hn⟩ : ∃ n, n = d.size := ⟨_, rfl⟩
  rw [← hn] at hb hsz
  have HN := hide hn
  clear hB hM2 h2 hLS hn
  go_enter Tryz.func201, Tryz.ntmps201
  go_upto_region 1 with fail
  generalize w.alloc (.cells (lsw gl gs lb sb) 200) = w1 at *
  generalize w.heap.size = g at *
  go_wp2_with fail
  go_loopg [6, 7] (b - a) (fun gk s6 s7 wx => ∃ x y : Int, s6 = .int .i64 x ∧ s7 = .int .i64 y ∧ ∃ i j : Nat, x = (i : Int) ∧ y = (j : Int) ∧ (∃ d' : Array α, St2 wx d' ∧ d'.size = n ∧ LS = Sort.reverseLoop i j d' ∧ j - i ≤ gk ∧ j < n ∧ i ≤ n))
  case atStart => exact ⟨_, _, rfl, rfl, a, b - 1, by omega, by omega, d, HS.out, HN.out.symm, HLS.out, by omega, by omega, by omega⟩
  case round =>
    obtain ⟨x, y, rfl, rfl, i, j, hx, hy, e, hs1, hd1, hl1, hg1, hj1, hi1⟩ := hrel
    have HS1 := hide hs1
    have c0HS1 := HM.out.c0 HS1
    have c1HS1 := HM.out.c1 HS1
    have HL1 := hide hl1
    clear hs1 hl1 HS HLS
    subst hx hy
    by_cases hij : i < j
    · as_aux_lemma =>
      have gz : (i : Int) < (j : Int) := by omega
      go_wp2_with fail
      refine upon_sz (HM.out.sz HS1 i j _ _ (by omega) (by omega) (by omega) (by omega)) ?_
      rintro w2 hs3
      have c0w2 := HM.out.c0 hs3
      have c1w2 := HM.out.c1 hs3
      clear HS1
      go_wp2_with fail
      go_roundg (j - 1 - (i + 1))
      case measure => omega
      case rel => exact ⟨_, _, rfl, rfl, i + 1, j - 1, by omega, by omega, _, hs3.out, (swp_size _ _ _).trans hd1, HL1.out.trans (rev_go hij), Nat.le_refl _, by omega, by omega⟩
    · as_aux_lemma =>
      have gz : ¬ ((i : Int) < (j : Int)) := by omega
      have HE : Hid (St2 wr LS) := by show St2 _ _; rw [HL1.out, rev_no hij]; exact HS1.out
      clear HS1 HL1
      go_wp2_with fail
      first
        | (go_end0; exact ⟨rfl, HE⟩)
        | exact bodyPost_ret (results_none rfl _ _ _) rfl ⟨rfl, HE⟩
end
section
open Go.RowKit Go
section
variable {α : Type} [Inhabited α] {lt : α → α → Bool} {d : Array α}
theorem order2_in {a b s p q t n : Nat} (hr : Sort.order2 lt d a b s = (p, q, t)) (ha : a < n) (hb : b < n) : p < n ∧ q < n ∧ t ≤ s + 1 := by
  unfold Sort.order2 at hr
  split at hr <;> cases hr <;> exact ⟨by assumption, by assumption, by omega⟩
theorem median_of {a b c s p1 q1 s1 p2 q2 s2 p3 q3 s3 : Nat} (h1 : Sort.order2 lt d a b s = (p1, q1, s1)) (h2 : Sort.order2 lt d q1 c s1 = (p2, q2, s2)) (h3 : Sort.order2 lt d p1 p2 s2 = (p3, q3, s3)) : Sort.median lt d a b c s = (q3, s3) := by
  unfold Sort.median
  simp only [h1, h2, h3]
theorem median_in {a b c s p t n : Nat} (hr : Sort.median lt d a b c s = (p, t)) (ha : a < n) (hb : b < n) (hc : c < n) : p < n ∧ t ≤ s + 3 := by
  obtain ⟨⟨p1, q1, s1⟩, h1⟩ : ∃ r, Sort.order2 lt d a b s = r := ⟨_, rfl⟩
  obtain ⟨⟨p2, q2, s2⟩, h2⟩ : ∃ r, Sort.order2 lt d q1 c s1 = r := ⟨_, rfl⟩
  obtain ⟨⟨p3, q3, s3⟩, h3⟩ : ∃ r, Sort.order2 lt d p1 p2 s2 = r := ⟨_, rfl⟩
  rw [median_of h1 h2 h3] at hr
  cases hr
  have e1 := order2_in h1 ha hb
  have e2 := order2_in h2 e1.2.1 hc
  have e3 := order2_in h3 e1.1 e2.1
  exact ⟨e3.2.1, by omega⟩
end
section
variable {α : Type} [Inhabited α] {lt : α → α → Bool} {d : Array α}
def hnt (s : Nat) : Sort.Hint := if s = 0 then .increasing else if s = 12 then .decreasing else .unknown
def hcd : Sort.Hint → Int
  | .unknown => 0
  | .increasing => 1
  | .decreasing => 2
theorem pivot_big {a b i1 s1 j1 s2 k1 s3 p s4 : Nat} (h : 50 ≤ b - a) (hI : Sort.medianAdjacent lt d (a + (b - a) / 4) 0 = (i1, s1)) (hJ : Sort.medianAdjacent lt d (a + (b - a) / 4 * 2) s1 = (j1, s2)) (hK : Sort.medianAdjacent lt d (a + (b - a) / 4 * 3) s2 = (k1, s3)) (hm : Sort.median lt d i1 j1 k1 s3 = (p, s4)) : Sort.choosePivot lt d a b = (p, hnt s4) := by
  unfold Sort.choosePivot hnt
  simp only [Nat.mul_one, ge_iff_le, h, hI, hJ, hK, hm, if_true, show 8 ≤ b - a by omega]
theorem pivot_small {a b p s4 : Nat} (h8 : 8 ≤ b - a) (h : ¬ 50 ≤ b - a) (hm : Sort.median lt d (a + (b - a) / 4) (a + (b - a) / 4 * 2) (a + (b - a) / 4 * 3) 0 = (p, s4)) : Sort.choosePivot lt d a b = (p, hnt s4) := by
  unfold Sort.choosePivot hnt
  simp only [Nat.mul_one, ge_iff_le, h8, h, hm, if_true, if_false]
end
end
section
open Go.RowKit Go
theorem Srf.put {α : Type} [Inhabited α] {gl gs : FuncId} {lb sb : Array Value} {lt : α → α → Bool} {M : Nat} {St : World → Array α → Prop} (hM : Srf gl gs lb sb lt M St) {w : World} {d : Array α} (h : St w d) (cb : Nat) (v : Value) (hc : M ≤ cb) : St (w.setCell ⟨cb, 0, none⟩ v) d :=
  hM.keep h (((Kp.refl (fun q => q = cb) w).setCell ⟨cb, 0, none⟩ v (fun _ => rfl)).below (hM.low h) (fun k hk => by rw [hk]; exact hc))
def Bxw (gl gs : FuncId) (lb sb : Array Value) (g : Nat) (w : World) : Prop := w.heap[g]? = some (.cells (lsw gl gs lb sb) 200 (0, 0))
section
variable {gl gs : FuncId} {lb sb : Array Value} {g cb : Nat} {w w' : World}
theorem Bxw.c0 (h : Hid (Bxw gl gs lb sb g w)) : w.cell? ⟨g, 0, none⟩ = some (.func (.func gl) #[] lb) := blk_cell (j := 0) h.out rfl
theorem Bxw.c1 (h : Hid (Bxw gl gs lb sb g w)) : w.cell? ⟨g, 1, none⟩ = some (.func (.func gs) #[] sb) := blk_cell (j := 1) h.out rfl
theorem Bxw.kp (h : Bxw gl gs lb sb g w) (hk : Kp (fun q => q = cb) w w') (hg : g ≠ cb) : Bxw gl gs lb sb g w' := (hk.block g (blk_lt h) hg).trans h
end
theorem Srf.center {α : Type} [Inhabited α] {gl gs : FuncId} {lb sb : Array Value} {lt : α → α → Bool} {M : Nat} {St : World → Array α → Prop} (hM : Srf gl gs lb sb lt M St) {w : World} {d : Array α} {cb s : Nat} (h : St w d ∧ Cnt w cb s ∧ M ≤ cb) : Hid (St (w.alloc (.cells (lsw gl gs lb sb) 200)) d ∧ Cnt (w.alloc (.cells (lsw gl gs lb sb) 200)) cb s ∧ M ≤ cb) ∧ Hid (Bxw gl gs lb sb w.heap.size (w.alloc (.cells (lsw gl gs lb sb) 200))) ∧ Hid (w.heap.size ≠ cb) ∧ Hid (Kp (fun q => q = cb) w (w.alloc (.cells (lsw gl gs lb sb) 200))) := by
  obtain ⟨h1, h2, h3⟩ := h
  have hba := below_allocS w (.cells (lsw gl gs lb sb) 200)
  have hlt := blk_lt h2
  exact ⟨⟨hM.on h1 hba, (hba.block cb hlt).trans h2, h3⟩, heap_alloc_new w _, (by show _ ≠ _; omega), (Kp.refl _ w).alloc _⟩
set_option maxRecDepth 1000000 in
set_option maxHeartbeats 4000000 in
theorem order2F_any {α : Type} [Inhabited α] {gl gs : FuncId} {lb sb : Array Value} {lt : α → α → Bool} {M : Nat} {St : World → Array α → Prop} (hM : Srf gl gs lb sb lt M St) {w : World} {d : Array α} (cb s a b : Nat) (h : Hid (St w d ∧ Cnt w cb s ∧ M ≤ cb)) (r : Nat × Nat × Nat) (hr : Sort.order2 lt d a b s = r) (x y : Int) (hx : x = (a : Int)) (hy : y = (b : Int)) (ha : a < d.size) (hb : b < d.size) (hs : s < 1000) : Calls Tryz.prog 229 #[.agg (lsw gl gs lb sb), .int .i64 x, .int .i64 y, .pointer (some ⟨cb, 0, none⟩)] w fun e w' => e = .returned (.tuple #[.int .i64 (r.1 : Nat), .int .i64 (r.2.1 : Nat)]) ∧ Hid ((St w' d ∧ Cnt w' cb r.2.2 ∧ M ≤ cb) ∧ Kp (fun q => q = cb) w w') := by
  subst hx hy
  obtain ⟨HC, HB1, HG, HKA⟩ := hM.center h.out
  have HM := hide hM
  have el := hM.el
  have HL := hide (hM.less b a HC.out.1 hb ha)
  have c0 := Bxw.c0 HB1
  have HR := hide hr
  clear hM ha hb hr h HB1 HG
  go_enter Tryz.func229, Tryz.ntmps229
  go_upto_region 1 with fail
  generalize w.alloc (.cells (lsw gl gs lb sb) 200) = w1 at *
  generalize w.heap.size = g at *
  go_wp2_with fail
  refine HL.out.mono ?_
  rintro _ w2 ⟨rfl, hbl⟩
  clear HL
  obtain ⟨h1, h2, h3⟩ := HC.out
  have HS2 := hide (HM.out.on h1 hbl)
  have hc2 : w2.heap[cb]? = some (.cells #[.int .i64 (s : Nat)] 3 (0, 0)) := (hbl.block cb (blk_lt h2)).trans h2
  have HK2 : Hid (Kp (fun q => q = cb) w w2) := HKA.out.trans (Kp.of_below (S := fun _ => False) hbl) (fun _ _ h => h.elim)
  have H3 := hide h3
  clear HC h1 h2 h3 hbl HKA
  generalize hlv : lt d[b]! d[a]! = lv at *
  have HLV := hide hlv
  clear hlv
  cases lv with
  | true =>
    have er : r = (b, a, s + 1) := by rw [← HR.out]; unfold Sort.order2; rw [HLV.out]; rfl
    subst er
    have c1 := blk_cell (j := 0) (v := .int .i64 (s : Nat)) hc2 rfl
    have f1 := blk_frozen 0 hc2
    have HC2 := hide hc2
    have k1 : ((s + 1 : Nat) : Int) = (s : Int) + 1 := by omega
    clear hc2 HR HLV
    go_wp2_with fail
    have hcx := blk_set 0 (.int .i64 ((s : Int) + 1)) HC2.out
    go_ret2
    refine ⟨rfl, ⟨HM.out.put HS2.out cb _ H3.out, ?_, H3.out⟩, HK2.out.setCell ⟨cb, 0, none⟩ _ (fun _ => rfl)⟩
    unfold Cnt
    rw [k1]
    exact hcx
  | false =>
    have er : r = (a, b, s) := by rw [← HR.out]; unfold Sort.order2; rw [HLV.out]; rfl
    subst er
    have HC2 := hide hc2
    clear hc2 HR HLV
    go_wp2_with fail
    go_ret2
    exact ⟨rfl, ⟨HS2.out, HC2.out, H3.out⟩, HK2.out⟩
set_option maxRecDepth 1000000 in
set_option maxHeartbeats 4000000 in
theorem medianF_any {α : Type} [Inhabited α] {gl gs : FuncId} {lb sb : Array Value} {lt : α → α → Bool} {M : Nat} {St : World → Array α → Prop} (hM : Srf gl gs lb sb lt M St) {w : World} {d : Array α} (cb s a b c : Nat) (h : Hid (St w d ∧ Cnt w cb s ∧ M ≤ cb)) (p t : Nat) (hr : Sort.median lt d a b c s = (p, t)) (x y z : Int) (hx : x = (a : Int)) (hy : y = (b : Int)) (hz : z = (c : Int)) (ha : a < d.size) (hb : b < d.size) (hc : c < d.size) (hs : s < 900) : Calls Tryz.prog 224 #[.agg (lsw gl gs lb sb), .int .i64 x, .int .i64 y, .int .i64 z, .pointer (some ⟨cb, 0, none⟩)] w fun e w' => e = .returned (.int .i64 (p : Nat)) ∧ Hid ((St w' d ∧ Cnt w' cb t ∧ M ≤ cb) ∧ Kp (fun q => q = cb) w w') := by
  subst hx hy hz
  obtain ⟨HC1, HB1, HG, HK1⟩ := hM.center h.out
  obtain ⟨⟨p1, q1, s1⟩, h1⟩ : ∃ r, Sort.order2 lt d a b s = r := ⟨_, rfl⟩
  obtain ⟨⟨p2, q2, s2⟩, h2⟩ : ∃ r, Sort.order2 lt d q1 c s1 = r := ⟨_, rfl⟩
  obtain ⟨⟨p3, q3, s3⟩, h3⟩ : ∃ r, Sort.order2 lt d p1 p2 s2 = r := ⟨_, rfl⟩
  rw [median_of h1 h2 h3] at hr
  injection hr with hr1 hr2
  subst hr1 hr2
  have e1 := order2_in h1 ha hb
  have e2 := order2_in h2 e1.2.1 hc
  have e3 := order2_in h3 e1.1 e2.1
  have HM := hide hM
  have H1 := hide h1
  have H2 := hide h2
  have H3 := hide h3
  have c01 := Bxw.c0 HB1
  have c11 := Bxw.c1 HB1
  clear hM h1 h2 h3 h
  go_enter Tryz.func224, Tryz.ntmps224
  go_upto_region 1 with fail
  generalize w.alloc (.cells (lsw gl gs lb sb) 200) = w1 at *
  generalize w.heap.size = g at *
  go_wp2_with fail
  refine (order2F_any HM.out cb s a b HC1 _ H1.out _ _ rfl rfl ha hb (by omega)).mono ?_
  rintro _ w2 ⟨rfl, hw2⟩
  have HB2 := hide (HB1.out.kp hw2.out.2 HG.out)
  have HC2 := hide hw2.out.1
  have HK2 : Hid (Kp (fun q => q = cb) w w2) := HK1.out.trans hw2.out.2 (fun _ _ h => h)
  have c02 := Bxw.c0 HB2
  have c12 := Bxw.c1 HB2
  clear hw2 HB1 HC1 HK1
  go_wp2_with fail
  refine (order2F_any HM.out cb s1 q1 c HC2 _ H2.out _ _ rfl rfl e1.2.1 hc (by omega)).mono ?_
  rintro _ w3 ⟨rfl, hw3⟩
  have HB3 := hide (HB2.out.kp hw3.out.2 HG.out)
  have HC3 := hide hw3.out.1
  have HK3 : Hid (Kp (fun q => q = cb) w w3) := HK2.out.trans hw3.out.2 (fun _ _ h => h)
  have c03 := Bxw.c0 HB3
  have c13 := Bxw.c1 HB3
  clear hw3 HB2 HC2 HK2
  go_wp2_with fail
  refine (order2F_any HM.out cb s2 p1 p2 HC3 _ H3.out _ _ rfl rfl e1.1 e2.1 (by omega)).mono ?_
  rintro _ w4 ⟨rfl, hw4⟩
  have HB4 := hide (HB3.out.kp hw4.out.2 HG.out)
  have HC4 := hide hw4.out.1
  have HK4 : Hid (Kp (fun q => q = cb) w w4) := HK3.out.trans hw4.out.2 (fun _ _ h => h)
  have c04 := Bxw.c0 HB4
  have c14 := Bxw.c1 HB4
  clear hw4 HB3 HC3 HK3
  go_wp2_with fail
  go_ret
  exact ⟨rfl, HC4.out, HK4.out⟩
set_option maxRecDepth 1000000 in
set_option maxHeartbeats 4000000 in
theorem medianAdjacentF_any {α : Type} [Inhabited α] {gl gs : FuncId} {lb sb : Array Value} {lt : α → α → Bool} {M : Nat} {St : World → Array α → Prop} (hM : Srf gl gs lb sb lt M St) {w : World} {d : Array α} (cb s a : Nat) (h : Hid (St w d ∧ Cnt w cb s ∧ M ≤ cb)) (p t : Nat) (hr : Sort.medianAdjacent lt d a s = (p, t)) (x : Int) (hx : x = (a : Int)) (ha : 1 ≤ a) (hb : a + 1 < d.size) (hsz : d.size < 4611686018427387904) (hs : s < 900) : Calls Tryz.prog 223 #[.agg (lsw gl gs lb sb), .int .i64 x, .pointer (some ⟨cb, 0, none⟩)] w fun e w' => e = .returned (.int .i64 (p : Nat)) ∧ Hid ((St w' d ∧ Cnt w' cb t ∧ M ≤ cb) ∧ Kp (fun q => q = cb) w w') := by
  subst hx
  obtain ⟨HC1, HB1, HG, HK1⟩ := hM.center h.out
  have HM := hide hM
  have HR : Hid (Sort.median lt d (a - 1) a (a + 1) s = (p, t)) := hr
  have c01 := Bxw.c0 HB1
  have c11 := Bxw.c1 HB1
  clear hM hr h
  go_enter Tryz.func223, Tryz.ntmps223
  go_upto_region 1 with fail
  generalize w.alloc (.cells (lsw gl gs lb sb) 200) = w1 at *
  generalize w.heap.size = g at *
  go_wp2_with fail
  refine (medianF_any HM.out cb s (a - 1) a (a + 1) HC1 _ _ HR.out _ _ _ (by omega) rfl (by omega) (by omega) (by omega) (by omega) (by omega)).mono ?_
  rintro _ w2 ⟨rfl, hw2⟩
  have HB2 := hide (HB1.out.kp hw2.out.2 HG.out)
  have HC2 := hide hw2.out.1
  have HK2 : Hid (Kp (fun q => q = cb) w w2) := HK1.out.trans hw2.out.2 (fun _ _ h => h)
  have c02 := Bxw.c0 HB2
  have c12 := Bxw.c1 HB2
  clear hw2 HB1 HC1 HK1
  go_wp2_with fail
  go_ret
  exact ⟨rfl, HC2.out, HK2.out⟩
end
section
open Go.RowKit Go
section
variable {α : Type} [Inhabited α] {lt : α → α → Bool} {p : α → Bool} {d : Array α}
theorem scanUp_go {i j : Nat} (h : i ≤ j) (hp : p d[i]! = true) : Sort.scanUp p d j i = Sort.scanUp p d j (i + 1) := by
  conv => lhs; unfold Sort.scanUp
  rw [if_pos (by simp [hp, h])]
theorem scanUp_no {i j : Nat} (h : ¬ (i ≤ j ∧ p d[i]! = true)) : Sort.scanUp p d j i = i := by
  unfold Sort.scanUp
  rw [if_neg (by simpa using h)]
theorem scanDown_go {i j : Nat} (h0 : 1 ≤ j) (h : i ≤ j) (hp : p d[j]! = true) : Sort.scanDown p d i j = Sort.scanDown p d i (j - 1) := by
  cases j with
  | zero => omega
  | succ j =>
    conv => lhs; unfold Sort.scanDown
    rw [if_pos (by simp [hp, h]), Nat.add_sub_cancel]
theorem scanDown_no {i j : Nat} (h : ¬ (i ≤ j ∧ p d[j]! = true)) : Sort.scanDown p d i j = j := by
  cases j with
  | zero => rfl
  | succ j =>
    unfold Sort.scanDown
    rw [if_neg (by simpa using h)]
theorem part_brk {a i j I J : Nat} (hI : Sort.scanUp (fun x => lt x d[a]!) d j i = I) (hJ : Sort.scanDown (fun x => !lt x d[a]!) d I j = J) (h : I > J) : Sort.partLoop lt a i j d = (J, d) := by
  unfold Sort.partLoop
  simp only [hI, hJ]
  rw [if_pos h]
theorem part_on {a i j I J : Nat} (hI : Sort.scanUp (fun x => lt x d[a]!) d j i = I) (hJ : Sort.scanDown (fun x => !lt x d[a]!) d I j = J) (h : I < J) (h1 : i ≤ I) (h2 : J ≤ j) : Sort.partLoop lt a i j d = Sort.partLoop lt a (I + 1) (J - 1) (Sort.swp d I J) := by
  conv => lhs; unfold Sort.partLoop
  simp only [hI, hJ]
  rw [if_neg (by omega), dif_pos (by omega)]
theorem parte_brk {a i j I J : Nat} (hI : Sort.scanUp (fun x => !lt d[a]! x) d j i = I) (hJ : Sort.scanDown (fun x => lt d[a]! x) d I j = J) (h : I > J) : Sort.partEqLoop lt a i j d = (I, d) := by
  unfold Sort.partEqLoop
  simp only [hI, hJ]
  rw [if_pos h]
theorem parte_on {a i j I J : Nat} (hI : Sort.scanUp (fun x => !lt d[a]! x) d j i = I) (hJ : Sort.scanDown (fun x => lt d[a]! x) d I j = J) (h : I < J) (h1 : i ≤ I) (h2 : J ≤ j) : Sort.partEqLoop lt a i j d = Sort.partEqLoop lt a (I + 1) (J - 1) (Sort.swp d I J) := by
  conv => lhs; unfold Sort.partEqLoop
  simp only [hI, hJ]
  rw [if_neg (by omega), dif_pos (by omega)]
theorem part_yes {a b pv I J : Nat} (hI : Sort.scanUp (fun x => lt x (Sort.swp d a pv)[a]!) (Sort.swp d a pv) (b - 1) (a + 1) = I) (hJ : Sort.scanDown (fun x => !lt x (Sort.swp d a pv)[a]!) (Sort.swp d a pv) I (b - 1) = J) (h : I > J) : Sort.partition lt d a b pv = (J, true, Sort.swp (Sort.swp d a pv) J a) := by
  unfold Sort.partition
  simp only [hI, hJ]
  rw [if_pos h]
theorem part_no {a b pv I J : Nat} (hI : Sort.scanUp (fun x => lt x (Sort.swp d a pv)[a]!) (Sort.swp d a pv) (b - 1) (a + 1) = I) (hJ : Sort.scanDown (fun x => !lt x (Sort.swp d a pv)[a]!) (Sort.swp d a pv) I (b - 1) = J) (h : ¬ I > J) {R : Nat × Array α} (hR : Sort.partLoop lt a (I + 1) (J - 1) (Sort.swp (Sort.swp d a pv) I J) = R) : Sort.partition lt d a b pv = (R.1, false, Sort.swp R.2 R.1 a) := by
  unfold Sort.partition
  simp only [hI, hJ]
  rw [if_neg h, hR]
end
end
section
open Go.RowKit Go
theorem hnt_0 {s : Nat} (h : s = 0) : hcd (hnt s) = 1 := by subst h; rfl
theorem hnt_12 {s : Nat} (h0 : s ≠ 0) (h : s = 12) : hcd (hnt s) = 2 := by subst h; rfl
theorem hnt_no {s : Nat} (h0 : s ≠ 0) (h : s ≠ 12) : hcd (hnt s) = 0 := by
  unfold hnt
  rw [if_neg h0, if_neg h]
  rfl
end
end Go.Proofs.YtnkghcndaafmoaaGreatDoor

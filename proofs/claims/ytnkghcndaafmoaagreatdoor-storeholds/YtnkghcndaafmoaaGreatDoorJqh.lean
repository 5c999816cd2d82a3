import Derived.Test.YtnkghcndaafmoaaGreatDoorJqa
import Derived.Test.YtnkghcndaafmoaaGreatDoorSlbl
import Derived.Sort.LotD5
import Derived.Sort.Row
import Derived.Laws.Bits64
import Derived.Laws.Bits64b
import Derived.Test.YtnkghcndaafmoaaGreatDoorJqd
import Derived.Test.YtnkghcndaafmoaaGreatDoorJqc
import Derived.Test.YtnkghcndaafmoaaGreatDoorJqf
import Derived.Deep.CutBlock
import Derived.Deep.DeepCutAuto
namespace Go.Proofs.YtnkghcndaafmoaaGreatDoor
section
open Go.RowKit Go
theorem set2_9 (w : World) (rb : Nat) (v v' : Value) : (w.setCell ⟨rb, 0, none⟩ v).setCell ⟨rb, 0, none⟩ v' = w.setCell ⟨rb, 0, none⟩ v' := by
  rw [Sort.setCell_eq, Sort.setCell_eq, Sort.mapBlock_mapBlock, Sort.setCell_eq]
  congr 1
  funext c
  simp
theorem bitLen9 : ∀ (k x : Nat), x < 2 ^ k → k ≤ 64 → Lib.bitLen x = Sort.bitsLen x
  | 0, x, h, _ => by
    have : x = 0 := by simpa using h
    subst this
    rfl
  | k + 1, x, h, hk => by
    by_cases h0 : x = 0
    · subst h0
      rfl
    · rw [Lib.bitLen_half x h0 (Nat.lt_of_lt_of_le h (Nat.pow_le_pow_right (by decide) hk)), bitLen9 k (x / 2) (by rw [Nat.pow_succ] at h; omega) (by omega)]
      unfold Sort.bitsLen
      rw [if_neg h0]
      by_cases h1 : x / 2 = 0
      · rw [if_pos h1]
        have : x = 1 := by omega
        subst this
        rfl
      · rw [if_neg h1]
        conv => rhs; rw [Nat.log2_def, if_pos (by omega)]
        omega
set_option maxRecDepth 1000000 in
set_option maxHeartbeats 4000000 in
theorem next9_any (rb X : Nat) (hX : X < 18446744073709551616) (w : World) (hb : w.heap[rb]? = some (.cells #[.int .u64 (X : Nat)] 297 (0, 0))) : Calls Tryz.prog 222 #[.pointer (some ⟨rb, 0, none⟩)] w fun e w' => e = .returned (.int .u64 (Sort.xorNextN X : Nat)) ∧ Hid (∃ q, w' = (w.setCell ⟨rb, 0, none⟩ (.int .u64 (Sort.xorNextN X : Nat))).drewN q) := by
  obtain ⟨A, hA⟩ : ∃ A : Nat, A = X ^^^ (X * 8192 % 18446744073709551616) := ⟨_, rfl⟩
  obtain ⟨B, hB⟩ : ∃ B : Nat, B = A ^^^ (A / 128) := ⟨_, rfl⟩
  obtain ⟨C, hC⟩ : ∃ C : Nat, C = B ^^^ (B * 131072 % 18446744073709551616) := ⟨_, rfl⟩
  have lA : A < 18446744073709551616 := by rw [hA]; exact Nat.xor_lt_two_pow (n := 64) (by omega) (by omega)
  have lB : B < 18446744073709551616 := by rw [hB]; exact Nat.xor_lt_two_pow (n := 64) (by omega) (by omega)
  have e1 : bits .xor .u64 (X : Int) (IntKind.u64.wrap ((X : Int) * 8192)) = (A : Int) := by
    rw [IntKind.wrap_u64, show ((X : Int) * 8192 % 18446744073709551616) = ((X * 8192 % 18446744073709551616 : Nat) : Int) by omega, bits_xor_u64_nat _ _ hX (by omega), hA]
  have e2 : bits .xor .u64 (A : Int) ((A : Int) / 128) = (B : Int) := by
    rw [show ((A : Int) / 128) = ((A / 128 : Nat) : Int) by omega, bits_xor_u64_nat _ _ lA (by omega), hB]
  have e3 : bits .xor .u64 (B : Int) (IntKind.u64.wrap ((B : Int) * 131072)) = (C : Int) := by
    rw [IntKind.wrap_u64, show ((B : Int) * 131072 % 18446744073709551616) = ((B * 131072 % 18446744073709551616 : Nat) : Int) by omega, bits_xor_u64_nat _ _ lB (by omega), hC]
  have hv : Sort.xorNextN X = C := by unfold Sort.xorNextN; simp only []; rw [← hA, ← hB, ← hC]
  rw [hv]
  have hc := blk_cell (j := 0) (v := .int .u64 (X : Nat)) hb rfl
  have hf := blk_frozen 0 hb
  clear hA hB hC hv hb
  have hss : ∀ v v', (w.setCell ⟨rb, 0, none⟩ v).setCell ⟨rb, 0, none⟩ v' = w.setCell ⟨rb, 0, none⟩ v' := fun v v' => set2_9 w rb v v'
  go_enter Tryz.func222, Tryz.ntmps222
  go_wp2
  go_region
  all_goals go_wp2
  all_goals go_region
  all_goals go_wp2
  all_goals go_region
  all_goals go_wp2
  go_ret
  exact ⟨rfl, 3, rfl⟩
theorem wrap_pow9 (k : Nat) (hk : k ≤ 62) : IntKind.u64.wrap ((2 : Int) ^ k) = ((1 <<< k : Nat) : Int) := by
  have h : (2 : Nat) ^ k ≤ 2 ^ 62 := Nat.pow_le_pow_right (by decide) hk
  rw [IntKind.wrap_u64, Nat.one_shiftLeft, show ((2 : Int) ^ k) = ((2 ^ k : Nat) : Int) by push_cast; rfl]
  generalize (2 : Nat) ^ k = p at h
  omega
theorem bitsLen_any (n : Nat) (hn : n < 4611686018427387904) (w : World) : Calls Tryz.prog 138 #[.int .u64 (n : Nat)] w fun e w' => e = .returned (.int .i64 (Sort.bitsLen n : Nat)) ∧ w' = w := by
  have h := Any.bits_Len Tryz.laysBl (n : Int) w (by omega) (by omega)
  rwa [Int.toNat_natCast, bitLen9 64 n (by omega) (Nat.le_refl _)] at h
set_option maxRecDepth 1000000 in
set_option maxHeartbeats 4000000 in
theorem nextPow_any (n : Nat) (hn : n < 4611686018427387904) (w : World) : Calls Tryz.prog 221 #[.int .i64 (n : Nat)] w fun e w' => e = .returned (.int .u64 ((1 <<< Sort.bitsLen n : Nat) : Int)) ∧ w' = w := by
  have hk : Sort.bitsLen n ≤ 62 := (Sort.bitsLen_le_iff n 62).2 (by omega)
  have hp := wrap_pow9 (Sort.bitsLen n) hk
  go_enter Tryz.func221, Tryz.ntmps221
  go_wp2_with fail
  refine (bitsLen_any n hn w).mono ?_
  rintro _ w1 ⟨rfl, rfl⟩
  go_wp2_with fail
  go_ret
  exact ⟨rfl, rfl⟩
end
section
open Go.RowKit Go
section
variable {α : Type} [Inhabited α]
def oth9 (l m r : Nat) : Nat := if r &&& (m - 1) ≥ l then (r &&& (m - 1)) - l else r &&& (m - 1)
def brun (a l m : Nat) : Nat → Nat → Nat → Array α → Array α
  | 0, _, _, d => d
  | k + 1, i, X, d => brun a l m k (i + 1) (Sort.xorNextN X) (Sort.swp d i (a + oth9 l m (Sort.xorNextN X)))
theorem bstep9 (a l m i : Nat) (r : UInt64) (d : Array α) : Sort.breakStep a l m (r, d) i = (Sort.xorNext r, Sort.swp d i (a + oth9 l m (Sort.xorNextN r.toNat))) := by
  unfold Sort.breakStep oth9
  simp only [Sort.xorNext_toNat]
theorem brun_eq (d : Array α) (a b : Nat) (h : 8 ≤ b - a) (hl : b - a < 18446744073709551616) : Sort.breakPatterns d a b = brun a (b - a) (1 <<< Sort.bitsLen (b - a)) 3 (a + (b - a) / 4 * 2 - 1) (b - a) d := by
  have hz : (UInt64.ofNat (b - a)).toNat = b - a := by
    rw [UInt64.toNat_ofNat']
    exact Nat.mod_eq_of_lt hl
  unfold Sort.breakPatterns
  simp only [ge_iff_le, h, if_true, bstep9, Sort.xorNext_toNat, hz]
  rfl
theorem pow_le9 (l : Nat) (h : 1 ≤ l) : 1 <<< Sort.bitsLen l ≤ 2 * l := by
  rw [Nat.one_shiftLeft]
  have h1 : ¬ Sort.bitsLen l ≤ Sort.bitsLen l - 1 := by
    have h0 : ¬ Sort.bitsLen l ≤ 0 := fun e => by have := (Sort.bitsLen_le_iff l 0).1 e; simp at this; omega
    omega
  have h2 : ¬ l < 2 ^ (Sort.bitsLen l - 1) := fun e => h1 ((Sort.bitsLen_le_iff l _).2 e)
  have h3 : 2 ^ Sort.bitsLen l = 2 * 2 ^ (Sort.bitsLen l - 1) := by
    obtain ⟨k, hk⟩ : ∃ k, Sort.bitsLen l = k + 1 := ⟨Sort.bitsLen l - 1, by omega⟩
    rw [hk, Nat.add_sub_cancel, Nat.pow_succ]
    omega
  omega
end
end
section
open Go.RowKit Go
theorem Srf.sz2 {α : Type} [Inhabited α] {gl gs : FuncId} {lb sb : Array Value} {lt : α → α → Bool} {M : Nat} {St : World → Array α → Prop} (hM : Srf gl gs lb sb lt M St) {w : World} {d : Array α} (h : St w d) (i j : Nat) (x y : Int) (hx : x = (i : Int)) (hy : y = (j : Int)) (hi : i < d.size) (hj : j < d.size) : ∃ w', (callFunc gs (#[.int .i64 x, .int .i64 y] ++ sb)).run Tryz.prog w = .ok (.value (.tuple #[])) w' ∧ (Hid (St w' (Sort.swp d i j)) ∧ Kp (fun q => q < M) w w') := by
  subst hx hy
  obtain ⟨w', h1, h2, h3⟩ := hM.swap i j h hi hj
  exact ⟨w', h1, h2, h3⟩
theorem Srf.drewN {α : Type} [Inhabited α] {gl gs : FuncId} {lb sb : Array Value} {lt : α → α → Bool} {M : Nat} {St : World → Array α → Prop} (hM : Srf gl gs lb sb lt M St) {w : World} {d : Array α} (h : St w d) (n : Nat) : St (w.drewN n) d :=
  hM.keep h (((Kp.refl (fun _ => False) w).drewN n).below (hM.low h) (fun _ h => h.elim))
set_option maxRecDepth 1000000 in
set_option maxHeartbeats 4000000 in
theorem breakPatternsF_any {α : Type} [Inhabited α] {gl gs : FuncId} {lb sb : Array Value} {lt : α → α → Bool} {M : Nat} {St : World → Array α → Prop} (hM : Srf gl gs lb sb lt M St) {w : World} {d : Array α} (h : St w d) (a b : Nat) (hab : a + 12 < b) (hb : b ≤ d.size) (hsz : d.size < 4611686018427387904) : Calls Tryz.prog 199 #[.agg (lsw gl gs lb sb), .int .i64 (a : Nat), .int .i64 (b : Nat)] w fun e w' => e = .returned (.tuple #[]) ∧ Hid (St w' (Sort.breakPatterns d a b) ∧ (Sort.breakPatterns d a b).size = d.size) := by
  obtain ⟨St2, hB, hM2, hs0, hout⟩ := hM.enter h
  suffices key : Calls Tryz.prog 199 #[.agg (lsw gl gs lb sb), .int .i64 (a : Nat), .int .i64 (b : Nat)] w fun e w' => e = .returned (.tuple #[]) ∧ Hid (St2 w' (Sort.breakPatterns d a b) ∧ (Sort.breakPatterns d a b).size = d.size) from key.mono fun _ _ h => ⟨h.1, (hout (hide h.2.out.1)).out, h.2.out.2⟩
  clear hout hM h
  have HBx := hide hB
  obtain ⟨LS, hLS⟩ : ∃ LS, LS = Sort.breakPatterns d a b := ⟨_, rfl⟩
  rw [← hLS]
  rw [brun_eq d a b (by omega) (by omega)] at hLS
  have HM := hide hM2
  have hlow := hM2.low hs0.out
  have hz1 : (w.alloc (.cells (lsw gl gs lb sb) 200)).heap.size = w.heap.size + 1 := by simp
  obtain ⟨n, hn⟩ : ∃ n, n = d.size := ⟨_, rfl⟩
  rw [← hn] at hb hsz ⊢
  obtain ⟨l, hl⟩ : ∃ l, l = b - a := ⟨_, rfl⟩
  obtain ⟨q, hq⟩ : ∃ q, q = l / 4 := ⟨_, rfl⟩
  obtain ⟨J, hJ⟩ : ∃ J, J = a + q * 2 := ⟨_, rfl⟩
  obtain ⟨i0, hi0⟩ : ∃ i0, i0 = J - 1 := ⟨_, rfl⟩
  obtain ⟨m, hm⟩ : ∃ m, m = 1 <<< Sort.bitsLen l := ⟨_, rfl⟩
  have hm2 : m ≤ 2 * l := by rw [hm]; exact pow_le9 l (by omega)
  have hm1 : 1 ≤ m := by rw [hm, Nat.one_shiftLeft]; exact Nat.two_pow_pos _
  have HLS : Hid (LS = brun a l m 3 i0 l d) := by show _ = _; rw [hLS, hm, hi0, hJ, hq, hl]
  obtain ⟨rb, hrb⟩ : ∃ rb, rb = w.heap.size + 1 := ⟨_, rfl⟩
  obtain ⟨wA, hwA⟩ : ∃ wA, wA = (w.alloc (.cells (lsw gl gs lb sb) 200)).alloc (.cells #[.int .u64 (l : Nat)] 297) := ⟨_, rfl⟩
  have hk0 : Kp (fun _ => False) (w.alloc (.cells (lsw gl gs lb sb) 200)) wA := by
    rw [hwA]
    exact (Kp.refl _ _).alloc _
  have HS0 : Hid (St2 wA d) := hM2.keep hs0.out (hk0.below hlow (fun _ h => h.elim))
  have HB0 : Hid (wA.heap[rb]? = some (.cells #[.int .u64 (l : Nat)] 297 (0, 0))) := by
    show _ = _
    rw [hwA, hrb, ← hz1]
    exact heap_alloc_new _ _
  have k1 : (b : Int) - (a : Int) = (l : Int) := by omega
  have k2 : (l : Int) / 4 = (q : Int) := by omega
  have k4 : (a : Int) + (q : Int) * 2 = (J : Int) := by omega
  have k5 : (J : Int) - 1 = (i0 : Int) := by omega
  have g8 : (l : Int) ≥ 8 := by omega
  have hb1 : i0 + 2 < n := by omega
  have hb2 : a + l ≤ n := by omega
  have hb3 : i0 + 1 = J := by omega
  have hb4 : q * 2 ≤ n := by omega
  have HN : Hid (d.size = n) := hn.symm
  have HRB : Hid (rb = w.heap.size + 1 ∧ w.heap.size + 1 ≤ rb) := ⟨hrb, by omega⟩
  have HWA := hide hwA
  have HMM : Hid (m = 1 <<< Sort.bitsLen l) := hm
  clear hB hM2 hs0 hz1 hLS hn hl hq hJ hi0 hm hrb hwA hk0 hlow
  go_enter Tryz.func199, Tryz.ntmps199
  go_wp2_with fail
  rw [← HWA.out, ← HRB.out.1]
  refine (nextPow_any l (by omega) wA).mono ?_
  rintro _ w1 ⟨rfl, rfl⟩
  rw [← HMM.out]
  go_wp2_with fail
  go_loopg [9] 3 (fun gk s9 wx => ∃ (x : Int) (idx s : Nat), s9 = .int .i64 x ∧ x = (idx : Int) ∧ idx + s = i0 + 3 ∧ s ≤ 3 ∧ s ≤ gk ∧ ∃ (e : Array α) (X : Nat), St2 wx e ∧ e.size = n ∧ wx.heap[rb]? = some (.cells #[.int .u64 (X : Nat)] 297 (0, 0)) ∧ X < 18446744073709551616 ∧ LS = brun a l m s idx X e)
  case atStart => exact ⟨_, i0, 3, rfl, rfl, rfl, Nat.le_refl _, Nat.le_refl _, d, l, HS0.out, HN.out, HB0.out, by omega, HLS.out⟩
  case round =>
    obtain ⟨x, idx, s, rfl, rfl, his, hs3, hgk, e, X, hs, hd, hbk, hX, hrl⟩ := hrel
    have HS := hide hs
    have HBK := hide hbk
    have HRL := hide hrl
    have HX := hide hX
    clear hs hbk hrl hX HS0 HB0 HLS
    cases s with
    | zero =>
      as_aux_lemma =>
      have gz : ¬ ((idx : Int) ≤ (J : Int) + 1) := by omega
      have HE : Hid (St2 wr LS ∧ LS.size = n) := by
        show _ ∧ _
        rw [HRL.out]
        exact ⟨HS.out, hd⟩
      clear HS HBK HRL his
      go_wp2_with fail
      first
        | (go_end0; exact ⟨rfl, HE⟩)
        | exact bodyPost_ret (results_none rfl _ _ _) rfl ⟨rfl, HE⟩
    | succ s =>
      as_aux_lemma =>
      have gz : (idx : Int) ≤ (J : Int) + 1 := by omega
      go_wp2_with fail
      refine (next9_any rb X HX.out wr HBK.out).mono ?_
      rintro _ w2 ⟨rfl, hq⟩
      have hRl := Sort.xorNextN_lt X HX.out
      have HRL2 : Hid (LS = brun a l m s (idx + 1) (Sort.xorNextN X) (Sort.swp e idx (a + oth9 l m (Sort.xorNextN X)))) := HRL.out
      have HW2 : Hid (St2 w2 e ∧ w2.heap[rb]? = some (.cells #[.int .u64 (Sort.xorNextN X : Nat)] 297 (0, 0))) := by
        obtain ⟨q, rfl⟩ := hq.out
        exact ⟨HM.out.drewN (HM.out.put HS.out rb _ HRB.out.2) q, blk_set 0 _ HBK.out⟩
      clear hq HS HBK HRL HX
      generalize Sort.xorNextN X = R at *
      obtain ⟨O, hO⟩ : ∃ O, R &&& (m - 1) = O := ⟨_, rfl⟩
      have hO1 : O ≤ m - 1 := by rw [← hO]; exact Nat.and_le_right
      have eAnd : bits .and .u64 (R : Int) ((m : Int) - 1) = (O : Int) := by
        rw [show (m : Int) - 1 = ((m - 1 : Nat) : Int) by omega, bits_and_u64_nat _ _ hRl (by omega), hO]
      have HOO : Hid (oth9 l m R = if O ≥ l then O - l else O) := by
        show _ = _
        unfold oth9
        rw [hO]
      have HR9 := hide hRl
      clear hO hRl
      by_cases hol : O ≥ l
      · have gol : (O : Int) ≥ (l : Int) := by omega
        obtain ⟨O2, hO2⟩ : ∃ O2, O2 = O - l := ⟨_, rfl⟩
        have e2 : (O : Int) - (l : Int) = (O2 : Int) := by omega
        have hO3 : O2 < l := by omega
        have HO2 : Hid (oth9 l m R = O2) := by show _ = _; rw [HOO.out, if_pos hol, hO2]
        clear hO2 HOO
        have c1w2 := HBx.out.c1 (hide HW2.out.1)
        go_wp2_with fail
        refine upon_sz (HM.out.sz2 HW2.out.1 idx (a + O2) _ _ (by first | rfl | omega) (by first | rfl | omega) (by omega) (by omega)) ?_
        rintro w3 ⟨hs4, hkp⟩
        have HB4 := hide ((hkp.block rb (blk_lt HW2.out.2) (fun h => by have h1 := HRB.out.2; have h2 : rb < w.heap.size + 1 := h; omega)).trans HW2.out.2)
        rw [HO2.out] at HRL2
        clear HW2 hkp
        go_wp2_with fail
        go_roundg s
        case measure => omega
        case rel => exact ⟨_, idx + 1, s, rfl, by omega, by omega, by omega, Nat.le_refl _, _, R, hs4.out, (swp_size _ _ _).trans hd, HB4.out, HR9.out, HRL2.out⟩
      · have gol : ¬ ((O : Int) ≥ (l : Int)) := by omega
        obtain ⟨O2, hO2⟩ : ∃ O2, O2 = O := ⟨_, rfl⟩
        have HO2 : Hid (oth9 l m R = O2) := by show _ = _; rw [HOO.out, if_neg hol, hO2]
        have hO3 : O2 < l := by omega
        subst hO2
        clear HOO
        have c1w2 := HBx.out.c1 (hide HW2.out.1)
        go_wp2_with fail
        refine upon_sz (HM.out.sz2 HW2.out.1 idx (a + O2) _ _ (by first | rfl | omega) (by first | rfl | omega) (by omega) (by omega)) ?_
        rintro w3 ⟨hs4, hkp⟩
        have HB4 := hide ((hkp.block rb (blk_lt HW2.out.2) (fun h => by have h1 := HRB.out.2; have h2 : rb < w.heap.size + 1 := h; omega)).trans HW2.out.2)
        rw [HO2.out] at HRL2
        clear HW2 hkp
        go_wp2_with fail
        go_roundg s
        case measure => omega
        case rel => exact ⟨_, idx + 1, s, rfl, by omega, by omega, by omega, Nat.le_refl _, _, R, hs4.out, (swp_size _ _ _).trans hd, HB4.out, HR9.out, HRL2.out⟩
end
section
open Go.RowKit Go
section
variable {α : Type} [Inhabited α] (lt : α → α → Bool)
def pqT (d : Array α) (a b pv L : Nat) (wb wp : Bool) : Array α :=
  if a > 0 && !lt d[a - 1]! d[pv]! then
    match Sort.partitionEqual lt d a b pv with
    | (mid, d4) => if a < mid ∧ mid ≤ b then Sort.pdq lt d4 mid b L wb wp else d4
  else
    match Sort.partition lt d a b pv with
    | (mid, ap, d4) =>
      if a ≤ mid ∧ mid < b then
        if mid - a < b - mid then Sort.pdq lt (Sort.pdq lt d4 a mid L true true) (mid + 1) b L (decide (mid - a ≥ (b - a) / 8)) ap
        else Sort.pdq lt (Sort.pdq lt d4 (mid + 1) b L true true) a mid L (decide (b - mid ≥ (b - a) / 8)) ap
      else d4
def pqP (d : Array α) (a b pv L : Nat) (hint : Sort.Hint) (wb wp : Bool) : Array α :=
  if (if wb && wp && hint = .increasing then Sort.partialInsertionSort lt d a b else (d, false)).2 then (if wb && wp && hint = .increasing then Sort.partialInsertionSort lt d a b else (d, false)).1
  else pqT lt (if wb && wp && hint = .increasing then Sort.partialInsertionSort lt d a b else (d, false)).1 a b pv L wb wp
def pqH (d : Array α) (a b L : Nat) (wb wp : Bool) : Array α :=
  pqP lt (if (Sort.choosePivot lt d a b).2 = .decreasing then Sort.reverseRange d a b else d) a b (if (Sort.choosePivot lt d a b).2 = .decreasing then (b - 1) - ((Sort.choosePivot lt d a b).1 - a) else (Sort.choosePivot lt d a b).1) L (if (Sort.choosePivot lt d a b).2 = .decreasing then .increasing else (Sort.choosePivot lt d a b).2) wb wp
theorem pdq_small {d : Array α} {a b L : Nat} {wb wp : Bool} (h : b - a ≤ 12) : Sort.pdq lt d a b L wb wp = Sort.insertionSort lt d a b := by
  unfold Sort.pdq
  rw [if_pos h]
theorem pdq_heap {d : Array α} {a b L : Nat} {wb wp : Bool} (h : ¬ b - a ≤ 12) (h0 : L = 0) : Sort.pdq lt d a b L wb wp = Sort.heapSort lt d a b := by
  unfold Sort.pdq
  rw [if_neg h, if_pos h0]
theorem pdq_rest {d : Array α} {a b L : Nat} {wb wp : Bool} (h : ¬ b - a ≤ 12) (h0 : ¬ L = 0) : Sort.pdq lt d a b L wb wp = pqH lt (if !wb then Sort.breakPatterns d a b else d) a b (if !wb then L - 1 else L) wb wp := by
  conv => lhs; unfold Sort.pdq
  rw [if_neg h, if_neg h0]
  unfold pqH pqP pqT
  simp only [dite_eq_ite]
theorem pqT_eq {d : Array α} {a b pv L : Nat} {wb wp : Bool} (h : 0 < a) (hl : lt d[a - 1]! d[pv]! = false) {mid : Nat} {d4 : Array α} (hp : Sort.partitionEqual lt d a b pv = (mid, d4)) (h1 : a < mid) (h2 : mid ≤ b) : pqT lt d a b pv L wb wp = Sort.pdq lt d4 mid b L wb wp := by
  unfold pqT
  rw [if_pos (by simp [hl, h]), hp]
  simp only [h1, h2, and_self, if_true]
theorem pqT_l {d : Array α} {a b pv L : Nat} {wb wp : Bool} (h : ¬ (0 < a ∧ lt d[a - 1]! d[pv]! = false)) {mid : Nat} {ap : Bool} {d4 : Array α} (hp : Sort.partition lt d a b pv = (mid, ap, d4)) (h1 : a ≤ mid) (h2 : mid < b) (h3 : mid - a < b - mid) : pqT lt d a b pv L wb wp = Sort.pdq lt (Sort.pdq lt d4 a mid L true true) (mid + 1) b L (decide (mid - a ≥ (b - a) / 8)) ap := by
  unfold pqT
  rw [if_neg (by simpa using h), hp]
  simp only [h1, h2, h3, and_self, if_true]
theorem pqT_r {d : Array α} {a b pv L : Nat} {wb wp : Bool} (h : ¬ (0 < a ∧ lt d[a - 1]! d[pv]! = false)) {mid : Nat} {ap : Bool} {d4 : Array α} (hp : Sort.partition lt d a b pv = (mid, ap, d4)) (h1 : a ≤ mid) (h2 : mid < b) (h3 : ¬ mid - a < b - mid) : pqT lt d a b pv L wb wp = Sort.pdq lt (Sort.pdq lt d4 (mid + 1) b L true true) a mid L (decide (b - mid ≥ (b - a) / 8)) ap := by
  unfold pqT
  rw [if_neg (by simpa using h), hp]
  simp only [h1, h2, h3, and_self, if_true, if_false]
end
end
section
open Go.RowKit Go
theorem hcd_2 {h : Sort.Hint} (e : h = .decreasing) : hcd h = 2 := by subst e; rfl
theorem hcd_1 {h : Sort.Hint} (e : h = .increasing) : hcd h = 1 := by subst e; rfl
theorem hcd_n2 {h : Sort.Hint} (e : h ≠ .decreasing) : hcd h ≠ 2 := by cases h <;> first | decide | exact absurd rfl e
theorem hcd_n1 {h : Sort.Hint} (e : h ≠ .increasing) : hcd h ≠ 1 := by cases h <;> first | decide | exact absurd rfl e
theorem rev_size {α : Type} [Inhabited α] : ∀ (k i j : Nat) (d : Array α), j - i ≤ k → (Sort.reverseLoop i j d).size = d.size
  | 0, i, j, d, h => by rw [rev_no (by omega)]
  | k + 1, i, j, d, h => by
    by_cases hij : i < j
    · rw [rev_go hij, rev_size k _ _ _ (by omega), swp_size]
    · rw [rev_no hij]
theorem insOuter_size {α : Type} [Inhabited α] (lt : α → α → Bool) (a b : Nat) : ∀ (k i : Nat) (d : Array α), b - i ≤ k → (Sort.insOuter lt a b i d).size = d.size
  | 0, i, d, h => by rw [insOuter_no (by omega)]
  | k + 1, i, d, h => by
    by_cases hij : i < b
    · rw [insOuter_go hij, insOuter_size lt a b k _ _ (by omega), insInner_size]
    · rw [insOuter_no hij]
theorem heapPop_size {α : Type} [Inhabited α] (lt : α → α → Bool) (a : Nat) : ∀ (k : Nat) (d : Array α), (Sort.heapPop lt a k d).size = d.size
  | 0, d => rfl
  | k + 1, d => by
    unfold Sort.heapPop
    rw [heapPop_size lt a k, sift_size k a _ 0 _ (Nat.le_refl _), swp_size]
theorem heapBuild_size {α : Type} [Inhabited α] (lt : α → α → Bool) (hi a : Nat) : ∀ (k : Nat) (d : Array α), (Sort.heapBuild lt hi a k d).size = d.size
  | 0, d => rfl
  | k + 1, d => by
    unfold Sort.heapBuild
    rw [heapBuild_size lt hi a k, sift_size hi a _ k _ (Nat.le_refl _)]
theorem heapSort_size {α : Type} [Inhabited α] (lt : α → α → Bool) (d : Array α) (a b : Nat) : (Sort.heapSort lt d a b).size = d.size := by
  unfold Sort.heapSort
  rw [heapPop_size, heapBuild_size]
end
end Go.Proofs.YtnkghcndaafmoaaGreatDoor

import Derived.Test.YtadilnmkjcmnnaaGreatDoorJc
import Derived.Test.YtadilnmkjcmnnaaGreatDoorJd
import Derived.Test.YtadilnmkjcmnnaaGreatDoorJb
namespace Go.Proofs.YtadilnmkjcmnnaaGreatDoor
section
open Go.RowKit
theorem lay_byte (m : Nat) (h : m < 9223372036854775808) : bits .or .u8 (bits .and .u64 (m : Int) 127 % 256) 128 = ((m % 128 + 128 : Nat) : Int) := by
  have h1 := u64_and_nat m 127 (by omega) (by omega)
  have h2 : m &&& 127 = m % 128 := Nat.and_two_pow_sub_one_eq_mod m 7
  rw [h2] at h1
  have h3 : bits .and .u64 (m : Int) 127 = ((m % 128 : Nat) : Int) := h1
  rw [h3]
  have e : ((m % 128 : Nat) : Int) % 256 = ((m % 128 : Nat) : Int) := by omega
  rw [e, u8_or128_right _ (by omega) (by omega)]
  omega
theorem pow_lid (f : Nat) (h : f ≤ 8) : 128 ^ (f + 1) ≤ 9223372036854775808 := by
  have h2 : 128 ^ (f + 1) ≤ 128 ^ 9 := Nat.pow_le_pow_right (by decide) (by omega)
  exact h2
theorem make9 (w : World) : (Instr.makeSlice 46 (.int .i64 0) (.int .i64 9)).run Tryz.prog w = .ok (.slice (some ⟨w.heap.size, 0, none⟩) 0 9) (w.alloc (.cells #[.int .u8 0, .int .u8 0, .int .u8 0, .int .u8 0, .int .u8 0, .int .u8 0, .int .u8 0, .int .u8 0, .int .u8 0] 5)) := by kernel_rfl

set_option maxRecDepth 1000000 in
set_option maxHeartbeats 400000 in
theorem vlay_any (n : Int) (w : World) (h0 : 0 ≤ n) (h1 : n < 9223372036854775808) :
    Calls Tryz.prog 163 #[.int .u64 n] w fun e w' => ∃ v, e = .returned (.tuple #[v, .int .i64 0]) ∧ w'.ownsRow w.heap.size 5 1 v (digs 9 n.toNat).length (bv (digs 9 n.toNat)) ∧ Below w.heap.size w w' := by
  have hmk := make9
  obtain ⟨i5, hi, hz0, hz1, hz2⟩ := info5_ex
  have HI : Hid (Tryz.prog.info? 5 = some i5) := hi
  have HZ0 : Hid (i5.zero = some (.int .u8 0)) := hz0
  have HZ1 : Hid (i5.size = 1) := hz1
  have HZ2 : Hid (i5.bytes = 1) := hz2
  clear hi hz0 hz1 hz2
  generalize hB : w.heap.size = B
  generalize hD : digs 9 n.toNat = D
  have HB := hide hB
  have HD := hide hD
  clear hB hD
  go_enter Tryz.func163, Tryz.ntmps163
  go_wp2
  refine scope_again 0 (fun a' w' => Below B w w' ∧ ∃ (m f k : Nat) (pre : List Nat) (v u5 u6 u7 u8 u9 u10 u11 u12 u13 u14 u15 u16 u17 u18 u19 u20 u21 u22 u23 : Value), a' = { tmps := #[.int .u64 m, undef, .slice none 0 0, .int .i64 0, v, u5, u6, u7, u8, u9, u10, u11, u12, u13, u14, u15, u16, u17, u18, u19, u20, u21, u22, u23], defers := [] } ∧ m < 128 ^ (f + 1) ∧ f + k = 8 ∧ w'.ownsRow B 5 1 v k (bv pre) ∧ pre ++ digs (f + 1) m = D) (fun a' _ => (intOf (a'.tmps.getD 0 undef)).toNat) rfl ?_ ?_
  · clear HD hmk h0 h1
    rintro a' w' ⟨hbel, m, f, k, pre, v, u5, u6, u7, u8, u9, u10, u11, u12, u13, u14, u15, u16, u17, u18, u19, u20, u21, u22, u23, rfl, hm, hfk, hown, hrel⟩
    have HREL := hide hrel
    have HFK := hide hfk
    have HM := hide hm
    clear hrel hfk hm
    by_cases hb : 128 ≤ m
    · have hb' : (128 : Int) ≤ (m : Int) := by omega
      have HBY := hide (lay_byte m (by have := pow_lid f (by have := HFK.out; omega); have := HM.out; omega))
      go_wp2_with (first | (at_builtin; refine wpList_append_own _ rfl _ _ 46 rfl B 5 i5 (.int .u8 0) 1 1 Tryz.underlying46 HI.out HZ0.out HZ1.out HZ2.out rfl (by decide) _ _ _ rfl (hown.alloc _) ⟨w'.heap.size, 0, none⟩ 1 1 [.int .u8 (bits .or .u8 (bits .and .u64 (m : Int) 127 % 256) 128)] rfl rfl ?c1 ?c2 ?c3 ?c4 ?c5 ?_))
      case c1 => exact cell_one_new _ _ _
      case c2 => intro u hu; simp at hu; subst hu; rfl
      case c3 => have := HFK.out; unfold maxLen; omega
      case c4 => have := HFK.out; omega
      case c5 => have := hbel.size; have := HB.out; simp; omega
      intro v' w1 hown' hgrow _
      go_wp2
      obtain ⟨g, hg, hlt⟩ := fuel_down hb HM.out
      go_step3
      have hbel' : Below B w w1 := (hbel.alloc (by have := hbel.size; have := HB.out; omega) _).grown hgrow (by have := hbel.size; have := HB.out; simp; omega) (fun q hq => (hown.lt q hq).1)
      rw [HBY.out] at hown'
      refine ⟨rfl, ⟨hbel', m / 128, g, k + 1, pre ++ [m % 128 + 128], v', _, _, _, _, _, _, _, _, _, _, _, _, _, _, _, _, _, _, _, rfl, hlt, by have := HFK.out; omega, by rw [bv_app]; exact hown', ?_⟩, ?_⟩
      · have h := HREL.out
        rw [digs_big hb, hg] at h
        rw [List.append_assoc]
        exact h
      · simp [intOf]; omega
    · have hb' : (m : Int) < 128 := by omega
      go_wp2_with (first | (at_builtin; refine wpList_append_own _ rfl _ _ 46 rfl B 5 i5 (.int .u8 0) 1 1 Tryz.underlying46 HI.out HZ0.out HZ1.out HZ2.out rfl (by decide) _ _ _ rfl (hown.alloc _) ⟨w'.heap.size, 0, none⟩ 1 1 [.int .u8 (m : Int)] rfl rfl ?c1 ?c2 ?c3 ?c4 ?c5 ?_))
      case c1 => exact cell_one_new _ _ _
      case c2 => intro u hu; simp at hu; subst hu; rfl
      case c3 => have := HFK.out; unfold maxLen; omega
      case c4 => have := HFK.out; omega
      case c5 => have := hbel.size; have := HB.out; simp; omega
      intro v' w1 hown' hgrow _
      go_wp2
      have hbel' : Below B w w1 := (hbel.alloc (by have := hbel.size; have := HB.out; omega) _).grown hgrow (by have := hbel.size; have := HB.out; simp; omega) (fun q hq => (hown.lt q hq).1)
      simp only [Exit.jump]
      go_ret2
      have h := HREL.out
      rw [digs_small (by omega)] at h
      refine ⟨v', rfl, ?_, hbel'⟩
      have hl : D.length = k + 1 := by
        have h1 := hown'.1
        rw [← h]
        simp [bv] at h1 ⊢
        omega
      rw [hl, ← h, bv_app]
      exact hown'
  · intro HR
    go_wp2
    go_step3
    rename_i hK
    refine hK _ _ (HR.out _ _ ⟨?_, n.toNat, 8, 0, [], _, _, _, _, _, _, _, _, _, _, _, _, _, _, _, _, _, _, _, _, by rw [Int.toNat_of_nonneg h0], ?_, rfl, ?_, by simpa using HD.out⟩)
    · exact (Below.refl _ _).alloc (by have := HB.out; omega) _
    · show n.toNat < 9223372036854775808
      omega
    · rw [← HB.out]
      exact World.ownsRow_made w _ 9 (Nat.le_refl _) (by decide) rfl
end
section
open Go.RowKit Go
/-- What fits tells. -/
def dfit (h n : Nat) : Nat := if h ≠ 18 ∧ h ≠ 0 then 30 else if (h = 18 ∧ n ≠ 32) ∨ (h = 0 ∧ 64 < n) then 31 else 0

set_option maxRecDepth 1000000 in
theorem fits_any (w : World) (h n : Nat) (hh : h < 18446744073709551616) (hn : n < 18446744073709551616) :
    Calls Tryz.prog 181 #[.int .u64 (h : Nat), .int .u64 (n : Nat)] w fun e w' => e = .returned (.int .i64 (dfit h n : Nat)) ∧ w' = w := by
  by_cases h18 : h = 18
  · subst h18
    by_cases hn32 : n = 32
    · subst hn32
      go_enter Tryz.func181, Tryz.ntmps181
      go_wp2_with fail
      go_ret
      exact ⟨rfl, rfl⟩
    · have e : dfit 18 n = 31 := by simp [dfit, hn32]
      rw [e]
      have g : ((n : Int) != 32) = true := bne_iff_ne.2 (by omega)
      go_enter Tryz.func181, Tryz.ntmps181
      go_wp2_with fail
      go_ret
      exact ⟨rfl, rfl⟩
  · by_cases h0 : h = 0
    · subst h0
      by_cases hn64 : 64 < n
      · have e : dfit 0 n = 31 := by simp [dfit, hn64]
        rw [e]
        have g : (64 : Int) < (n : Int) := by omega
        go_enter Tryz.func181, Tryz.ntmps181
        go_wp2_with fail
        go_ret
        exact ⟨rfl, rfl⟩
      · have e : dfit 0 n = 0 := by simp [dfit, hn64]
        rw [e]
        have g : ¬ (64 : Int) < (n : Int) := by omega
        go_enter Tryz.func181, Tryz.ntmps181
        go_wp2_with fail
        go_ret
        exact ⟨rfl, rfl⟩
    · have e : dfit h n = 30 := by simp [dfit, h18, h0]
      rw [e]
      have g1 : ((h : Int) != 18) = true := bne_iff_ne.2 (by omega)
      have g2 : ((h : Int) != 0) = true := bne_iff_ne.2 (by omega)
      go_enter Tryz.func181, Tryz.ntmps181
      go_wp2_with fail
      go_ret
      exact ⟨rfl, rfl⟩

set_option maxRecDepth 1000000 in
theorem number_any (w : World) (v : Value) (xs : List Nat) (hsl : BSl w v xs) :
    Calls Tryz.prog 195 #[v] w fun e w' => e = .returned (dnumR (dnum xs)) ∧ w' = w := by
  have HV := hide hsl.vread
  clear hsl
  have HE : Hid (dnum xs = if (rd 0 0 xs).2.2 = 0 then rd 0 0 xs else (0, 0, if (rd 0 0 xs).2.2 = 10 then 32 else 33)) := rfl
  generalize rd 0 0 xs = r at *
  obtain ⟨n, u, E⟩ := r
  simp only [] at HV HE
  go_enter Tryz.func195, Tryz.ntmps195
  go_wp2_with fail
  refine HV.out.mono ?_
  rintro e w' ⟨rfl, rfl⟩
  by_cases h0 : E = 0
  · subst h0
    have e : dnum xs = (n, u, 0) := by rw [HE.out, if_pos rfl]
    go_wp2_with fail
    go_ret3
    exact ⟨by rw [e]; rfl, rfl⟩
  · have g0 : ((E : Int) == 0) = false := beq_eq_false_iff_ne.2 (by omega)
    by_cases h1 : E = 10
    · subst h1
      have e : dnum xs = (0, 0, 32) := by rw [HE.out, if_neg (by omega), if_pos rfl]
      go_wp2_with fail
      go_ret3
      exact ⟨by rw [e]; rfl, rfl⟩
    · have g1 : ((E : Int) == 10) = false := beq_eq_false_iff_ne.2 (by omega)
      have e : dnum xs = (0, 0, 33) := by rw [HE.out, if_neg h0, if_neg h1]
      go_wp2_with fail
      go_ret3
      exact ⟨by rw [e]; rfl, rfl⟩
end
section
open Go.RowKit
theorem own_below {w w' : World} {B base : Nat} {e : TypeId} {size : Nat} {v : Value} {n : Nat} {xs : List Value} (h : w.ownsRow base e size v n xs) (hb : Below w.heap.size w w') (_hB : B = B) : w'.ownsRow base e size v n xs :=
  (Kp.of_below (S := fun _ => False) hb).owns h (fun _ _ hf => hf)

/-- What Lend gave, with its marks behind it. -/
structure Lnt (w : World) (base g cap : Nat) (xs : List Nat) : Prop where
  own : w.ownsRow base 5 1 (.slice (some ⟨g, 0, none⟩) (xs.length + 70) cap) (xs.length + 70) (bv (xs ++ marks))
  byte : ∀ x ∈ xs, x < 256
  len : xs.length ≤ 140737488351232

theorem Lnt.bsl {w : World} {base g cap : Nat} {xs : List Nat} (h : Lnt w base g cap xs) : BSl w (.slice (some ⟨g, 0, none⟩) xs.length cap) xs := BSl.lent h.own rfl h.byte

theorem Lnt.kp {w w' : World} {base g cap : Nat} {xs : List Nat} {S : Nat → Prop} (h : Lnt w base g cap xs) (hk : Kp S w w') (hs : ¬ S g) : Lnt w' base g cap xs :=
  ⟨hk.owns h.own (fun q hq => by simp [Value.ownBlock] at hq; subst hq; exact hs), h.byte, h.len⟩
end
section
open Go.RowKit Go
theorem dlay_fit (h : Nat) (d : List Nat) : dlay h d = if dfit h d.length = 0 then (h :: d.length :: d, 0) else ([], dfit h d.length) := by
  unfold dlay dfit
  by_cases h1 : h ≠ 18 ∧ h ≠ 0
  · rw [if_pos h1, if_pos h1]; rfl
  · rw [if_neg h1, if_neg h1]
    by_cases h2 : (h = 18 ∧ d.length ≠ 32) ∨ (h = 0 ∧ 64 < d.length)
    · rw [if_pos h2, if_pos h2]; rfl
    · rw [if_neg h2, if_neg h2]; rfl
theorem dfit_ok {h n : Nat} (e : dfit h n = 0) : (h = 18 ∨ h = 0) ∧ n ≤ 64 := by
  unfold dfit at e
  by_cases h1 : h ≠ 18 ∧ h ≠ 0
  · rw [if_pos h1] at e; cases e
  · rw [if_neg h1] at e
    by_cases h2 : (h = 18 ∧ n ≠ 32) ∨ (h = 0 ∧ 64 < n)
    · rw [if_pos h2] at e; cases e
    · omega
theorem dfit_lt (h n : Nat) : dfit h n < 32 := by
  unfold dfit
  split
  · decide
  · split <;> decide

set_option maxRecDepth 1000000 in
set_option maxHeartbeats 1000000 in
theorem dlay_any (w : World) (h : Nat) (v : Value) (d : List Nat) (hh : h < 18446744073709551616) (hsl : BSl w v d) :
    Calls Tryz.prog 162 #[.int .u64 (h : Nat), v] w fun e w' => ∃ v', e = .returned (.tuple #[v', .int .i64 ((dlay h d).2 : Nat)]) ∧ w'.ownsRow w.heap.size 5 1 v' (dlay h d).1.length (bv (dlay h d).1) ∧ Below w.heap.size w w' := by
  have HSL := hide hsl
  obtain ⟨⟨a, cap, rfl, hn, hc⟩, hmax, hb⟩ := hsl
  clear hn hc hb
  have HE := hide (dlay_fit h d)
  have HF := hide (dfit_lt h d.length)
  have HK := hide (dfit_ok (h := h) (n := d.length))
  generalize hB : w.heap.size = B at *
  have HB := hide hB
  clear hB
  go_enter Tryz.func162, Tryz.ntmps162
  go_wp2_with fail
  refine (fits_any w h d.length hh (by omega)).mono ?_
  rintro e w' ⟨rfl, rfl⟩
  generalize dfit h d.length = f at *
  by_cases h0 : f = 0
  · subst h0
    have hk := HK.out rfl
    rw [if_pos rfl] at HE
    go_wp2_with fail
    refine (vlay_any (h : Int) w' (by omega) (by omega)).mono ?_
    rintro e w1 ⟨v1, rfl, ho1, hb1⟩
    rw [Int.toNat_natCast, digs_small (by omega)] at ho1
    have HO1 := hide ho1
    have HB1 := hide hb1
    obtain ⟨a1, c1, hv1, _, _, _⟩ := own_form ho1
    subst hv1
    clear ho1 hb1
    go_wp2_with fail
    refine (vlay_any (d.length : Int) w1 (by omega) (by omega)).mono ?_
    rintro e w2 ⟨v2, rfl, ho2, hb2⟩
    rw [Int.toNat_natCast, digs_small (by omega)] at ho2
    have HS2 : Hid (BSl w2 v2 [d.length]) := BSl.own ho2 (by simp; omega)
    have HO2 : Hid (w2.ownsRow B 5 1 (.slice a1 [h].length c1) 1 (bv [h])) := own_mono (own_below HO1.out hb2 (rfl : 0 = 0)) (by have := HB.out; omega)
    have HB2 : Hid (Below B w' w2) := by
      rw [HB.out] at HB1
      exact HB1.out.trans (hb2.mono (by have := HB1.out.size; have := HB.out; omega))
    have hs2 : B ≤ w2.heap.size := by have := HB2.out.size; have := HB.out; omega
    obtain ⟨a2, c2, hv2, _, _, _⟩ := own_form ho2
    subst hv2
    clear ho2 hb2 HO1 HB1
    go_wp2_with (at_builtin; refine append_bsl rfl _ _ rfl B _ 1 [h] rfl HO2.out _ [d.length] rfl HS2.out ?b1 ?b2 ?_)
    case b1 => simp
    case b2 => exact hs2
    intro v3 w3 ho3 hg3
    have hlo := fun g (h : _ = some g) => (HO2.out.lt g h).1
    have HB3 : Hid (Below B w' w3) := HB2.out.grown hg3 hs2 (fun g hg => hlo g hg)
    have HO3 := hide ho3
    have HS3 : Hid (BSl w3 (.slice a d.length cap) d) := HSL.out.move (keep_below (by rw [HB.out]; exact HB3.out))
    have hs3 : B ≤ w3.heap.size := by have := HB3.out.size; have := HB.out; omega
    obtain ⟨a3, c3, hv3, _, _, _⟩ := own_form ho3
    subst hv3
    clear ho3 hg3 hlo HO2 HB2 HS2 hs2
    go_wp2_with (at_builtin; refine append_bsl rfl _ _ rfl B _ 2 [h, d.length] rfl HO3.out _ d rfl HS3.out ?b1 ?b2 ?_)
    case b1 => omega
    case b2 => exact hs3
    intro v4 w4 ho4 hg4
    have hlo := fun g (h : _ = some g) => (HO3.out.lt g h).1
    have HB4 : Hid (Below B w' w4) := HB3.out.grown hg4 hs3 (fun g hg => hlo g hg)
    have HO4 := hide ho4
    obtain ⟨a4, c4, hv4, _, _, _⟩ := own_form ho4
    subst hv4
    clear ho4 hg4 hlo HO3 HB3 HS3 hs3
    go_wp2_with fail
    go_ret2
    refine ⟨_, by rw [HE.out]; rfl, ?_, HB4.out⟩
    rw [HE.out]
    have e : (h :: d.length :: d, 0).1.length = 2 + d.length := by simp; omega
    rw [e]
    exact HO4.out
  · have g : ((f : Int) != 0) = true := bne_iff_ne.2 (by omega)
    rw [if_neg h0] at HE
    go_wp2_with fail
    go_ret2
    exact ⟨.slice none 0 0, by rw [HE.out]; rfl, by rw [HE.out]; exact World.ownsRow_nil _ _ _ _, Below.refl _ _⟩
end
section
open Go.RowKit Go
theorem dread_fit {xs : List Nat} {hn u n m : Nat} (h : dnum xs = (hn, u, 0)) (h2 : dnum (xs.drop u) = (n, m, 0)) :
    (dfit hn n ≠ 0 → dread xs = (0, [], 0, dfit hn n)) ∧ (dfit hn n = 0 → (xs.length - (u + m) < n → dread xs = (0, [], 0, 32)) ∧ (¬ xs.length - (u + m) < n → dread xs = (hn, (xs.drop (u + m)).take n, u + m + n, 0))) := by
  have K := (dread_rest h).2 n m h2
  unfold dfit
  by_cases h1 : hn ≠ 18 ∧ hn ≠ 0
  · rw [if_pos h1]
    exact ⟨fun _ => K.1 h1, fun h => by cases h⟩
  · rw [if_neg h1]
    have K2 := K.2 h1
    by_cases h3 : (hn = 18 ∧ n ≠ 32) ∨ (hn = 0 ∧ 64 < n)
    · rw [if_pos h3]
      exact ⟨fun _ => K2.1 h3, fun h => by cases h⟩
    · rw [if_neg h3]
      exact ⟨fun h => absurd rfl h, fun _ => K2.2 h3⟩

set_option maxRecDepth 1000000 in
set_option maxHeartbeats 4000000 in
theorem dread_any (w : World) (v : Value) (xs : List Nat) (hsl : BSl w v xs) :
    Calls Tryz.prog 194 #[v] w fun e w' => ∃ v', e = .returned (.tuple #[.int .u64 ((dread xs).1 : Nat), v', .int .i64 ((dread xs).2.2.1 : Nat), .int .i64 ((dread xs).2.2.2 : Nat)]) ∧ w'.ownsRow w.heap.size 5 1 v' (dread xs).2.1.length (bv (dread xs).2.1) ∧ Below w.heap.size w w' := by
  have HSL := hide hsl
  have HRB := hide (dnum_bound xs)
  have HRX := hide (dnum_bad xs)
  have HD1 := hide (@dread_one xs)
  have HD2 : Hid (∀ hn u : Nat, dnum xs = (hn, u, 0) → _) := fun hn u h => dread_rest (xs := xs) (hn := hn) (u := u) h
  have HD3 : Hid (∀ hn u n m : Nat, dnum xs = (hn, u, 0) → dnum (xs.drop u) = (n, m, 0) → _) := fun hn u n m h h2 => dread_fit (xs := xs) (hn := hn) (u := u) (n := n) (m := m) h h2
  obtain ⟨⟨a, cap, rfl, hn, hc⟩, hmax, hb⟩ := hsl
  have hcap := hn.1
  clear hn hc hb
  go_enter Tryz.func194, Tryz.ntmps194
  go_wp2_with fail
  refine (number_any _ _ xs HSL.out).mono ?_
  rintro e w1 ⟨rfl, rfl⟩
  by_cases hr : (dnum xs).2.2 = 0
  · have hrb := HRB.out hr
    obtain ⟨hn, u, re, hR⟩ : ∃ hn u re, dnum xs = (hn, u, re) := ⟨_, _, _, rfl⟩
    rw [hR] at hr hrb
    simp only at hr hrb
    subst hr
    obtain ⟨hhn, hu, hu9⟩ := hrb
    have HH := hide (HD2.out hn u hR).1
    have HRR := hide hR
    rw [hR]
    clear HD1 HD2 HRX HRB
    obtain ⟨⟨a', cap', hv, hn1, hc⟩, hmax1, hb1⟩ := HSL.out
    injection hv with hv1 hv2 hv3
    subst hv1
    subst hv3
    rcases hc with hc | ⟨b, off, rfl, hc⟩
    · subst hc
      rw [dnum_nil] at hR
      injection hR with _ hR
      injection hR with _ hR
      cases hR
    clear hn1 hc hb1 hv2 hR
    simp only [dnumR]
    by_cases hcu : cap = u
    · have hxu : xs.drop u = [] := List.drop_of_length_le (by omega)
      have HE : Hid (dread xs = (0, [], 0, 32)) := by
        have h := HH.out
        rw [hxu, dnum_nil] at h
        exact h (by simp)
      have HSD : Hid (BSl w1 (.slice (some ⟨b, off, none⟩) 0 0) []) := bsl_nil _ _ _
      have hul : xs.length = u := by omega
      rw [hul] at HSL
      clear hxu HH hhn
      subst hcu
      go_wp2_with fail
      refine (number_any _ _ [] HSD.out).mono ?_
      rintro e w2 ⟨rfl, rfl⟩
      clear HSD HSL
      rw [dnum_nil]
      simp only [dnumR]
      go_wp2
      refine bodyPost_ret (results_four rfl _ _ _) rfl ⟨_, by rw [HE.out]; rfl, by rw [HE.out]; exact World.ownsRow_nil _ _ _ _, Below.refl _ _⟩
    · have hcu' : ¬ u = cap := fun e => hcu e.symm
      have huc : (u : Int) ≤ (xs.length : Int) := by omega
      have HSD := hide (HSL.out.drop u hu)
      go_wp2_with fail
      refine (number_any _ _ (xs.drop u) HSD.out).mono ?_
      rintro e w2 ⟨rfl, rfl⟩
      have HQB := hide (dnum_bound (xs.drop u))
      have HQX := hide (dnum_bad (xs.drop u))
      obtain ⟨n, m, qe, hQ⟩ : ∃ n m qe, dnum (xs.drop u) = (n, m, qe) := ⟨_, _, _, rfl⟩
      rw [hQ] at HQB HQX HH ⊢
      simp only [dnumR] at HQB HQX HH ⊢
      by_cases hq : qe = 0
      · subst hq
        have hqb := HQB.out rfl
        rw [List.length_drop] at hqb
        obtain ⟨hqn, hqm, hqm9⟩ := hqb
        have HK := hide (HD3.out hn u n m HRR.out hQ)
        have HFK := hide (dfit_ok (h := hn) (n := n))
        have HFL := hide (dfit_lt hn n)
        clear HQB HQX HH hQ HRR HD3
        go_wp2_with fail
        refine (fits_any _ hn n (by omega) (by omega)).mono ?_
        rintro e w3 ⟨rfl, rfl⟩
        generalize dfit hn n = f at *
        by_cases hf : f = 0
        · subst hf
          have hfk := HFK.out rfl
          have HK2 := hide (HK.out.2 rfl)
          have hn64 : n ≤ 64 := hfk.2
          clear HK HFK HFL hfk
          by_cases hs : xs.length - (u + m) < n
          · have HE : Hid (dread xs = (0, [], 0, 32)) := HK2.out.1 hs
            have hs' : (xs.length : Int) < (u : Int) + (m : Int) + (n : Int) := by omega
            go_wp2_with fail
            refine bodyPost_ret (results_four rfl _ _ _) rfl ⟨_, by rw [HE.out]; rfl, by rw [HE.out]; exact World.ownsRow_nil _ _ _ _, Below.refl _ _⟩
          · have HE : Hid (dread xs = (hn, (xs.drop (u + m)).take n, u + m + n, 0)) := HK2.out.2 hs
            have hs' : ¬ (xs.length : Int) < (u : Int) + (m : Int) + (n : Int) := by omega
            have hum : u + m ≤ xs.length := by omega
            by_cases hn0 : n = 0
            · subst hn0
              rw [List.take_zero] at HE
              go_wp2_with fail
              refine (clone_any _ _ [] (bsl_nil _ _ _) (by simp)).mono ?_
              rintro e w4 ⟨v4, rfl, ho4, hb4⟩
              have HO4 := hide ho4
              have HB4 := hide hb4
              clear ho4 hb4
              go_wp2_with fail
              refine bodyPost_ret (results_four rfl _ _ _) rfl ⟨v4, by rw [HE.out]; rfl, by rw [HE.out]; exact HO4.out, HB4.out⟩
            · have HTL : Hid (((xs.drop (u + m)).take n).length = n) := by
                show _ = _
                rw [List.length_take, List.length_drop]
                omega
              have HVS : Hid (BSl w3 (.slice (some ⟨b, off + (u + m), none⟩) n n) ((xs.drop (u + m)).take n)) := (HSL.out.drop (u + m) hum).take3 n (by rw [List.length_drop]; omega)
              generalize (xs.drop (u + m)).take n = D at *
              have hne : ¬ u + m + n = u + m := by omega
              go_wp2_with fail
              refine (clone_any _ _ D HVS.out (by rw [HTL.out]; omega)).mono ?_
              rintro e w4 ⟨v4, rfl, ho4, hb4⟩
              have HO4 := hide ho4
              have HB4 := hide hb4
              clear ho4 hb4
              go_wp2_with fail
              refine bodyPost_ret (results_four rfl _ _ _) rfl ⟨v4, by rw [HE.out]; rfl, by rw [HE.out]; exact HO4.out, HB4.out⟩
        · have g : ((f : Int) != 0) = true := bne_iff_ne.2 (by omega)
          have HE : Hid (dread xs = (0, [], 0, f)) := HK.out.1 hf
          have hf32 := HFL.out
          go_wp2_with fail
          refine bodyPost_ret (results_four rfl _ _ _) rfl ⟨_, by rw [HE.out]; rfl, by rw [HE.out]; exact World.ownsRow_nil _ _ _ _, Below.refl _ _⟩
      · have g : ((qe : Int) != 0) = true := bne_iff_ne.2 (by omega)
        have HE : Hid (dread xs = (0, [], 0, qe)) := HH.out hq
        have hq3 := HQX.out hq
        go_wp2_with fail
        refine bodyPost_ret (results_four rfl _ _ _) rfl ⟨_, by rw [HE.out]; rfl, by rw [HE.out]; exact World.ownsRow_nil _ _ _ _, Below.refl _ _⟩
  · have HE := hide (HD1.out hr)
    have hbad := HRX.out hr
    obtain ⟨hn, u, re, hR⟩ : ∃ hn u re, dnum xs = (hn, u, re) := ⟨_, _, _, rfl⟩
    rw [hR] at HE hr hbad ⊢
    simp only [dnumR] at HE hr hbad ⊢
    have g : ((re : Int) != 0) = true := bne_iff_ne.2 (by omega)
    go_wp2_with fail
    refine bodyPost_ret (results_four rfl _ _ _) rfl ⟨_, by rw [HE.out]; rfl, by rw [HE.out]; exact World.ownsRow_nil _ _ _ _, Below.refl _ _⟩
end
section
open Go.RowKit Go
/-! ### What is laid is read; what is read is laid -/
theorem dnum_small {n : Nat} (h : n < 128) (r : List Nat) : dnum (n :: r) = (n, 1, 0) := by
  have e : rd 0 0 (n :: r) = (n, 1, 0) := by
    rw [rd]
    have h1 : ¬ 128 ≤ n := by omega
    simp [h1]
    omega
  unfold dnum
  rw [e]
  rfl
theorem dread_laid {h : Nat} {d ms : List Nat} (hk : (h = 18 ∧ d.length = 32) ∨ (h = 0 ∧ d.length ≤ 64)) : dread (h :: d.length :: d ++ ms) = (h, d, 2 + d.length, 0) := by
  have e1 : dnum (h :: d.length :: d ++ ms) = (h, 1, 0) := dnum_small (by omega) _
  have e2 : dnum ((h :: d.length :: d ++ ms).drop 1) = (d.length, 1, 0) := dnum_small (by omega) _
  have f : dfit h d.length = 0 := by
    unfold dfit
    rw [if_neg (by omega), if_neg (by omega)]
  have K := ((dread_fit e1 e2).2 f).2 (by simp)
  rw [K]
  simp
theorem rd_small : ∀ (xs : List Nat) (k m : Nat), 1 ≤ k → (rd k m xs).2.2 = 0 → 128 ^ k ≤ (rd k m xs).1
  | [], k, m, _, h => by
    rw [rd] at h
    split at h <;> simp at h
  | x :: r, k, m, hk, h => by
    rw [rd] at h ⊢
    by_cases h9 : k = 9
    · rw [if_pos h9] at h; simp at h
    · rw [if_neg h9] at h ⊢
      by_cases h1 : 128 ≤ x
      · rw [if_pos h1] at h ⊢
        have := rd_small r (k + 1) _ (by omega) h
        have e : 128 ^ (k + 1) = 128 * 128 ^ k := by rw [Nat.pow_succ, Nat.mul_comm]
        have hp : 0 < 128 ^ k := Nat.pow_pos (by decide)
        omega
      · rw [if_neg h1] at h ⊢
        by_cases h0 : x = 0 ∧ 0 < k
        · rw [if_pos h0] at h; simp at h
        · rw [if_neg h0]
          simp only
          have hx : 1 ≤ x % 128 := by omega
          have : 1 * 128 ^ k ≤ x % 128 * 128 ^ k := Nat.mul_le_mul_right _ hx
          omega
theorem dnum_form {xs : List Nat} {n u : Nat} (h : dnum xs = (n, u, 0)) (hn : n < 128) : u = 1 ∧ ∃ r, xs = n :: r := by
  have h0 : (rd 0 0 xs).2.2 = 0 := by
    by_cases e : (rd 0 0 xs).2.2 = 0
    · exact e
    · unfold dnum at h
      rw [if_neg e] at h
      injection h with _ h
      injection h with _ h
      split at h <;> cases h
  have hr : rd 0 0 xs = (n, u, 0) := by
    unfold dnum at h
    rw [if_pos h0] at h
    exact h
  cases xs with
  | nil => rw [rd] at hr; simp at hr
  | cons x r =>
    rw [rd] at hr
    simp only [if_neg (show ¬ (0 : Nat) = 9 by decide)] at hr
    by_cases h1 : 128 ≤ x
    · rw [if_pos h1] at hr
      have h2 := rd_small r 1 (0 + x % 128 * 128 ^ 0) (by omega) (by rw [hr])
      rw [hr] at h2
      simp at h2
      omega
    · rw [if_neg h1, if_neg (by omega)] at hr
      injection hr with e1 e2
      injection e2 with e2 _
      simp at e1
      refine ⟨e2.symm, r, ?_⟩
      rw [← e1, Nat.mod_eq_of_lt (by omega)]
theorem dread_back {xs : List Nat} (h : (dread xs).2.2.2 = 0) : (dread xs).2.2.1 ≤ xs.length ∧ dlay (dread xs).1 (dread xs).2.1 = (xs.take (dread xs).2.2.1, 0) ∧ (dread xs).1 < 128 := by
  by_cases h1 : (dnum xs).2.2 = 0
  · obtain ⟨hn, u, re, hR⟩ : ∃ hn u re, dnum xs = (hn, u, re) := ⟨_, _, _, rfl⟩
    rw [hR] at h1
    simp only at h1
    subst h1
    by_cases h2 : (dnum (xs.drop u)).2.2 = 0
    · obtain ⟨n, m, qe, hQ⟩ : ∃ n m qe, dnum (xs.drop u) = (n, m, qe) := ⟨_, _, _, rfl⟩
      rw [hQ] at h2
      simp only at h2
      subst h2
      have K := dread_fit hR hQ
      by_cases hf : dfit hn n = 0
      · have hk := dfit_ok hf
        have K2 := K.2 hf
        by_cases hs : xs.length - (u + m) < n
        · rw [K2.1 hs] at h; cases h
        · have E := K2.2 hs
          obtain ⟨hu, r, hx⟩ := dnum_form hR (by omega)
          subst hu
          subst hx
          have hQ' : dnum r = (n, m, 0) := hQ
          obtain ⟨hm, r2, hr⟩ := dnum_form hQ' (by omega)
          subst hm
          subst hr
          rw [E]
          have hlen : n ≤ r2.length := by simp at hs; omega
          have e : ((hn :: n :: r2).drop (1 + 1)).take n = r2.take n := rfl
          have et : (hn :: n :: r2).take (1 + 1 + n) = hn :: n :: r2.take n := by
            have : 1 + 1 + n = n + 1 + 1 := by omega
            rw [this]
            rfl
          refine ⟨by simp; omega, ?_, by simp only; omega⟩
          simp only
          rw [e, et, dlay_fit]
          have el : (r2.take n).length = n := by simp; omega
          rw [el, if_pos hf]
      · rw [K.1 hf] at h; exact absurd h hf
    · rw [(dread_rest hR).1 h2] at h; exact absurd h h2
  · rw [dread_one h1] at h; exact absurd h h1
theorem dlay_ok {h : Nat} {d : List Nat} (hk : (h = 18 ∧ d.length = 32) ∨ (h = 0 ∧ d.length ≤ 64)) : dlay h d = (h :: d.length :: d, 0) := by
  unfold dlay
  rw [if_neg (by omega), if_neg (by omega)]
end
section
open Go.RowKit Go
/-- What is laid is read. -/
theorem rd_digs : ∀ (f n k m : Nat) (r : List Nat), k + f = 9 → n < 128 ^ f → (k = 0 ∨ 0 < n) → rd k m (digs f n ++ r) = (m + n * 128 ^ k, k + (digs f n).length, 0)
  | 0, n, k, m, r, hk, hn, h0 => by
    simp at hn
    omega
  | f + 1, n, k, m, r, hk, hn, h0 => by
    by_cases h : n < 128
    · rw [digs_small h]
      simp only [List.cons_append, List.nil_append, List.length_singleton]
      unfold rd
      rw [if_neg (by omega), if_neg (by omega), if_neg (by omega), Nat.mod_eq_of_lt h]
    · have hge : 128 ≤ n := by omega
      rw [digs_big hge, List.cons_append]
      unfold rd
      rw [if_neg (by omega), if_pos (by omega), rd_digs f (n / 128) (k + 1) _ r (by omega) (by rw [Nat.pow_succ] at hn; exact Nat.div_lt_of_lt_mul (by omega)) (.inr (Nat.div_pos hge (by decide)))]
      have e1 : (n % 128 + 128) % 128 = n % 128 := by omega
      have e2 : n % 128 * 128 ^ k + n / 128 * 128 ^ (k + 1) = n * 128 ^ k := by
        rw [Nat.pow_succ, Nat.mul_comm (128 ^ k) 128, ← Nat.mul_assoc, ← Nat.add_mul]
        congr 1
        omega
      rw [e1, List.length_cons, Nat.add_assoc, e2]
      congr 2
      omega
/-- What is read was laid so. -/
theorem rd_back : ∀ (xs : List Nat) (f k m v u : Nat), k + f = 9 → (∀ x ∈ xs, x < 256) → rd k m xs = (v, u, 0) → ∃ n, v = m + n * 128 ^ k ∧ n < 128 ^ f ∧ (0 < k → 0 < n) ∧ k ≤ u ∧ u - k ≤ xs.length ∧ digs f n = xs.take (u - k)
  | [], f, k, m, v, u, hk, _, h => by
    unfold rd at h
    split at h <;> simp at h
  | x :: r, f, k, m, v, u, hk, hb, h => by
    have hx := hb x (by simp)
    unfold rd at h
    split at h
    · simp at h
    · rename_i h9
      obtain ⟨g, rfl⟩ : ∃ g, f = g + 1 := ⟨f - 1, by omega⟩
      split at h
      · rename_i h128
        obtain ⟨n, hv, hn, hp, hu, hl, hd⟩ := rd_back r g (k + 1) _ v u (by omega) (fun y hy => hb y (List.mem_cons_of_mem _ hy)) h
        have hp := hp (by omega)
        refine ⟨x % 128 + n * 128, ?_, ?_, fun _ => by omega, by omega, by simp; omega, ?_⟩
        · rw [hv, Nat.pow_succ, Nat.add_mul, Nat.add_assoc]
          congr 2
          rw [Nat.mul_comm (128 ^ k) 128, Nat.mul_assoc]
        · rw [Nat.pow_succ]
          have : (n + 1) * 128 ≤ 128 ^ g * 128 := Nat.mul_le_mul_right _ hn
          omega
        · rw [digs_big (by omega)]
          have e1 : (x % 128 + n * 128) % 128 + 128 = x := by omega
          have e2 : (x % 128 + n * 128) / 128 = n := by omega
          rw [e1, e2, hd]
          have e3 : u - k = u - (k + 1) + 1 := by omega
          rw [e3, List.take_succ_cons]
      · split at h
        · simp at h
        · rename_i h128 hz
          simp only [Prod.mk.injEq] at h
          refine ⟨x, ?_, ?_, fun hk0 => by omega, by omega, by simp; omega, ?_⟩
          · rw [← h.1, Nat.mod_eq_of_lt (by omega)]
          · rw [Nat.pow_succ]
            have : 1 ≤ 128 ^ g := Nat.pow_pos (by decide)
            omega
          · rw [digs_small (by omega)]
            have e3 : u - k = 1 := by omega
            rw [e3]
            simp
theorem dnum_digs {n : Nat} (h : n < 9223372036854775808) (r : List Nat) : dnum (digs 9 n ++ r) = (n, (digs 9 n).length, 0) := by
  have e := rd_digs 9 n 0 0 r rfl (by have : (128 : Nat) ^ 9 = 9223372036854775808 := by decide
                                      omega) (.inl rfl)
  rw [Nat.pow_zero, Nat.mul_one, Nat.zero_add, Nat.zero_add] at e
  unfold dnum
  rw [e]
  simp
theorem dnum_back {xs : List Nat} {n u : Nat} (hb : ∀ x ∈ xs, x < 256) (h : dnum xs = (n, u, 0)) : n < 9223372036854775808 ∧ u ≤ xs.length ∧ digs 9 n = xs.take u := by
  unfold dnum at h
  split at h
  · obtain ⟨m, hv, hm, _, _, hl, hd⟩ := rd_back xs 9 0 0 n u rfl hb h
    have e : (128 : Nat) ^ 9 = 9223372036854775808 := by decide
    rw [Nat.pow_zero, Nat.mul_one, Nat.zero_add] at hv
    subst hv
    exact ⟨by omega, by omega, by simpa using hd⟩
  · simp only [Prod.mk.injEq] at h
    have := h.2.2
    split at this <;> omega

/-- A link. -/
structure Lk where
  v : Int
  c : Nat
  h : Nat
  d : List Nat
def Lk.none : Lk := ⟨0, 0, 0, []⟩
/-- A digest that its hash may have. -/
def okd (h : Nat) (d : List Nat) : Prop := (h = 18 ∧ d.length = 32) ∨ (h = 0 ∧ d.length ≤ 64)
instance (h : Nat) (d : List Nat) : Decidable (okd h d) := inferInstanceAs (Decidable (_ ∨ _))
/-- A link that may be. -/
def lok (l : Lk) : Prop := (l.v = 0 ∧ l.c = 112 ∧ l.h = 18 ∧ l.d.length = 32) ∨ (l.v = 1 ∧ l.c < 9223372036854775808 ∧ okd l.h l.d)
instance (l : Lk) : Decidable (lok l) := inferInstanceAs (Decidable (_ ∨ _))
theorem lok_okd {l : Lk} (h : lok l) : okd l.h l.d := by
  rcases h with ⟨_, _, h1, h2⟩ | ⟨_, _, h⟩
  · exact .inl ⟨h1, h2⟩
  · exact h
theorem dlay_okd {h : Nat} {d : List Nat} : (dlay h d).2 = 0 ↔ okd h d := by
  unfold dlay okd
  split
  · simp
    omega
  · split
    · simp
      omega
    · simp
      omega
/-- A link's bytes (P4.4). -/
def lbytes (l : Lk) : List Nat := if l.v = 0 then l.h :: l.d.length :: l.d else 1 :: digs 9 l.c ++ (l.h :: l.d.length :: l.d)
/-- What digest.Read's error is here. -/
def lerr (e : Nat) : Nat := if e = 32 ∨ e = 33 then 42 else 43
/-- Row 3 of P4.5. -/
def lthird (v : Int) (c at' : Nat) (b : List Nat) : Lk × Nat × Nat := if (dread (b.drop at')).2.2.2 = 0 then (⟨v, c, (dread (b.drop at')).1, (dread (b.drop at')).2.1⟩, at' + (dread (b.drop at')).2.2.1, 0) else (Lk.none, 0, lerr (dread (b.drop at')).2.2.2)
/-- The link at the front (P4.5). -/
def lfirst (b : List Nat) : Lk × Nat × Nat :=
  if b.head? = some 18 then lthird 0 112 0 b
  else if (dnum b).2.2 ≠ 0 then (Lk.none, 0, 42) else if (dnum b).1 ≠ 1 then (Lk.none, 0, 41)
  else if (dnum (b.drop (dnum b).2.1)).2.2 ≠ 0 then (Lk.none, 0, 42)
  else lthird 1 (dnum (b.drop (dnum b).2.1)).1 ((dnum b).2.1 + (dnum (b.drop (dnum b).2.1)).2.1) b
/-- The link of bytes (P4.6). -/
def lparse (b : List Nat) : Lk × Nat := if (lfirst b).2.2 ≠ 0 then (Lk.none, (lfirst b).2.2) else if (lfirst b).2.1 < b.length then (Lk.none, 44) else ((lfirst b).1, 0)
theorem lfirst_bytes {l : Lk} (h : lok l) (ms : List Nat) : lfirst (lbytes l ++ ms) = (l, (lbytes l).length, 0) := by
  obtain ⟨v, c, hh, d⟩ := l
  have hk := lok_okd h
  simp only at hk
  have hr := dread_laid (ms := ms) hk
  rcases h with ⟨h1, h2, h3, h4⟩ | ⟨h1, h2, _⟩
  · simp only at h1 h2 h3 h4
    subst h1
    subst h2
    subst h3
    unfold lfirst lbytes
    simp only [if_true, List.cons_append, List.head?_cons]
    unfold lthird
    simp only [List.cons_append] at hr
    rw [List.drop_zero, hr]
    simp
    omega
  · simp only at h1 h2
    subst h1
    have e1 : lbytes ⟨1, c, hh, d⟩ = 1 :: (digs 9 c ++ (hh :: d.length :: d)) := rfl
    rw [e1]
    have n1 : dnum (1 :: (digs 9 c ++ (hh :: d.length :: d)) ++ ms) = (1, 1, 0) := by
      rw [List.cons_append]
      exact dnum_small (by decide) _
    have n2 : dnum ((1 :: (digs 9 c ++ (hh :: d.length :: d)) ++ ms).drop 1) = (c, (digs 9 c).length, 0) := by
      rw [List.cons_append, List.drop_succ_cons, List.drop_zero, List.append_assoc]
      exact dnum_digs h2 _
    have n3 : (1 :: (digs 9 c ++ (hh :: d.length :: d)) ++ ms).drop (1 + (digs 9 c).length) = hh :: d.length :: d ++ ms := by
      rw [List.cons_append, Nat.add_comm, List.drop_succ_cons, List.append_assoc, List.drop_append_of_le_length (Nat.le_refl _), List.drop_length, List.nil_append]
    unfold lfirst
    rw [if_neg (by simp), n1]
    simp only [ne_eq, not_true_eq_false, if_false]
    rw [n2]
    simp only [not_true_eq_false, if_false]
    unfold lthird
    rw [n3, hr]
    simp
    omega
theorem lparse_bytes {l : Lk} (h : lok l) : lparse (lbytes l) = (l, 0) := by
  have e := lfirst_bytes h []
  rw [List.append_nil] at e
  unfold lparse
  rw [e]
  simp
end
end Go.Proofs.YtadilnmkjcmnnaaGreatDoor

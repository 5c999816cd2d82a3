import Derived.Test.YtedgdnoafajhoaaDoorVr
namespace Go.Proofs.YtedgdnoafajhoaaDoor
open Go.RowKit

theorem lay_byte (m : Nat) (h : m < 9223372036854775808) : bits .or .u8 (bits .and .u64 (m : Int) 127 % 256) 128 = ((m % 128 + 128 : Nat) : Int) := by
  have h1 := u64_and_nat m 127 (by omega) (by omega)
  have h2 : m &&& 127 = m % 128 := Nat.and_two_pow_sub_one_eq_mod m 7
  rw [h2] at h1
  have h3 : bits .and .u64 (m : Int) 127 = ((m % 128 : Nat) : Int) := h1
  rw [h3]
  have e : ((m % 128 : Nat) : Int) % 256 = ((m % 128 : Nat) : Int) := by omega
  rw [e, u8_or128_right _ (by omega) (by omega)]
  omega
theorem pow_lid (f : Nat) (h : f ≤ 8) : 128 ^ (f + 1) ≤ 9223372036854775808 := by
  have h2 : 128 ^ (f + 1) ≤ 128 ^ 9 := Nat.pow_le_pow_right (by decide) (by omega)
  exact h2
theorem make9 (w : World) : (Instr.makeSlice 27 (.int .i64 0) (.int .i64 9)).run Tryd.prog w = .ok (.slice (some ⟨w.heap.size, 0, none⟩) 0 9) (w.alloc (.cells #[.int .u8 0, .int .u8 0, .int .u8 0, .int .u8 0, .int .u8 0, .int .u8 0, .int .u8 0, .int .u8 0, .int .u8 0] 5)) := by kernel_rfl

set_option maxRecDepth 1000000 in
set_option maxHeartbeats 400000 in
theorem vlay_any (n : Int) (w : World) (h0 : 0 ≤ n) (h1 : n < 9223372036854775808) :
    Calls Tryd.prog 46 #[.int .u64 n] w fun e w' => ∃ v, e = .returned (.tuple #[v, .int .i64 0]) ∧ w'.ownsRow w.heap.size 5 1 v (digs 9 n.toNat).length (bv (digs 9 n.toNat)) ∧ Below w.heap.size w w' := by
  have hmk := make9
  obtain ⟨i5, hi, hz0, hz1, hz2⟩ := info5_ex
  have HI : Hid (Tryd.prog.info? 5 = some i5) := hi
  have HZ0 : Hid (i5.zero = some (.int .u8 0)) := hz0
  have HZ1 : Hid (i5.size = 1) := hz1
  have HZ2 : Hid (i5.bytes = 1) := hz2
  clear hi hz0 hz1 hz2
  generalize hB : w.heap.size = B
  generalize hD : digs 9 n.toNat = D
  have HB := hide hB
  have HD := hide hD
  clear hB hD
  go_enter Tryd.func46, Tryd.ntmps46
  go_wp2
  refine scope_again 0 (fun a' w' => Below B w w' ∧ ∃ (m f k : Nat) (pre : List Nat) (v u5 u6 u7 u8 u9 u10 u11 u12 u13 u14 u15 u16 u17 u18 u19 u20 u21 u22 u23 : Value), a' = { tmps := #[.int .u64 m, undef, .slice none 0 0, .int .i64 0, v, u5, u6, u7, u8, u9, u10, u11, u12, u13, u14, u15, u16, u17, u18, u19, u20, u21, u22, u23], defers := [] } ∧ m < 128 ^ (f + 1) ∧ f + k = 8 ∧ w'.ownsRow B 5 1 v k (bv pre) ∧ pre ++ digs (f + 1) m = D) (fun a' _ => (intOf (a'.tmps.getD 0 undef)).toNat) rfl ?_ ?_
  · clear HD hmk h0 h1
    rintro a' w' ⟨hbel, m, f, k, pre, v, u5, u6, u7, u8, u9, u10, u11, u12, u13, u14, u15, u16, u17, u18, u19, u20, u21, u22, u23, rfl, hm, hfk, hown, hrel⟩
    have HREL := hide hrel
    have HFK := hide hfk
    have HM := hide hm
    clear hrel hfk hm
    by_cases hb : 128 ≤ m
    · have hb' : (128 : Int) ≤ (m : Int) := by omega
      have HBY := hide (lay_byte m (by have := pow_lid f (by have := HFK.out; omega); have := HM.out; omega))
      go_wp2_with (first | (at_builtin; refine wpList_append_own _ rfl _ _ 27 rfl B 5 i5 (.int .u8 0) 1 1 Tryd.underlying27 HI.out HZ0.out HZ1.out HZ2.out rfl (by decide) _ _ _ rfl (hown.alloc _) ⟨w'.heap.size, 0, none⟩ 1 1 [.int .u8 (bits .or .u8 (bits .and .u64 (m : Int) 127 % 256) 128)] rfl rfl ?c1 ?c2 ?c3 ?c4 ?c5 ?_))
      case c1 => exact cell_one_new _ _ _
      case c2 => intro u hu; simp at hu; subst hu; rfl
      case c3 => have := HFK.out; unfold maxLen; omega
      case c4 => have := HFK.out; omega
      case c5 => have := hbel.size; have := HB.out; simp; omega
      intro v' w1 hown' hgrow _
      go_wp2
      obtain ⟨g, hg, hlt⟩ := fuel_down hb HM.out
      go_step3
      have hbel' : Below B w w1 := (hbel.alloc (by have := hbel.size; have := HB.out; omega) _).grown hgrow (by have := hbel.size; have := HB.out; simp; omega) (fun q hq => (hown.lt q hq).1)
      rw [HBY.out] at hown'
      refine ⟨rfl, ⟨hbel', m / 128, g, k + 1, pre ++ [m % 128 + 128], v', _, _, _, _, _, _, _, _, _, _, _, _, _, _, _, _, _, _, _, rfl, hlt, by have := HFK.out; omega, by rw [bv_app]; exact hown', ?_⟩, ?_⟩
      · have h := HREL.out
        rw [digs_big hb, hg] at h
        rw [List.append_assoc]
        exact h
      · simp [intOf]; omega
    · have hb' : (m : Int) < 128 := by omega
      go_wp2_with (first | (at_builtin; refine wpList_append_own _ rfl _ _ 27 rfl B 5 i5 (.int .u8 0) 1 1 Tryd.underlying27 HI.out HZ0.out HZ1.out HZ2.out rfl (by decide) _ _ _ rfl (hown.alloc _) ⟨w'.heap.size, 0, none⟩ 1 1 [.int .u8 (m : Int)] rfl rfl ?c1 ?c2 ?c3 ?c4 ?c5 ?_))
      case c1 => exact cell_one_new _ _ _
      case c2 => intro u hu; simp at hu; subst hu; rfl
      case c3 => have := HFK.out; unfold maxLen; omega
      case c4 => have := HFK.out; omega
      case c5 => have := hbel.size; have := HB.out; simp; omega
      intro v' w1 hown' hgrow _
      go_wp2
      have hbel' : Below B w w1 := (hbel.alloc (by have := hbel.size; have := HB.out; omega) _).grown hgrow (by have := hbel.size; have := HB.out; simp; omega) (fun q hq => (hown.lt q hq).1)
      simp only [Exit.jump]
      go_ret2
      have h := HREL.out
      rw [digs_small (by omega)] at h
      refine ⟨v', rfl, ?_, hbel'⟩
      have hl : D.length = k + 1 := by
        have h1 := hown'.1
        rw [← h]
        simp [bv] at h1 ⊢
        omega
      rw [hl, ← h, bv_app]
      exact hown'
  · intro HR
    go_wp2
    go_step3
    rename_i hK
    refine hK _ _ (HR.out _ _ ⟨?_, n.toNat, 8, 0, [], _, _, _, _, _, _, _, _, _, _, _, _, _, _, _, _, _, _, _, _, by rw [Int.toNat_of_nonneg h0], ?_, rfl, ?_, by simpa using HD.out⟩)
    · exact (Below.refl _ _).alloc (by have := HB.out; omega) _
    · show n.toNat < 9223372036854775808
      omega
    · rw [← HB.out]
      exact World.ownsRow_made w _ 9 (Nat.le_refl _) (by decide) rfl

set_option maxRecDepth 1000000 in
theorem vlay_no (n : Int) (w : World) (h1 : 9223372036854775808 ≤ n) :
    Calls Tryd.prog 46 #[.int .u64 n] w fun e w' => e = .returned (.tuple #[.slice none 0 0, .int .i64 11]) ∧ w' = w := by
  go_enter Tryd.func46, Tryd.ntmps46
  go_wp2
  go_step3
  go_wp2
  simp only [Exit.noGoto_ret]
  go_ret2
  exact ⟨rfl, rfl⟩

end Go.Proofs.YtedgdnoafajhoaaDoor

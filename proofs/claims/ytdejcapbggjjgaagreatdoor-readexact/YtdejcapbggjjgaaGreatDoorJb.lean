import Derived.Test.YtdejcapbggjjgaaGreatDoorJa
import Derived.Deep.QuietTactic
import Derived.StillTail
import Derived.Laws.CopyOwn
import Derived.Lib.SliceRun
import Derived.ProofKit
import Derived.OpenShut
import Derived.SizedLaws
import Derived.Deep.Matrix
import Derived.Lib.SmallJoins
import Derived.Lib.ConvBytes
import Derived.Laws.AppendOwn
namespace Go.Proofs.YtdejcapbggjjgaaGreatDoor
section
open Go.RowKit
/-! ### Plain -/
/-- What Read tells: k bytes have gone by, m is what they come to. -/
def rd : Nat → Nat → List Nat → Nat × Nat × Nat
  | k, _, [] => if k = 9 then (0, 0, 11) else (0, 0, 10)
  | k, m, x :: r => if k = 9 then (0, 0, 11) else if 128 ≤ x then rd (k + 1) (m + x % 128 * 128 ^ k) r else if x = 0 ∧ 0 < k then (0, 0, 12) else (m + x % 128 * 128 ^ k, k + 1, 0)

theorem and127 (x : Nat) (h : x < 256) : bits .and .u8 (x : Int) 127 = ((x % 128 : Nat) : Int) := by
  have := bits_mask .u8 8 (by decide) wraps_u8 7 (by decide) (x : Int) (by omega) (by omega)
  simpa using this
theorem and128 (x : Nat) (h : x < 256) : bits .and .u8 (x : Int) 128 = if 128 ≤ x then 128 else 0 := by
  have h1 := u8_and_nat x 128 h (by omega)
  have h2 := nat_bit 7 x
  have e : (2 : Nat) ^ 7 = 128 := rfl
  rw [e] at h2
  rw [h2] at h1
  have h3 : bits .and .u8 (x : Int) 128 = ((x / 128 % 2 * 128 : Nat) : Int) := h1
  rw [h3]
  split <;> omega
theorem pow7 (k : Nat) : 2 ^ (7 * k) = 128 ^ k := by rw [Nat.pow_mul]
theorem small_pow (k : Nat) (h : k ≤ 8) : 128 ^ k ≤ 72057594037927936 := by
  have h2 : 128 ^ k ≤ 128 ^ 8 := Nat.pow_le_pow_right (by decide) h
  exact h2
theorem step_val (x m k : Nat) (hx : x < 256) (hk : k ≤ 8) (hm : m < 128 ^ k) :
    bits .or .u64 (m : Int) (IntKind.u64.wrap (IntKind.u64.wrap (bits .and .u8 (x : Int) 127) * 2 ^ (7 * k))) = ((m + x % 128 * 128 ^ k : Nat) : Int) := by
  rw [and127 x hx]
  have hp := small_pow k hk
  have hy : x % 128 * 128 ^ k < 128 * 72057594037927936 := by
    have h1 : x % 128 < 128 := by omega
    have h2 : 0 < 128 ^ k := Nat.pow_pos (by decide)
    calc x % 128 * 128 ^ k < 128 * 128 ^ k := Nat.mul_lt_mul_of_pos_right h1 h2
      _ ≤ 128 * 72057594037927936 := Nat.mul_le_mul_left _ hp
  have e1 : IntKind.u64.wrap (((x % 128 : Nat)) : Int) = ((x % 128 : Nat) : Int) := by rw [IntKind.wrap_u64]; omega
  have e2 : ((x % 128 : Nat) : Int) * 2 ^ (7 * k) = ((x % 128 * 128 ^ k : Nat) : Int) := by
    rw [Int.natCast_mul, ← pow7, Int.natCast_pow]; rfl
  rw [e1, e2]
  generalize hY : x % 128 * 128 ^ k = y at *
  have e3 : IntKind.u64.wrap ((y : Nat) : Int) = ((y : Nat) : Int) := by rw [IntKind.wrap_u64]; omega
  rw [e3, u64_or_nat m y (by omega) (by omega)]
  rw [Nat.or_comm, nat_join (7 * k) y m (by rw [pow7, ← hY]; exact Nat.mul_mod_left _ _) (by rw [pow7]; exact hm), Nat.add_comm]
theorem next_small (x m k : Nat) (hm : m < 128 ^ k) : m + x % 128 * 128 ^ k < 128 ^ (k + 1) := by
  have h1 : x % 128 ≤ 127 := by omega
  have h2 : x % 128 * 128 ^ k ≤ 127 * 128 ^ k := Nat.mul_le_mul_right _ h1
  rw [Nat.pow_succ]
  omega
theorem drop_at (xs : List Nat) (k : Nat) (h : k < xs.length) : xs.drop k = xs.getD k 0 :: xs.drop (k + 1) := by
  rw [List.drop_eq_getElem_cons h]
  simp [List.getD, h]

/-! ### The walk -/
set_option maxRecDepth 1000000 in
set_option maxHeartbeats 400000 in
theorem vread_any (b off len cap : Nat) (xs : List Nat) (w : World) (hz : xs.length = len) (hmax : len ≤ 9223372036854775807)
    (hc : ∀ j, j < len → w.cell? ⟨b, off + j, none⟩ = some (.int .u8 (xs.getD j 0 : Nat)))
    (hr : ∀ j : Nat, xs.getD j 0 < 256) :
    Calls Tryz.prog 125 #[.slice (some ⟨b, off, none⟩) len cap] w fun e w' => e = .returned (.tuple #[.int .u64 (rd 0 0 xs).1, .int .i64 (rd 0 0 xs).2.1, .int .i64 (rd 0 0 xs).2.2]) ∧ w' = w := by
  generalize hR : rd 0 0 xs = R
  have HR0 := hide hR
  clear hR
  go_enter Tryz.func125, Tryz.ntmps125
  go_wp2
  refine scope_again 0 (fun a' w' => w' = w ∧ ∃ (m k : Nat) (u7 u8 u9 u10 u11 u12 u13 u14 u15 u16 u17 u18 u19 u20 u21 u22 u23 u24 u25 u26 u27 u28 u29 u30 u31 u32 u33 u34 u35 u36 u37 u38 : Value), a' = { tmps := #[.slice (some ⟨b, off, none⟩) len cap, undef, .int .u64 0, .int .i64 0, .int .i64 0, .int .u64 m, .int .i64 k, u7, u8, u9, u10, u11, u12, u13, u14, u15, u16, u17, u18, u19, u20, u21, u22, u23, u24, u25, u26, u27, u28, u29, u30, u31, u32, u33, u34, u35, u36, u37, u38], defers := [] } ∧ k ≤ 9 ∧ k ≤ len ∧ m < 128 ^ k ∧ rd k m (xs.drop k) = R) (fun a' _ => 10 - (intOf (a'.tmps.getD 6 undef)).toNat) rfl ?_ ?_
  · clear HR0
    rintro a' w' ⟨rfl, m, k, u7, u8, u9, u10, u11, u12, u13, u14, u15, u16, u17, u18, u19, u20, u21, u22, u23, u24, u25, u26, u27, u28, u29, u30, u31, u32, u33, u34, u35, u36, u37, u38, rfl, hk, hkl, hm, hrel⟩
    have HM := hide hm
    have HREL := hide hrel
    have HZ := hide hz
    have hcell : k < len → w'.cell? ⟨b, off + k, none⟩ = some (.int .u8 (xs.getD k 0 : Nat)) := fun h => hc k h
    have hrk : ((xs.getD k 0 : Nat) : Int) < 256 := by have := hr k; omega
    have hdr : Hid (k < len → xs.drop k = xs.getD k 0 :: xs.drop (k + 1)) := fun h => drop_at xs k (by omega)
    generalize xs.getD k 0 = x at *
    clear hc hr hm hrel hz
    by_cases h9 : k = 9
    · have h9' : ((k : Int) == 9) = true := beq_iff_eq.2 (by omega)
      have hend : R = (0, 0, 11) := by
        rw [← HREL.out, h9]; cases xs.drop 9 <;> rfl
      subst h9
      subst hend
      clear HREL hdr HM
      go_wp2
      simp only [Exit.jump]
      go_ret3
      exact ⟨rfl, rfl⟩
    · have h9' : ((k : Int) == 9) = false := beq_eq_false_iff_ne.2 (by omega)
      by_cases hl : k = len
      · have hl' : ((k : Int) == (len : Int)) = true := beq_iff_eq.2 (by omega)
        have hend : R = (0, 0, 10) := by
          rw [← HREL.out, List.drop_eq_nil_of_le (by have := HZ.out; omega)]; simp [rd, h9]
        subst hend
        clear HREL hdr HM h9 hcell
        go_wp2
        simp only [Exit.jump]
        go_ret3
        exact ⟨rfl, rfl⟩
      · have hl' : ((k : Int) == (len : Int)) = false := beq_eq_false_iff_ne.2 (by omega)
        have hlt : k < len := by omega
        have hcc := hcell hlt
        have hrd := HREL.out
        rw [hdr.out hlt] at hrd
        have HRD := hide hrd
        have hx : x < 256 := by omega
        have HSV := hide (step_val x m k hx (by omega) HM.out)
        have hk8 : k ≤ 8 := by omega
        clear hrd HREL hdr hcell h9 hl HZ
        by_cases hb : 128 ≤ x
        · have ha : (bits .and .u8 (x : Int) 128 != 0) = true := by rw [and128 x hx, if_pos hb]; rfl
          go_wp2
          go_step3
          rw [HSV.out]
          refine ⟨rfl, ⟨rfl, m + x % 128 * 128 ^ k, k + 1, _, _, _, _, _, _, _, _, _, _, _, _, _, _, _, _, _, _, _, _, _, _, _, _, _, _, _, _, _, _, _, _, rfl, by omega, by omega, next_small x m k HM.out, ?_⟩, ?_⟩
          · have h := HRD.out
            have h9 : k ≠ 9 := by have := beq_eq_false_iff_ne.1 h9'; omega
            rw [rd, if_neg h9, if_pos hb] at h
            exact h
          · simp [intOf]; omega
        · have ha : (bits .and .u8 (x : Int) 128 != 0) = false := by rw [and128 x hx, if_neg hb]; rfl
          have h := HRD.out
          have h9 : k ≠ 9 := by have := beq_eq_false_iff_ne.1 h9'; omega
          rw [rd, if_neg h9, if_neg hb] at h
          clear h9 HRD
          by_cases hq : x = 0 ∧ 0 < k
          · rw [if_pos hq] at h
            subst h
            obtain ⟨hx0, hk0⟩ := hq
            have hx0' : ((x : Int) == 0) = true := beq_iff_eq.2 (by omega)
            have hk0' : decide ((1 : Int) < (k : Int) + 1) = true := by simp; omega
            clear HSV HM hx0
            go_wp2
            all_goals simp only [Exit.jump]
            all_goals go_ret3
            all_goals exact ⟨rfl, rfl⟩
          · rw [if_neg hq] at h
            subst h
            have HQ := hide hq
            clear hq
            by_cases hx0 : x = 0
            · have hx0' : ((x : Int) == 0) = true := beq_iff_eq.2 (by omega)
              have hk0 : k = 0 := by have := HQ.out; omega
              have hk0' : decide ((1 : Int) < (k : Int) + 1) = false := by simp; omega
              have hk1 : ¬ ((1 : Int) < (k : Int) + 1) := by omega
              clear hx0 hk0
              go_wp2
              simp only [Exit.jump]
              rw [HSV.out]
              go_ret3
              exact ⟨rfl, rfl⟩
            · have hx0' : ((x : Int) == 0) = false := beq_eq_false_iff_ne.2 (by omega)
              clear hx0
              go_wp2
              simp only [Exit.jump]
              rw [HSV.out]
              go_ret3
              exact ⟨rfl, rfl⟩
  · intro HR
    go_wp2
    go_step3
    rename_i hK
    exact hK _ _ (HR.out _ _ ⟨rfl, 0, 0, _, _, _, _, _, _, _, _, _, _, _, _, _, _, _, _, _, _, _, _, _, _, _, _, _, _, _, _, _, _, _, _, rfl, by omega, by omega, by decide, by simpa using HR0.out⟩)

set_option maxRecDepth 1000000 in
set_option maxHeartbeats 400000 in
theorem vread_empty (a : Option Addr) (cap : Nat) (w : World) :
    Calls Tryz.prog 125 #[.slice a 0 cap] w fun e w' => e = .returned (.tuple #[.int .u64 0, .int .i64 0, .int .i64 10]) ∧ w' = w := by
  go_enter Tryz.func125, Tryz.ntmps125
  go_wp2
  refine wp_scope_jumps 0 (fun _ _ => False) (fun _ _ => 0) rfl ?_ (fun _ _ h => h.elim)
  go_wp2
  go_step3
  go_wp2
  simp only [Exit.jump]
  go_ret3
  exact ⟨rfl, rfl⟩
theorem BSl.vread {w : World} {v : Value} {xs : List Nat} (h : BSl w v xs) :
    Calls Tryz.prog 125 #[v] w fun e w' => e = .returned (.tuple #[.int .u64 (rd 0 0 xs).1, .int .i64 (rd 0 0 xs).2.1, .int .i64 (rd 0 0 xs).2.2]) ∧ w' = w := by
  obtain ⟨⟨a, cap, rfl, _, hc⟩, hmax, hb⟩ := h
  rcases hc with rfl | ⟨b, off, rfl, hc⟩
  · exact vread_empty a cap w
  · exact vread_any b off xs.length cap xs w rfl hmax hc (getD_lt hb)
end
section
open Go.RowKit
/-- What Number of the document tells. -/
def dnum (xs : List Nat) : Nat × Nat × Nat := if (rd 0 0 xs).2.2 = 0 then rd 0 0 xs else (0, 0, if (rd 0 0 xs).2.2 = 10 then 32 else 33)
def dnumR (r : Nat × Nat × Nat) : Value := .tuple #[.int .u64 (r.1 : Nat), .int .i64 (r.2.1 : Nat), .int .i64 (r.2.2 : Nat)]

theorem num_val (x m k : Nat) (hk : k ≤ 8) (hm : m < 128 ^ k) : IntKind.u64.wrap ((m : Int) + IntKind.u64.wrap ((x : Int) % 128 * 2 ^ (7 * k))) = ((m + x % 128 * 128 ^ k : Nat) : Int) := by
  have hp := small_pow k hk
  have hy : x % 128 * 128 ^ k ≤ 127 * 128 ^ k := Nat.mul_le_mul_right _ (by omega)
  have e2 : (x : Int) % 128 * 2 ^ (7 * k) = ((x % 128 * 128 ^ k : Nat) : Int) := by
    rw [Int.natCast_mul, ← pow7, Int.natCast_pow]; rfl
  rw [e2]
  generalize x % 128 * 128 ^ k = y at *
  have e3 : IntKind.u64.wrap ((y : Nat) : Int) = ((y : Nat) : Int) := by rw [IntKind.wrap_u64]; omega
  rw [e3, IntKind.wrap_u64]
  omega

set_option maxRecDepth 1000000 in
set_option maxHeartbeats 4000000 in
theorem refNumber_any (w : World) (v : Value) (xs : List Nat) (hsl : BSl w v xs) :
    Calls Tryz.prog 101 #[v] w fun e w' => e = .returned (dnumR (dnum xs)) ∧ Kp (fun _ => False) w w' := by
  obtain ⟨⟨a, cap, rfl, hn, hc⟩, hmax, hb⟩ := hsl
  have HC := hide hc
  have HB := hide hb
  clear hn hc hb
  go_enter Tryz.func101, Tryz.ntmps101
  go_wp2
  go_loop [5, 6] (fun nn ii => ∃ k m : Nat, k ≤ 9 ∧ k ≤ xs.length ∧ ii = .int .i64 (k : Nat) ∧ nn = .int .u64 (m : Nat) ∧ Hid (m < 128 ^ k) ∧ Hid (rd k m (xs.drop k) = rd 0 0 xs)) (fun _ ii => 9 - (intOf ii).toNat)
  case atStart => exact ⟨0, 0, by omega, by omega, rfl, rfl, by show _ < _; simp, rfl⟩
  case round =>
    obtain ⟨k, m, hk9, hkl, rfl, rfl, HM, HRD⟩ := hrel
    by_cases hll : k < xs.length
    · have hll' : (k : Int) < (xs.length : Int) := by omega
      by_cases h9 : k < 9
      · have h9' : (k : Int) < 9 := by omega
        rcases HC.out with hc | ⟨b, off, rfl, hcc⟩
        · subst hc; simp at hll
        have c := hcc k hll
        have hx := getD_lt HB.out k
        have hd := HRD.out
        rw [drop_at xs k hll, rd, if_neg (by omega)] at hd
        have HV := hide (num_val (xs.getD k 0) m k (by omega) HM.out)
        have HNS := hide (next_small (xs.getD k 0) m k HM.out)
        clear hcc
        generalize xs.getD k 0 = x at *
        by_cases hx128 : 128 ≤ x
        · rw [if_pos hx128] at hd
          have HD := hide hd
          clear hd
          have g1 : ¬ (x : Int) < 128 := by omega
          go_wp2
          go_round
          case rel => exact ⟨k + 1, m + x % 128 * 128 ^ k, by omega, by omega, by go_num, by rw [HV.out], HNS, HD⟩
          case measure => simp [intOf]; omega
        · rw [if_neg hx128] at hd
          have g1 : (x : Int) < 128 := by omega
          by_cases hz : x = 0 ∧ 0 < k
          · rw [if_pos hz] at hd
            have HE : Hid (dnum xs = (0, 0, 33)) := by show _ = _; unfold dnum; rw [← hd]; rfl
            clear hd
            obtain ⟨rfl, hk0⟩ := hz
            have hk0' : (0 : Int) < (k : Int) := by omega
            have c' : w.cell? ⟨b, off + k, none⟩ = some (.int .u8 0) := c
            clear c
            go_wp2
            go_ret3
            exact ⟨by rw [HE.out]; rfl, Kp.refl _ _⟩
          · rw [if_neg hz] at hd
            have HE : Hid (dnum xs = (m + x % 128 * 128 ^ k, k + 1, 0)) := by show _ = _; unfold dnum; rw [← hd]; rfl
            clear hd
            have HVE := hide HV.out
            by_cases hk0 : 0 < k
            · have hk0' : (0 : Int) < (k : Int) := by omega
              have hx0 : ((x : Int) == 0) = false := beq_eq_false_iff_ne.2 (by omega)
              clear hz
              go_wp2
              go_ret3
              refine ⟨?_, Kp.refl _ _⟩
              rw [HE.out]
              simp only [dnumR]
              rw [← HVE.out]
              rfl
            · have hk0' : ¬ (0 : Int) < (k : Int) := by omega
              clear hz
              go_wp2
              go_ret3
              refine ⟨?_, Kp.refl _ _⟩
              rw [HE.out]
              simp only [dnumR]
              rw [← HVE.out]
              rfl
      · have h9' : ¬ (k : Int) < 9 := by omega
        have hl9 : (9 : Int) ≤ (xs.length : Int) := by omega
        have HE : Hid (dnum xs = (0, 0, 33)) := by
          show _ = _
          have hd := HRD.out
          have hk : k = 9 := by omega
          rw [drop_at xs k hll, rd, if_pos hk] at hd
          unfold dnum
          rw [← hd]
          rfl
        go_wp2
        go_ret3
        exact ⟨by rw [HE.out]; rfl, Kp.refl _ _⟩
    · have hll' : ¬ (k : Int) < (xs.length : Int) := by omega
      have hkx : k = xs.length := by omega
      have hd := HRD.out
      rw [hkx, List.drop_length, rd] at hd
      by_cases h9 : xs.length = 9
      · have hl9 : (9 : Int) ≤ (xs.length : Int) := by omega
        rw [if_pos h9] at hd
        have HE : Hid (dnum xs = (0, 0, 33)) := by show _ = _; unfold dnum; rw [← hd]; rfl
        clear hd hkx
        go_wp2
        go_ret3
        exact ⟨by rw [HE.out]; rfl, Kp.refl _ _⟩
      · have hl9 : ¬ (9 : Int) ≤ (xs.length : Int) := by omega
        rw [if_neg h9] at hd
        have HE : Hid (dnum xs = (0, 0, 32)) := by show _ = _; unfold dnum; rw [← hd]; rfl
        clear hd hkx
        go_wp2
        go_ret3
        exact ⟨by rw [HE.out]; rfl, Kp.refl _ _⟩
end
section
open Go.RowKit
theorem rd_bound : ∀ (xs : List Nat) (k m : Nat), k ≤ 9 → m < 128 ^ k → (rd k m xs).2.2 = 0 → (rd k m xs).1 < 9223372036854775808 ∧ (rd k m xs).2.1 ≤ k + xs.length ∧ (rd k m xs).2.1 ≤ 9
  | [], k, m, hk, hm, h => by
    rw [rd] at h
    split at h <;> simp at h
  | x :: r, k, m, hk, hm, h => by
    rw [rd] at h ⊢
    by_cases h9 : k = 9
    · rw [if_pos h9] at h; simp at h
    · rw [if_neg h9] at h ⊢
      have hn := next_small x m k hm
      by_cases hx : 128 ≤ x
      · rw [if_pos hx] at h ⊢
        have := rd_bound r (k + 1) _ (by omega) hn h
        simp only [List.length_cons]
        omega
      · rw [if_neg hx] at h ⊢
        by_cases hz : x = 0 ∧ 0 < k
        · rw [if_pos hz] at h; simp at h
        · rw [if_neg hz]
          have hp : 128 ^ (k + 1) ≤ 128 ^ 9 := Nat.pow_le_pow_right (by decide) (by omega)
          have e9 : 128 ^ 9 = 9223372036854775808 := rfl
          simp only [List.length_cons]
          omega
theorem dnum_bound (xs : List Nat) (h : (dnum xs).2.2 = 0) : (dnum xs).1 < 9223372036854775808 ∧ (dnum xs).2.1 ≤ xs.length ∧ (dnum xs).2.1 ≤ 9 := by
  unfold dnum at h ⊢
  by_cases h0 : (rd 0 0 xs).2.2 = 0
  · rw [if_pos h0]
    have := rd_bound xs 0 0 (by omega) (by simp) h0
    omega
  · rw [if_neg h0] at h
    simp only at h
    split at h <;> simp at h
theorem dnum_bad (xs : List Nat) (h : (dnum xs).2.2 ≠ 0) : (dnum xs).2.2 = 32 ∨ (dnum xs).2.2 = 33 := by
  unfold dnum at h ⊢
  by_cases h0 : (rd 0 0 xs).2.2 = 0
  · rw [if_pos h0] at h; exact absurd h0 h
  · rw [if_neg h0]
    simp only
    split
    · exact .inl rfl
    · exact .inr rfl
/-- What Read of the document tells. -/
def dread (xs : List Nat) : Nat × List Nat × Nat × Nat :=
  if (dnum xs).2.2 ≠ 0 then (0, [], 0, (dnum xs).2.2)
  else if (dnum (xs.drop (dnum xs).2.1)).2.2 ≠ 0 then (0, [], 0, (dnum (xs.drop (dnum xs).2.1)).2.2)
  else if (dnum xs).1 ≠ 18 ∧ (dnum xs).1 ≠ 0 then (0, [], 0, 30)
  else if ((dnum xs).1 = 18 ∧ (dnum (xs.drop (dnum xs).2.1)).1 ≠ 32) ∨ ((dnum xs).1 = 0 ∧ 64 < (dnum (xs.drop (dnum xs).2.1)).1) then (0, [], 0, 31)
  else if xs.length - ((dnum xs).2.1 + (dnum (xs.drop (dnum xs).2.1)).2.1) < (dnum (xs.drop (dnum xs).2.1)).1 then (0, [], 0, 32)
  else ((dnum xs).1, (xs.drop ((dnum xs).2.1 + (dnum (xs.drop (dnum xs).2.1)).2.1)).take (dnum (xs.drop (dnum xs).2.1)).1, (dnum xs).2.1 + (dnum (xs.drop (dnum xs).2.1)).2.1 + (dnum (xs.drop (dnum xs).2.1)).1, 0)

theorem dread_one {xs : List Nat} (h : (dnum xs).2.2 ≠ 0) : dread xs = (0, [], 0, (dnum xs).2.2) := by unfold dread; rw [if_pos h]
theorem dread_rest {xs : List Nat} {hn u : Nat} (h : dnum xs = (hn, u, 0)) : 
    ((dnum (xs.drop u)).2.2 ≠ 0 → dread xs = (0, [], 0, (dnum (xs.drop u)).2.2)) ∧
    ∀ n m, dnum (xs.drop u) = (n, m, 0) →
      (hn ≠ 18 ∧ hn ≠ 0 → dread xs = (0, [], 0, 30)) ∧ (¬ (hn ≠ 18 ∧ hn ≠ 0) →
      ((hn = 18 ∧ n ≠ 32) ∨ (hn = 0 ∧ 64 < n) → dread xs = (0, [], 0, 31)) ∧ (¬ ((hn = 18 ∧ n ≠ 32) ∨ (hn = 0 ∧ 64 < n)) →
      (xs.length - (u + m) < n → dread xs = (0, [], 0, 32)) ∧ (¬ xs.length - (u + m) < n → dread xs = (hn, (xs.drop (u + m)).take n, u + m + n, 0)))) := by
  have e1 : (dnum xs).1 = hn := by rw [h]
  have e2 : (dnum xs).2.1 = u := by rw [h]
  have e3 : ¬ (dnum xs).2.2 ≠ 0 := by rw [h]; simp
  unfold dread
  rw [if_neg e3, e1, e2]
  refine ⟨fun hb => by rw [if_pos hb], fun n m hq => ?_⟩
  have q1 : (dnum (xs.drop u)).1 = n := by rw [hq]
  have q2 : (dnum (xs.drop u)).2.1 = m := by rw [hq]
  have q3 : ¬ (dnum (xs.drop u)).2.2 ≠ 0 := by rw [hq]; simp
  rw [if_neg q3, q1, q2]
  refine ⟨fun h1 => by rw [if_pos h1], fun h1 => ?_⟩
  rw [if_neg h1]
  refine ⟨fun h2 => by rw [if_pos h2], fun h2 => ?_⟩
  rw [if_neg h2]
  exact ⟨fun h3 => by rw [if_pos h3], fun h3 => by rw [if_neg h3]⟩
/-- The bytes from a place on, where something is left behind it. -/
theorem BSl.drop {w : World} {b off n cap : Nat} {xs : List Nat} (h : BSl w (.slice (some ⟨b, off, none⟩) n cap) xs) (k : Nat) (hk : k ≤ xs.length) : BSl w (.slice (some ⟨b, off + k, none⟩) (n - k) (cap - k)) (xs.drop k) := by
  obtain ⟨⟨a, cap', hv, hn, hc⟩, hmax, hby⟩ := h
  injection hv with h1 h2 h3
  subst h1
  subst h3
  subst h2
  refine ⟨⟨_, cap - k, by rw [List.length_drop], ⟨by rw [List.length_drop]; omega, fun h => by cases h⟩, ?_⟩, by rw [List.length_drop]; omega, fun z hz => hby z (List.mem_of_mem_drop hz)⟩
  rcases hc with hc | ⟨b', off', e, hc⟩
  · exact .inl (by subst hc; simp)
  · injection e with e
    injection e with e1 e2 e3
    subst e1
    subst e2
    refine .inr ⟨b, off + k, rfl, fun j hj => ?_⟩
    rw [List.length_drop] at hj
    have hq := hc (k + j) (by omega)
    have e : off + (k + j) = off + k + j := by omega
    rw [e] at hq
    rw [hq]
    simp [List.getD]

theorem results_four {fn : Func} {p q r s : Tmp} (h : fn.results = #[.tmp p, .tmp q, .tmp r, .tmp s]) (tmps : Array Value) (P : Program) (w : World) :
    (results fn tmps).run P w = .ok (.tuple #[tmps.getD p undef, tmps.getD q undef, tmps.getD r undef, tmps.getD s undef]) w := by
  simp only [results, h]
  simp
theorem dnum_nil : dnum [] = (0, 0, 32) := rfl

set_option maxRecDepth 1000000 in
set_option maxHeartbeats 4000000 in
theorem refDRead_any (w : World) (v : Value) (xs : List Nat) (hsl : BSl w v xs) :
    Calls Tryz.prog 102 #[v] w fun e w' => ∃ v', e = .returned (.tuple #[.int .u64 ((dread xs).1 : Nat), v', .int .i64 ((dread xs).2.2.1 : Nat), .int .i64 ((dread xs).2.2.2 : Nat)]) ∧ w'.ownsRow w.heap.size 5 1 v' (dread xs).2.1.length (bv (dread xs).2.1) ∧ Below w.heap.size w w' := by
  have HSL := hide hsl
  have HRB := hide (dnum_bound xs)
  have HRX := hide (dnum_bad xs)
  have HD1 := hide (@dread_one xs)
  have HD2 : Hid (∀ hn u : Nat, dnum xs = (hn, u, 0) → _) := fun hn u h => dread_rest (xs := xs) (hn := hn) (u := u) h
  obtain ⟨⟨a, cap, rfl, hn, hc⟩, hmax, hb⟩ := hsl
  have hcap := hn.1
  clear hn hc hb
  go_enter Tryz.func102, Tryz.ntmps102
  go_wp2_with fail
  refine (refNumber_any _ _ xs HSL.out).mono ?_
  rintro e w1 ⟨rfl, hk1⟩
  have HS1 := hide (HSL.out.move (fun p u h => hk1.cell h (fun h => h)))
  have HB1 : Hid (Below w.heap.size w w1) := hk1.below (Nat.le_refl _) (fun _ h => h.elim)
  clear hk1
  by_cases hr : (dnum xs).2.2 = 0
  · have hrb := HRB.out hr
    obtain ⟨hn, u, re, hR⟩ : ∃ hn u re, dnum xs = (hn, u, re) := ⟨_, _, _, rfl⟩
    rw [hR] at hr hrb
    simp only at hr hrb
    subst hr
    obtain ⟨hhn, hu, hu9⟩ := hrb
    have HH := hide (HD2.out hn u hR)
    clear HD1 HD2 HRX HRB
    obtain ⟨⟨a', cap', hv, hn1, hc⟩, hmax1, hb1⟩ := HS1.out
    injection hv with hv1 hv2 hv3
    subst hv1
    subst hv3
    rcases hc with hc | ⟨b, off, rfl, hc⟩
    · subst hc
      rw [dnum_nil] at hR
      injection hR with _ hR
      injection hR with _ hR
      cases hR
    clear hn1 hc hb1 hv2
    simp only [dnumR]
    by_cases hcu : cap = u
    · have hxu : xs.drop u = [] := List.drop_of_length_le (by omega)
      have HE : Hid (dread xs = (0, [], 0, 32)) := by
        have h := HH.out.1
        rw [hxu, dnum_nil] at h
        exact h (by simp)
      have HSD : Hid (BSl w1 (.slice (some ⟨b, off, none⟩) 0 0) []) := ⟨⟨_, 0, rfl, ⟨by simp, fun h => by cases h⟩, .inl rfl⟩, by simp, fun z hz => by cases hz⟩
      have hul : xs.length = u := by omega
      rw [hul] at HS1
      clear hxu HH hhn
      subst hcu
      go_wp2_with fail
      refine (refNumber_any _ _ [] HSD.out).mono ?_
      rintro e w2 ⟨rfl, hk2⟩
      have HB2 : Hid (Below w.heap.size w w2) := HB1.out.trans (hk2.below HB1.out.size (fun _ h => h.elim))
      clear hk2 HSD HS1 HB1 HSL
      rw [dnum_nil]
      simp only [dnumR]
      go_wp2
      refine bodyPost_ret (results_four rfl _ _ _) rfl ⟨_, by rw [HE.out]; rfl, by rw [HE.out]; exact World.ownsRow_nil _ _ _ _, HB2.out⟩
    · have hcu' : ¬ u = cap := fun e => hcu e.symm
      have huc : (u : Int) ≤ (xs.length : Int) := by omega
      have HSD := hide (HS1.out.drop u hu)
      go_wp2_with fail
      refine (refNumber_any _ _ (xs.drop u) HSD.out).mono ?_
      rintro e w2 ⟨rfl, hk2⟩
      have HS2 := hide (HS1.out.move (fun p u h => hk2.cell h (fun h => h)))
      have HB2 : Hid (Below w.heap.size w w2) := HB1.out.trans (hk2.below HB1.out.size (fun _ h => h.elim))
      clear hk2 HSD HS1 HB1 HSL
      have HQB := hide (dnum_bound (xs.drop u))
      have HQX := hide (dnum_bad (xs.drop u))
      obtain ⟨n, m, qe, hQ⟩ : ∃ n m qe, dnum (xs.drop u) = (n, m, qe) := ⟨_, _, _, rfl⟩
      rw [hQ] at HQB HQX HH ⊢
      simp only [dnumR] at HQB HQX HH ⊢
      by_cases hq : qe = 0
      · subst hq
        have hqb := HQB.out rfl
        rw [List.length_drop] at hqb
        obtain ⟨hqn, hqm, hqm9⟩ := hqb
        have HK := hide (HH.out.2 n m rfl)
        clear HQB HQX HH hQ hR
        by_cases h18 : hn = 18
        · subst h18
          have HK2 := hide (HK.out.2 (by omega))
          by_cases hn32 : n = 32
          · subst hn32
            have HK3 := hide (HK2.out.2 (by omega))
            clear HK HK2
            by_cases hs : xs.length - (u + m) < 32
            · have HE : Hid (dread xs = (0, [], 0, 32)) := HK3.out.1 hs
              have hs' : (xs.length : Int) - ((u : Int) + (m : Int)) < (32 : Int) := by omega
              go_wp2
              refine bodyPost_ret (results_four rfl _ _ _) rfl ⟨_, by rw [HE.out]; rfl, by rw [HE.out]; exact World.ownsRow_nil _ _ _ _, HB2.out⟩
            · have HE : Hid (dread xs = (18, (xs.drop (u + m)).take 32, u + m + 32, 0)) := HK3.out.2 hs
              have hs' : ¬ (xs.length : Int) - ((u : Int) + (m : Int)) < (32 : Int) := by omega
              have hum : u + m ≤ xs.length := by omega
              have hca : ¬ u + m = cap := by omega
              have hum' : (u : Int) + (m : Int) + (32 : Int) ≤ (cap : Int) := by omega
              have HSX : Hid (BSl w2 (.slice (some ⟨b, off + (u + m), none⟩) 32 (cap - (u + m))) ((xs.drop (u + m)).take 32)) := (HS2.out.drop (u + m) hum).take 32 (by rw [List.length_drop]; omega)
              have HDL : Hid (((xs.drop (u + m)).take 32).length = 32) := by show _ = _; rw [List.length_take, List.length_drop]; omega
              generalize (xs.drop (u + m)).take 32 = D at *
              go_wp2_with (at_builtin; refine append_bsl rfl _ _ rfl w.heap.size _ 0 [] rfl (World.ownsRow_nil _ _ _ _) _ D rfl ?hs ?b1 ?b2 ?_)
              case hs => exact HSX.out
              case b1 => rw [HDL.out]; omega
              case b2 => exact HB2.out.size
              intro v3 w3 ho3 hg3
              have HB3 : Hid (Below w.heap.size w w3) := HB2.out.grown hg3 HB2.out.size (fun q hq => by cases hq)
              have HO3 := hide ho3
              clear ho3 hg3
              go_wp2
              refine bodyPost_ret (results_four rfl _ _ _) rfl ⟨v3, ?_, ?_, HB3.out⟩
              · rw [HE.out]
                have e1 : ((u + m + 32 : Nat) : Int) = (u : Int) + (m : Int) + 32 := by omega
                simp only [e1]
                rfl
              · rw [HE.out]
                have h := HO3.out
                simpa using h
          · have g32 : ((n : Int) != 32) = true := bne_iff_ne.2 (by omega)
            have HE : Hid (dread xs = (0, [], 0, 31)) := HK2.out.1 (by omega)
            go_wp2
            refine bodyPost_ret (results_four rfl _ _ _) rfl ⟨_, by rw [HE.out]; rfl, by rw [HE.out]; exact World.ownsRow_nil _ _ _ _, HB2.out⟩
        · have g18 : ((hn : Int) != 18) = true := bne_iff_ne.2 (by omega)
          have g18' : ((hn : Int) == 18) = false := beq_eq_false_iff_ne.2 (by omega)
          by_cases h0 : hn = 0
          · subst h0
            have HK2 := hide (HK.out.2 (by omega))
            by_cases hn64 : 64 < n
            · have g64 : (64 : Int) < (n : Int) := by omega
              have HE : Hid (dread xs = (0, [], 0, 31)) := HK2.out.1 (by omega)
              go_wp2
              refine bodyPost_ret (results_four rfl _ _ _) rfl ⟨_, by rw [HE.out]; rfl, by rw [HE.out]; exact World.ownsRow_nil _ _ _ _, HB2.out⟩
            · have g64 : ¬ (64 : Int) < (n : Int) := by omega
              have HK3 := hide (HK2.out.2 (by omega))
              clear HK HK2
              by_cases hs : xs.length - (u + m) < n
              · have HE : Hid (dread xs = (0, [], 0, 32)) := HK3.out.1 hs
                have hs' : (xs.length : Int) - ((u : Int) + (m : Int)) < (n : Int) := by omega
                go_wp2
                refine bodyPost_ret (results_four rfl _ _ _) rfl ⟨_, by rw [HE.out]; rfl, by rw [HE.out]; exact World.ownsRow_nil _ _ _ _, HB2.out⟩
              · have HE : Hid (dread xs = (0, (xs.drop (u + m)).take n, u + m + n, 0)) := HK3.out.2 hs
                have hs' : ¬ (xs.length : Int) - ((u : Int) + (m : Int)) < (n : Int) := by omega
                have hum : u + m ≤ xs.length := by omega
                have hum' : (u : Int) + (m : Int) + (n : Int) ≤ (cap : Int) := by omega
                have hn65 : n ≤ 64 := by omega
                have e65 : IntKind.i64.wrap (n : Int) = (n : Int) := by rw [IntKind.wrap_i64]; omega
                have hu9' : (u : Int) ≤ 9 := by omega
                have hm9' : (m : Int) ≤ 9 := by omega
                have HDL : Hid (((xs.drop (u + m)).take n).length = n) := by show _ = _; rw [List.length_take, List.length_drop]; omega
                by_cases hca : u + m = cap
                · obtain rfl : n = 0 := by omega
                  rw [List.take_zero] at HE
                  have HSX : Hid (BSl w2 (.slice (some ⟨b, off, none⟩) 0 0) []) := ⟨⟨_, 0, rfl, ⟨by simp, fun h => by cases h⟩, .inl rfl⟩, by simp, fun z hz => by cases hz⟩
                  subst hca
                  go_wp2_with (at_builtin; refine append_bsl rfl _ _ rfl w.heap.size _ 0 [] rfl (World.ownsRow_nil _ _ _ _) _ [] rfl ?hs ?b1 ?b2 ?_)
                  case hs => exact HSX.out
                  case b2 => exact HB2.out.size
                  intro v3 w3 ho3 hg3
                  have HB3 : Hid (Below w.heap.size w w3) := HB2.out.grown hg3 HB2.out.size (fun q hq => by cases hq)
                  have HO3 := hide ho3
                  clear ho3 hg3
                  go_wp2
                  refine bodyPost_ret (results_four rfl _ _ _) rfl ⟨v3, ?_, ?_, HB3.out⟩
                  · rw [HE.out]
                    have e1 : ((u + m + 0 : Nat) : Int) = (u : Int) + (m : Int) := by omega
                    simp only [e1]
                    rfl
                  · rw [HE.out]
                    have h := HO3.out
                    simpa using h
                · have HSX : Hid (BSl w2 (.slice (some ⟨b, off + (u + m), none⟩) n (cap - (u + m))) ((xs.drop (u + m)).take n)) := (HS2.out.drop (u + m) hum).take n (by rw [List.length_drop]; omega)
                  generalize (xs.drop (u + m)).take n = D at *
                  go_wp2_with (at_builtin; refine append_bsl rfl _ _ rfl w.heap.size _ 0 [] rfl (World.ownsRow_nil _ _ _ _) _ D rfl ?hs (by rw [HDL.out]; omega) HB2.out.size ?_)
                  case hs => exact HSX.out
                  intro v3 w3 ho3 hg3
                  have HB3 : Hid (Below w.heap.size w w3) := HB2.out.grown hg3 HB2.out.size (fun q hq => by cases hq)
                  have HO3 := hide ho3
                  clear ho3 hg3
                  go_wp2
                  refine bodyPost_ret (results_four rfl _ _ _) rfl ⟨v3, ?_, ?_, HB3.out⟩
                  · rw [HE.out]
                    have e1 : ((u + m + n : Nat) : Int) = (u : Int) + (m : Int) + (n : Int) := by omega
                    simp only [e1]
                    rfl
                  · rw [HE.out]
                    have h := HO3.out
                    simpa using h
          · have g0 : ((hn : Int) != 0) = true := bne_iff_ne.2 (by omega)
            have HE : Hid (dread xs = (0, [], 0, 30)) := HK.out.1 ⟨h18, h0⟩
            go_wp2
            refine bodyPost_ret (results_four rfl _ _ _) rfl ⟨_, by rw [HE.out]; rfl, by rw [HE.out]; exact World.ownsRow_nil _ _ _ _, HB2.out⟩
      · have HE : Hid (dread xs = (0, [], 0, qe)) := HH.out.1 hq
        have g1 : ((qe : Int) != 0) = true := bne_iff_ne.2 (by omega)
        clear HQB HQX HH hQ hR
        go_wp2
        refine bodyPost_ret (results_four rfl _ _ _) rfl ⟨_, by rw [HE.out]; rfl, by rw [HE.out]; exact World.ownsRow_nil _ _ _ _, HB2.out⟩
  · have HE := hide (HD1.out hr)
    have hbad := HRX.out hr
    clear HD1 HD2 HRX HRB
    generalize dnum xs = R at *
    obtain ⟨rn, ru, re⟩ := R
    simp only [dnumR]
    have hr2 : ((re : Int) != 0) = true := bne_iff_ne.2 (by simp only at hr; omega)
    clear hr hbad
    go_wp2
    refine bodyPost_ret (results_four rfl _ _ _) rfl ⟨_, by rw [HE.out]; rfl, by rw [HE.out]; exact World.ownsRow_nil _ _ _ _, HB1.out⟩
end
section
open Go.RowKit

end
section
open Go.RowKit

end
section
open Go.RowKit
/-! ### A hash under way -/
/-- The cells of a hash. -/
def hc (s r : List Nat) (c : Nat) : List Value := wv s ++ (bv r ++ [.int .u64 ((c : Nat) : Int)])
/-- What has not gone into the state. -/
def tl (xs : List Nat) : List Nat := xs.drop (64 * (xs.length / 64))
end
section
open Go.RowKit
theorem own_make {w : World} {c : Nat} {cs : List Value} (hl : cs.length = c) (hc : c ≤ maxLen) : (w.alloc (.cells cs.toArray 5)).ownsRow w.heap.size 5 1 (.slice (some ⟨w.heap.size, 0, none⟩) 0 c) 0 (bv []) :=
  ⟨rfl, .inr ⟨w.heap.size, c, _, rfl, Nat.le_refl _, heap_alloc_new w _, Nat.zero_le _, hc, by simpa using hl, by simp [bv]⟩⟩
end
section
open Go.RowKit
/-- A block of bytes, as a slice of all of it. -/
theorem bsl_block {w : World} {g : Nat} {xs : List Nat} {t : TypeId} (h : w.heap[g]? = some (.cells (bv xs).toArray t (0, 0))) (hb : ∀ x ∈ xs, x < 256) (hl : xs.length ≤ 9223372036854775807) : BSl w (.slice (some ⟨g, 0, none⟩) xs.length xs.length) xs := by
  refine ⟨⟨_, xs.length, rfl, ⟨Nat.le_refl _, fun h => by cases h⟩, .inr ⟨g, 0, rfl, fun j hj => ?_⟩⟩, hl, hb⟩
  rw [Nat.zero_add]
  exact blk_cell h (by rw [List.getElem?_toArray]; exact bv_get hj)
end
section
open Go.RowKit

end
section
open Go.RowKit
/-- The worlds that hold what w holds, and maybe more. -/
structure Ext (w : World) where
  w' : World
  h : Below w.heap.size w w'
instance (w : World) : Nonempty (Ext w) := ⟨⟨w, Below.refl _ _⟩⟩
/-- A region that draws its order, whose operations read and whose callees read or make memory: one walk, in the text's order. -/
theorem region_ext {id : Nat} {Q : Exit → Act → World → Prop} {a : Act} {w : World} {l : List Oper} (hm : Tryz.prog.follows .mixedOrders = true) (hB : Region.lexB .any l.toArray = true)
    (h : wpQuiet Tryz.prog l.toArray (fun w' => ∃ t : Ext w, w' = t.w') (fun a' => ∀ w', (∃ t : Ext w, w' = t.w') → Q .normal a' w') l a) : (Code.region id l.toArray true).wp Tryz.prog Q a w :=
  wp_region_quiet (C := fun w' => ∃ t : Ext w, w' = t.w') hm hB ⟨⟨w.drew, (Below.refl _ _).drew⟩, rfl⟩ (by simpa using h)
/-- A callee that makes memory. -/
theorem Calls.ext_below {f : FuncId} {args : Array Value} {w : World} {t : Ext w} {v : Value} (h : Calls Tryz.prog f args t.w' fun e w' => e = .returned v ∧ Below t.w'.heap.size t.w' w') : Calls Tryz.prog f args t.w' fun e w'' => e = .returned v ∧ ∃ t' : Ext w, w'' = t'.w' :=
  h.mono fun _ w' ⟨he, hb⟩ => ⟨he, ⟨w', t.h.trans (hb.mono t.h.size)⟩, rfl⟩
end
section
open Go.RowKit Go
section
variable {P : Program} {ops : Array Oper} {md : Region.Mode} {C : World → Prop}

end
end
section
open Go.RowKit Go
/-! ### Parts of a block: by value, copied, cleared -/
theorem addr_add (g o j : Nat) : (⟨g, o, none⟩ : Addr).add j = ⟨g, o + j, none⟩ := by unfold Addr.add; split <;> simp_all
theorem part_store {w : World} {T t : TypeId} (g off : Nat) (cur cs : List Value) (hg : w.heap[g]? = some (.cells cur.toArray t (0, 0))) (hi : (Tryz.prog.info? T).map (·.size) = some cs.length) (hf : off + cs.length ≤ cur.length) (h1 : ∀ v ∈ cs, v.oneCell' = true) :
    (Instr.storeAt T (.pointer (some ⟨g, off, none⟩)) (.agg cs.toArray)).run Tryz.prog w = .ok () (w.setRow g (splice cur off cs).toArray) := by
  have hst := run_storeCells_at (P := Tryz.prog) g off t cs 0 cur.toArray w hg (by simpa using hf) h1
  simp only [Nat.add_zero, List.append_assoc] at hst
  simp only [Instr.storeAt, Instr.sureAddr, Sem.run_bind, Sem.run_pure, Result.andThen]
  cases hq : Tryz.prog.info? T with
  | none => simp [hq] at hi
  | some i =>
    have hs : cs.length = i.size := by simp [hq] at hi; omega
    simp [storeVar, sizeOf, typeInfo, hq, Value.cells, hs, hst, splice]
theorem wpList_storePart {ops : Array Oper} {rest : List Oper} {o : Oper} {a : Act} {Q : Exit → Act → World → Prop} {w : World} {T : TypeId} {p x : Operand} (hgd : o.guard = none) (ho : o.op = .store T p x) (g off : Nat) (cur cs : List Value) (t : TypeId)
    (hp : a.eval p = .pointer (some ⟨g, off, none⟩)) (hx : a.eval x = .agg cs.toArray) (hg : w.heap[g]? = some (.cells cur.toArray t (0, 0))) (hi : (Tryz.prog.info? T).map (·.size) = some cs.length) (hf : off + cs.length ≤ cur.length) (h1 : ∀ v ∈ cs, v.oneCell' = true)
    (h : ∀ w', Hid (w'.heap[g]? = some (.cells (splice cur off cs).toArray t (0, 0))) → Hid (Kp (fun q => q = g) w w') → wpList Tryz.prog ops Q rest (a.put o.dst undef) w') : wpList Tryz.prog ops Q (o :: rest) a w := by
  refine wpList_plain hgd fun K hK => ?_
  unfold Oper.wp execOp
  simp only [ho, Sem.run_bind, hp, hx, part_store g off cur cs hg hi hf h1, Result.andThen_ok]
  exact hK _ _ (h _ (row_same hg) (row_kp _ _ _))
end
section
open Go.RowKit
/-- The book's cells, changed at some places alone. -/
structure Chg (S : Nat → Prop) (C C' : Array Value) : Prop where
  n : C'.size = C.size
  k : ∀ k, ¬ S k → C'[k]? = C[k]?
theorem Chg.refl (S : Nat → Prop) (C : Array Value) : Chg S C C := ⟨rfl, fun _ _ => rfl⟩
theorem Chg.trans {S T U : Nat → Prop} {A B C : Array Value} (h : Chg S A B) (g : Chg T B C) (hs : ∀ k, S k → U k) (ht : ∀ k, T k → U k) : Chg U A C := ⟨g.n.trans h.n, fun k hk => (g.k k (fun e => hk (ht k e))).trans (h.k k (fun e => hk (hs k e)))⟩
theorem Chg.set (C : Array Value) (j : Nat) (v : Value) : Chg (fun k => k = j) C (C.setIfInBounds j v) := ⟨by simp, fun k hk => by rw [Array.getElem?_setIfInBounds_ne (fun e => hk e.symm)]⟩
theorem get_set {C : Array Value} {j : Nat} {v : Value} (h : j < C.size) : (C.setIfInBounds j v)[j]? = some v := by simp [h]
theorem get_set_ne {C : Array Value} {i j : Nat} {v : Value} (h : i ≠ j) : (C.setIfInBounds j v)[i]? = C[i]? := Array.getElem?_setIfInBounds_ne (fun e => h e.symm)
theorem set_id {C : Array Value} {j : Nat} {v : Value} (h : C[j]? = some v) : C.setIfInBounds j v = C := by
  apply Array.ext_getElem?
  intro k
  by_cases e : k = j
  · subst e
    rw [get_set (Array.getElem?_eq_some_iff.1 h).1, h]
  · exact get_set_ne e
theorem get_lt {C : Array Value} {j : Nat} {v : Value} (h : C[j]? = some v) : j < C.size := (Array.getElem?_eq_some_iff.1 h).1
set_option maxRecDepth 100000 in
set_option maxHeartbeats 400000 in
theorem tightQ_full {w : World} {B u : Nat} {C : Array Value} (h : w.heap[B]? = some (.cells C 45 (0, 0))) (h56 : C[56]? = some (.int .i64 (u : Nat))) (n : Int) (hu : u ≤ 16777216) (hn0 : 0 ≤ n) (hn : n < 1099511627776000) (hb : 16777216 < u + n) :
    Calls Tryz.prog 66 #[.pointer (some ⟨B, 0, none⟩), .int .i64 n] w fun e w' => e = .returned (.bool true) ∧ w' = w := by
  have c56 : w.cell? ⟨B, 56, none⟩ = some (.int .i64 (u : Nat)) := blk_cell h h56
  clear h h56
  go_enter Tryz.func66, Tryz.ntmps66
  go_wp2
  go_ret
  exact ⟨rfl, rfl⟩
set_option maxRecDepth 100000 in
set_option maxHeartbeats 400000 in
theorem tightQ_room {w : World} {B u : Nat} {C : Array Value} (h : w.heap[B]? = some (.cells C 45 (0, 0))) (h56 : C[56]? = some (.int .i64 (u : Nat))) (n : Int) (hu : u ≤ 16777216) (hn0 : 0 ≤ n) (hn : n < 1099511627776000) (hb : ¬ 16777216 < u + n) (U : Nat) (hU : (u : Int) + n = (U : Int)) :
    Calls Tryz.prog 66 #[.pointer (some ⟨B, 0, none⟩), .int .i64 n] w fun e w' => e = .returned (.bool false) ∧ w'.heap[B]? = some (.cells (C.setIfInBounds 56 (.int .i64 (U : Nat))) 45 (0, 0)) ∧ Kp (fun k => k = B) w w' := by
  have c56 : w.cell? ⟨B, 56, none⟩ = some (.int .i64 (u : Nat)) := blk_cell h h56
  have f56 := blk_frozen 56 h
  have HH := hide h
  have HE := hide hU
  clear h hU h56
  go_enter Tryz.func66, Tryz.ntmps66
  go_wp2
  go_ret
  refine ⟨rfl, ?_, (Kp.refl _ _).setCell _ _ (fun _ => rfl)⟩
  rw [HE.out]
  exact blk_set 56 _ HH.out
/-- One item of a row of the call's own is written. -/
theorem own_spl {w w' : World} {base : Nat} {e : TypeId} {s g n cap k : Nat} {ys zs : List Value} {cur : Array Value} (h : w.ownsRow base e s (.slice (some ⟨g, 0, none⟩) n cap) n ys) (hg : w.heap[g]? = some (.cells cur e (0, 0))) (hk : k < n) (hz : zs.length = s)
    (hw : w'.heap[g]? = some (.cells (splice cur.toList (k * s) zs).toArray e (0, 0))) : w'.ownsRow base e s (.slice (some ⟨g, 0, none⟩) n cap) n (splice ys (k * s) zs) := by
  rcases h.2 with ⟨hv, _⟩ | ⟨g', cap', cur', hv, hb, hg', h1, h2, h3, h4⟩
  · cases hv
  injection hv with e1 e2 e3
  injection e1 with e1
  injection e1 with e1 _ _
  subst e1
  subst e3
  rw [hg'] at hg
  injection hg with hg
  injection hg with hg _ _
  subst hg
  have hks : (k + 1) * s ≤ n * s := Nat.mul_le_mul_right s hk
  have hkm : (k + 1) * s = k * s + s := Nat.succ_mul k s
  have hnc : n * s ≤ cap * s := Nat.mul_le_mul_right s h1
  have hcl : cur'.toList.length = cap * s := by simpa using h3
  have hyl : ys.length = n * s := h.1
  refine ⟨by rw [length_splice _ _ _ (by omega), hyl], .inr ⟨g, cap, _, rfl, hb, hw, h1, h2, ?_, ?_⟩⟩
  · rw [List.size_toArray, length_splice _ _ _ (by omega), hcl]
  · rw [List.toList_toArray, ← h4]
    unfold splice
    rw [List.take_append, List.take_append, List.take_take, List.length_take, hz, hcl, Nat.min_eq_right (by omega : k * s ≤ n * s), Nat.min_eq_left (by omega : k * s ≤ cap * s), List.take_of_length_le (by omega : zs.length ≤ n * s - k * s), List.take_take, Nat.min_eq_left (by omega : k * s ≤ n * s), List.drop_take, Nat.sub_sub]
/-- What is written so far, and what was there. -/
theorem spl_step {F : Knd} {m k : Nat} {xs : List Value} (hs : ∀ k, (F.mc m k).length = F.s) : splice (F.mkl m k ++ xs.drop (k * F.s)) (k * F.s) (F.mc m k) = F.mkl m (k + 1) ++ xs.drop ((k + 1) * F.s) := by
  have hl : ∀ q, (F.mkl m q).length = q * F.s := by
    intro q
    induction q with
    | zero => simp [Knd.mkl]
    | succ q ih => rw [Knd.mkl_snoc, List.length_append, ih, hs, Nat.succ_mul]
  unfold splice
  rw [List.take_append_of_le_length (by rw [hl]; exact Nat.le_refl _), List.take_of_length_le (by rw [hl]; exact Nat.le_refl _), hs, Knd.mkl_snoc, List.append_assoc]
  congr 2
  have e : k * F.s + F.s = (F.mkl m k).length + F.s := by rw [hl]
  rw [e, List.drop_length_add_append, List.drop_drop, Nat.succ_mul]
end
section
open Go.ChangeShapes Go.WideShapes Go.ChangeAt Go.RowKit Go.Deep
theorem Tryz.own : ownKnob Tryz.prog.godebug = none := by kernel_rfl

theorem Tryz.laidOut : laidOutB Tryz.prog = true := by kernel_rfl

theorem Tryz.cells5 : Tryz.prog.cellsOf 5 = 1 := by kernel_rfl

theorem Tryz.cells_bytes : Tryz.prog.cellsOf 46 = 1 := by kernel_rfl

theorem Tryz.bytes5 : Tryz.prog.bytesOf 5 = 1 := by kernel_rfl

theorem wf_u8 {n : Int} (h : (Lit.int .u8 n).wf = true) : 0 ≤ n ∧ n ≤ 255 := bounds_u8 h

/-- A row of bytes that was read as data, as BSl says it. -/
theorem bsl_of_row {w : World} (A : Option Addr) (L C : Nat) (Z : List Int) (hl : L ≤ C) (hm : C ≤ maxLen) (hz : Z.length = C) (hwf : ∀ n ∈ Z, (Lit.int .u8 n).wf = true) (hn : A = none → C = 0)
    (hc : ∀ a', A = some a' → ∀ c, c < C → w.cell? (a'.add c) = some (.int .u8 (Z.getD c 0))) : BSl w (.slice A L C) ((Z.take L).map Int.toNat) := by
  have hlen : ((Z.take L).map Int.toNat).length = L := by simp; omega
  refine ⟨⟨A, C, by rw [hlen], ⟨by rw [hlen]; exact hl, hn⟩, ?_⟩, by rw [hlen]; unfold maxLen at hm; omega, ?_⟩
  · by_cases h0 : L = 0
    · left; subst h0; simp
    · right
      cases A with
      | none => have := hn rfl; omega
      | some a =>
        obtain ⟨b, off, spot⟩ := a
        have h1 := hc _ rfl 0 (by omega)
        have hspot : spot = none := by simpa [Addr.add] using World.cell?_spot h1
        subst hspot
        refine ⟨b, off, rfl, fun j hj => ?_⟩
        rw [hlen] at hj
        have h2 := hc _ rfl j (by omega)
        have hadd : (⟨b, off, none⟩ : Addr).add j = ⟨b, off + j, none⟩ := by unfold Addr.add; split <;> simp_all
        rw [hadd] at h2
        rw [h2]
        have hjz : j < Z.length := by omega
        have hb := wf_u8 (hwf Z[j] (List.getElem_mem hjz))
        simp [List.getD, hj, hjz]
        omega
  · intro x hx
    simp only [List.mem_map] at hx
    obtain ⟨n, hn', rfl⟩ := hx
    have := wf_u8 (hwf n (List.mem_of_mem_take hn'))
    omega

/-- What a row weighs, inside a slice of rows. -/
theorem weights_all {H : Type} {P : Program} {e : TypeId} {d : DataW H} : ∀ {l : List (DataW H)}, d ∈ l → ∀ n ∈ d.weights P e, n ∈ DataW.weightsAll P e l
  | [], h, _, _ => by cases h
  | x :: r, h, n, hn => by
    simp only [DataW.weightsAll, List.mem_append]
    rcases List.mem_cons.1 h with h | h
    · subst h; exact .inl hn
    · exact .inr (weights_all h n hn)

theorem row_weight {H : Type} (a' : Addr) (L C : Nat) (Z : List Int) (hz : Z.length = C) : C ∈ (intRow (H := H) .u8 (some a') L Z).weights Tryz.prog 46 := by
  have e : (intRow (H := H) .u8 (some a') L Z) = .slice (lits .u8 (Z.take L)) (lits .u8 (Z.drop L)) := rfl
  rw [e]
  simp only [DataW.weights, Tryz.underlying46, Tryz.bytes5]
  refine List.mem_cons.2 (.inl ?_)
  simp [lits]
  omega

/-- A row of a slice of rows of bytes is within the reach. -/
theorem rows_reach {H : Type} {ts : List TypeId} {ds : List (DataW H)} (h : (DataW.weightsEach Tryz.prog ts ds).all (· ≤ reachBytes) = true) {j : Nat} {elems spare : List (DataW H)} (ht : ts[j]? = some 22) (hd : ds[j]? = some (.slice elems spare))
    {d : DataW H} (hm : d ∈ elems) {n : Nat} (hn : n ∈ d.weights Tryz.prog 46) : n ≤ reachBytes := by
  have h1 : n ∈ DataW.weightsAll Tryz.prog 46 elems := weights_all hm n hn
  have h2 : n ∈ (DataW.slice elems spare).weights Tryz.prog 22 := by
    simp only [DataW.weights, Tryz.underlying22]
    exact List.mem_cons.2 (.inr (List.mem_append.2 (.inl h1)))
  have := List.all_eq_true.1 h _ (DataW.weights_mem_each ht hd n h2)
  simpa using this
end
section
open Go.ChangeShapes Go.WideShapes Go.ChangeAt Go.RowKit Go.Deep Go.Joins
/-- A slice of rows of bytes, all within the reach. -/
structure RowsIn (w : World) (v : Value) (len : Nat) : Prop where
  form : ∃ a cap, v = .slice a len cap ∧ len ≤ cap ∧ (len = 0 ∨ ∃ b off, a = some ⟨b, off, none⟩ ∧ ∀ i, i < len → ∃ u xs, w.cell? ⟨b, off + i, none⟩ = some u ∧ BSl w u xs ∧ xs.length ≤ 140737488351232)
  max : len ≤ 9223372036854775807

theorem rows_open {H : Type} {enc : TypeId × Value → H} {W : World} {base fuel : Nat} {held : Bool} {v : Value} {y : DataW H × List MemPlace} (h : DataW.trod enc Tryz.prog W base (fun _ => true) held fuel 22 [v] = some y)
    {ts : List TypeId} {ds : List (DataW H)} (hsz : (DataW.weightsEach Tryz.prog ts ds).all (· ≤ reachBytes) = true) {j : Nat} (ht : ts[j]? = some 22) (hd : ds[j]? = some y.1) : ∃ len, RowsIn W v len := by
  rcases open_int_rows Tryz.underlying22 Tryz.underlying46 Tryz.underlying5 Tryz.cells_bytes Tryz.cells5 h with ⟨hcs, _⟩ | ⟨a, len, cap, A, L, C, Z, hcs, _, hl, hm, hx, hcell⟩
  · injection hcs with hcs _
    subst hcs
    exact ⟨0, ⟨none, 0, rfl, Nat.le_refl _, .inl rfl⟩, by omega⟩
  · injection hcs with hcs _
    subst hcs
    refine ⟨len, ⟨some a, cap, rfl, hl, ?_⟩, by unfold maxLen at hm; omega⟩
    by_cases hz : len = 0
    · exact .inl hz
    · obtain ⟨b, off, spot⟩ := a
      have h1 := (hcell 0 (by omega)).1
      have hspot : spot = none := by simpa [Addr.add] using World.cell?_spot h1
      subst hspot
      refine .inr ⟨b, off, rfl, fun i hi => ?_⟩
      obtain ⟨c1, c2, c3, c4, c5, c6, c7⟩ := hcell i (by omega)
      have hadd : (⟨b, off, none⟩ : Addr).add i = ⟨b, off + i, none⟩ := by unfold Addr.add; split <;> simp_all
      rw [hadd] at c1
      refine ⟨_, _, c1, bsl_of_row (A i) (L i) (C i) (Z i) c2 c3 c4 c5 c6 (fun a' h => (c7 a' h).2), ?_⟩
      have hlen : (((Z i).take (L i)).map Int.toNat).length = L i := by simp; omega
      rw [hlen]
      cases hAi : A i with
      | none => have := c6 hAi; omega
      | some a' =>
        have hd1 := congrArg Prod.fst hx
        simp only at hd1
        rw [hd1] at hd
        have h2 := rows_reach hsz (j := j) ht hd (d := intRow .u8 (A i) (L i) (Z i)) (List.mem_map.2 ⟨i, List.mem_range.2 hi, rfl⟩) (n := C i) (by rw [hAi]; exact row_weight a' _ _ _ c4)
        unfold reachBytes at h2
        omega
end
section
open Go.RowKit Go
/-- A string's bytes. -/
def sl (s : ByteArray) : List Nat := s.data.toList.map UInt8.toNat
theorem sl_byte (s : ByteArray) : ∀ x ∈ sl s, x < 256 := fun x hx => by
  obtain ⟨u, _, rfl⟩ := List.mem_map.1 hx
  exact u.toNat_lt
theorem sl_len (s : ByteArray) : (sl s).length = s.size := by
  unfold sl
  rw [List.length_map, Array.length_toList]
  rfl
theorem sl_get (s : ByteArray) (j : Nat) : (sl s).getD j 0 = (s.data.toList.getD j 0).toNat := by
  simp only [sl, List.getD, List.getElem?_map]
  cases s.data.toList[j]? <;> simp
end
section
open Go.RowKit Go
/-- The number that digits make, the first one the highest. -/
def valB (b : Nat) (l : List Nat) : Nat := l.foldl (fun r d => r * b + d) 0
/-- A number's digits, the highest first, none of 0. -/
def digB (b n : Nat) : List Nat := if _h : n = 0 ∨ b < 2 then [] else digB b (n / b) ++ [n % b]
termination_by n
decreasing_by exact Nat.div_lt_self (by omega) (by omega)
/-- Digits of one base in another one: a 0 for each 0 at the front, then the number. -/
def conv (a b : Nat) (l : List Nat) : List Nat := List.replicate (l.takeWhile (· == 0)).length 0 ++ digB b (valB a (l.dropWhile (· == 0)))
end
section
open Go.RowKit Go
/-! ### The state over pieces -/
/-! ### The cells of a hash, by parts -/
end
section
open Go.RowKit Go
theorem bsl_nil (w : World) (p : Addr) (c : Nat) : BSl w (.slice (some p) 0 c) [] := ⟨⟨_, c, rfl, ⟨Nat.zero_le _, fun h => by cases h⟩, .inl rfl⟩, by simp, by simp⟩
end
section
open Go.RowKit Go
theorem wpList_loadAll {ops : Array Oper} {rest : List Oper} {o : Oper} {a : Act} {Q : Exit → Act → World → Prop} {w : World} {T : TypeId} {p : Operand} (hgd : o.guard = none) (ho : o.op = .load T p) (g : Nat) (cs : Array Value) (t : TypeId) {fs : Array Field}
    (hp : a.eval p = .pointer (some ⟨g, 0, none⟩)) (hg : w.heap[g]? = some (.cells cs t (0, 0))) (hu : Tryz.prog.underlying T = some (.struct fs)) (hi : (Tryz.prog.info? T).map (·.size) = some cs.size)
    (h : wpList Tryz.prog ops Q rest (a.put o.dst (.agg cs)) w) : wpList Tryz.prog ops Q (o :: rest) a w := by
  refine wpList_plain hgd fun K hK => ?_
  unfold Oper.wp execOp
  have hr : (Instr.loadAt T (.pointer (some ⟨g, 0, none⟩))).run Tryz.prog w = .ok (.agg cs) w := by
    simp only [Instr.loadAt, Instr.sureAddr, Sem.run_bind, Sem.run_pure, Result.andThen]
    exact run_loadVar_row (P := Tryz.prog) w g t T cs (0, 0) _ hg hu rfl hi
  simp only [ho, Sem.run_bind, hp, hr, Result.andThen_ok]
  exact hK _ _ h
end
section
open Go.RowKit Go

end
section
open Go.RowKit Go
set_option maxRecDepth 1000000 in
theorem clone_any (w : World) (v : Value) (xs : List Nat) (h1 : BSl w v xs) (hlen : xs.length ≤ 140737488351232) :
    Calls Tryz.prog 87 #[v] w fun e w' => ∃ v', e = .returned v' ∧ w'.ownsRow w.heap.size 5 1 v' xs.length (bv xs) ∧ Below w.heap.size w w' := by
  have H1 := hide h1
  have HL := hide hlen
  obtain ⟨⟨a, cap, rfl, hn, hc⟩, hmax, hb⟩ := h1
  have he := Lib.run_eql_slice_nil (P := Tryz.prog) w 46 5 a xs.length cap 0 0 Tryz.underlying46
  cases a with
  | none =>
    rcases hc with rfl | ⟨b, off, h, _⟩
    · simp only [List.length_nil] at he ⊢
      clear hn hb hmax
      go_enter Tryz.func87, Tryz.ntmps87
      go_wp2_with fail
      go_ret
      exact ⟨_, rfl, World.ownsRow_nil _ _ _ _, Below.refl _ _⟩
    · cases h
  | some ad =>
    clear hn hc hb hlen
    go_enter Tryz.func87, Tryz.ntmps87
    have HO : Hid ((w.alloc (.cells #[] 5)).ownsRow w.heap.size 5 1 (.slice (some ⟨w.heap.size, 0, none⟩) 0 0) 0 (bv [])) := own_make (cs := []) rfl (by unfold maxLen; decide)
    have HS := hide (H1.out.move (keep_alloc w (.cells #[] 5)))
    go_wp2_with (at_builtin; refine append_bsl rfl _ _ rfl w.heap.size _ 0 [] rfl HO.out _ xs rfl HS.out ?b1 ?b2 ?_)
    case b1 => have := HL.out; omega
    case b2 => simp
    intro v2 w2 ho2 hg2
    have hlo := fun g (h : _ = some g) => (HO.out.lt g h).1
    have HB2 : Hid (Below w.heap.size w w2) := ((Below.refl _ _).alloc (Nat.le_refl _) _).grown hg2 (by simp) (fun g hg => hlo g hg)
    have HO2 := hide ho2
    clear ho2 hg2 hlo
    go_wp2_with fail
    go_ret
    exact ⟨v2, rfl, by simpa using HO2.out, HB2.out⟩
end
section
open Go.RowKit

end
end Go.Proofs.YtdejcapbggjjgaaGreatDoor

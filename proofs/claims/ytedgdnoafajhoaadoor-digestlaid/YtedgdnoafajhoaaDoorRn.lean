import Derived.Test.YtedgdnoafajhoaaDoorRu
import Derived.Test.YtedgdnoafajhoaaDoorVr
namespace Go.Proofs.YtedgdnoafajhoaaDoor
open Go.RowKit

/-- What Number of the document tells. -/
def dnum (xs : List Nat) : Nat × Nat × Nat := if (rd 0 0 xs).2.2 = 0 then rd 0 0 xs else (0, 0, if (rd 0 0 xs).2.2 = 10 then 32 else 33)
def dnumR (r : Nat × Nat × Nat) : Value := .tuple #[.int .u64 (r.1 : Nat), .int .i64 (r.2.1 : Nat), .int .i64 (r.2.2 : Nat)]

theorem num_val (x m k : Nat) (hk : k ≤ 8) (hm : m < 128 ^ k) : IntKind.u64.wrap ((m : Int) + IntKind.u64.wrap ((x : Int) % 128 * 2 ^ (7 * k))) = ((m + x % 128 * 128 ^ k : Nat) : Int) := by
  have hp := small_pow k hk
  have hy : x % 128 * 128 ^ k ≤ 127 * 128 ^ k := Nat.mul_le_mul_right _ (by omega)
  have e2 : (x : Int) % 128 * 2 ^ (7 * k) = ((x % 128 * 128 ^ k : Nat) : Int) := by
    rw [Int.natCast_mul, ← pow7, Int.natCast_pow]; rfl
  rw [e2]
  generalize x % 128 * 128 ^ k = y at *
  have e3 : IntKind.u64.wrap ((y : Nat) : Int) = ((y : Nat) : Int) := by rw [IntKind.wrap_u64]; omega
  rw [e3, IntKind.wrap_u64]
  omega

set_option maxRecDepth 1000000 in
set_option maxHeartbeats 4000000 in
theorem refNumber_any (w : World) (v : Value) (xs : List Nat) (hsl : BSl w v xs) :
    Calls Tryd.prog 49 #[v] w fun e w' => e = .returned (dnumR (dnum xs)) ∧ Kp (fun _ => False) w w' := by
  obtain ⟨⟨a, cap, rfl, hn, hc⟩, hmax, hb⟩ := hsl
  have HC := hide hc
  have HB := hide hb
  clear hn hc hb
  go_enter Tryd.func49, Tryd.ntmps49
  go_wp2
  go_loop [5, 6] (fun nn ii => ∃ k m : Nat, k ≤ 9 ∧ k ≤ xs.length ∧ ii = .int .i64 (k : Nat) ∧ nn = .int .u64 (m : Nat) ∧ Hid (m < 128 ^ k) ∧ Hid (rd k m (xs.drop k) = rd 0 0 xs)) (fun _ ii => 9 - (intOf ii).toNat)
  case atStart => exact ⟨0, 0, by omega, by omega, rfl, rfl, by show _ < _; simp, rfl⟩
  case round =>
    obtain ⟨k, m, hk9, hkl, rfl, rfl, HM, HRD⟩ := hrel
    by_cases hll : k < xs.length
    · have hll' : (k : Int) < (xs.length : Int) := by omega
      by_cases h9 : k < 9
      · have h9' : (k : Int) < 9 := by omega
        rcases HC.out with hc | ⟨b, off, rfl, hcc⟩
        · subst hc; simp at hll
        have c := hcc k hll
        have hx := getD_lt HB.out k
        have hd := HRD.out
        rw [drop_at xs k hll, rd, if_neg (by omega)] at hd
        have HV := hide (num_val (xs.getD k 0) m k (by omega) HM.out)
        have HNS := hide (next_small (xs.getD k 0) m k HM.out)
        clear hcc
        generalize xs.getD k 0 = x at *
        by_cases hx128 : 128 ≤ x
        · rw [if_pos hx128] at hd
          have HD := hide hd
          clear hd
          have g1 : ¬ (x : Int) < 128 := by omega
          go_wp2
          go_round
          case rel => exact ⟨k + 1, m + x % 128 * 128 ^ k, by omega, by omega, by go_num, by rw [HV.out], HNS, HD⟩
          case measure => simp [intOf]; omega
        · rw [if_neg hx128] at hd
          have g1 : (x : Int) < 128 := by omega
          by_cases hz : x = 0 ∧ 0 < k
          · rw [if_pos hz] at hd
            have HE : Hid (dnum xs = (0, 0, 33)) := by show _ = _; unfold dnum; rw [← hd]; rfl
            clear hd
            obtain ⟨rfl, hk0⟩ := hz
            have hk0' : (0 : Int) < (k : Int) := by omega
            have c' : w.cell? ⟨b, off + k, none⟩ = some (.int .u8 0) := c
            clear c
            go_wp2
            go_ret3
            exact ⟨by rw [HE.out]; rfl, Kp.refl _ _⟩
          · rw [if_neg hz] at hd
            have HE : Hid (dnum xs = (m + x % 128 * 128 ^ k, k + 1, 0)) := by show _ = _; unfold dnum; rw [← hd]; rfl
            clear hd
            have HVE := hide HV.out
            by_cases hk0 : 0 < k
            · have hk0' : (0 : Int) < (k : Int) := by omega
              have hx0 : ((x : Int) == 0) = false := beq_eq_false_iff_ne.2 (by omega)
              clear hz
              go_wp2
              go_ret3
              refine ⟨?_, Kp.refl _ _⟩
              rw [HE.out]
              simp only [dnumR]
              rw [← HVE.out]
              rfl
            · have hk0' : ¬ (0 : Int) < (k : Int) := by omega
              clear hz
              go_wp2
              go_ret3
              refine ⟨?_, Kp.refl _ _⟩
              rw [HE.out]
              simp only [dnumR]
              rw [← HVE.out]
              rfl
      · have h9' : ¬ (k : Int) < 9 := by omega
        have hl9 : (9 : Int) ≤ (xs.length : Int) := by omega
        have HE : Hid (dnum xs = (0, 0, 33)) := by
          show _ = _
          have hd := HRD.out
          have hk : k = 9 := by omega
          rw [drop_at xs k hll, rd, if_pos hk] at hd
          unfold dnum
          rw [← hd]
          rfl
        go_wp2
        go_ret3
        exact ⟨by rw [HE.out]; rfl, Kp.refl _ _⟩
    · have hll' : ¬ (k : Int) < (xs.length : Int) := by omega
      have hkx : k = xs.length := by omega
      have hd := HRD.out
      rw [hkx, List.drop_length, rd] at hd
      by_cases h9 : xs.length = 9
      · have hl9 : (9 : Int) ≤ (xs.length : Int) := by omega
        rw [if_pos h9] at hd
        have HE : Hid (dnum xs = (0, 0, 33)) := by show _ = _; unfold dnum; rw [← hd]; rfl
        clear hd hkx
        go_wp2
        go_ret3
        exact ⟨by rw [HE.out]; rfl, Kp.refl _ _⟩
      · have hl9 : ¬ (9 : Int) ≤ (xs.length : Int) := by omega
        rw [if_neg h9] at hd
        have HE : Hid (dnum xs = (0, 0, 32)) := by show _ = _; unfold dnum; rw [← hd]; rfl
        clear hd hkx
        go_wp2
        go_ret3
        exact ⟨by rw [HE.out]; rfl, Kp.refl _ _⟩
end Go.Proofs.YtedgdnoafajhoaaDoor

import Derived.Test.YtghjhhcepkpaeaaMath
import Derived.Test.YtghjhhcepkpaeaaLays
namespace Go.Proofs.Ytghjhhcepkpaeaa
open Go.RowKit

/-! ### Plain -/
/-- What is laid is read back, whatever stands behind it. -/
theorem rd_digs (t : List Nat) : ∀ g k m n, g + k = 9 → n < 128 ^ g → 0 < g → (k = 0 ∨ 0 < n) → rd k m (digs g n ++ t) = (m + n * 128 ^ k, k + (digs g n).length, 0)
  | 0, _, _, _, _, _, h, _ => by omega
  | g + 1, k, m, n, hg, hn, _, hz => by
    have h9 : k ≠ 9 := by omega
    by_cases hb : 128 ≤ n
    · have hpos : 0 < g := by
        match g, hn with
        | 0, hn => simp at hn; omega
        | _ + 1, _ => omega
      have hlt : n / 128 < 128 ^ g := by rw [Nat.pow_succ] at hn; exact Nat.div_lt_of_lt_mul (by omega)
      have ih := rd_digs t g (k + 1) (m + n % 128 * 128 ^ k) (n / 128) (by omega) hlt hpos (.inr (by omega))
      rw [digs_big hb, List.cons_append]
      unfold rd
      have hm : (n % 128 + 128) % 128 = n % 128 := by omega
      rw [if_neg h9, if_pos (by omega), hm, ih, Nat.pow_succ]
      have e1 : m + n % 128 * 128 ^ k + n / 128 * (128 ^ k * 128) = m + n * 128 ^ k := by
        rw [Nat.mul_comm (128 ^ k) 128, ← Nat.mul_assoc, Nat.add_assoc, ← Nat.add_mul]
        have : n % 128 + n / 128 * 128 = n := by omega
        rw [this]
      have e2 : k + 1 + (digs g (n / 128)).length = k + ((n % 128 + 128) :: digs g (n / 128)).length := by simp; omega
      rw [e1, e2]
    · rw [digs_small (by omega), List.cons_append]
      unfold rd
      have hm : n % 128 = n := by omega
      have hq : ¬ (n = 0 ∧ 0 < k) := by omega
      rw [if_neg h9, if_neg hb, if_neg hq, hm]
      simp
/-- All its bytes but the last go on. -/
theorem digs_high : ∀ g n j, j + 1 < (digs g n).length → 128 ≤ (digs g n).getD j 0
  | 0, _, _, h => by simp [digs] at h
  | g + 1, n, j, h => by
    by_cases hb : 128 ≤ n
    · rw [digs_big hb] at h ⊢
      match j with
      | 0 => simp
      | j + 1 => simpa using digs_high g (n / 128) j (by simpa using h)
    · rw [digs_small (by omega)] at h; simp at h
/-- Each shorter beginning is too short. -/
theorem rd_begin (n k : Nat) (hk : k < (digs 9 n).length) : rd 0 0 ((digs 9 n).take k) = (0, 0, 10) := by
  have hl := digs_len 9 n
  have hlen : ((digs 9 n).take k).length = k := by rw [List.length_take]; omega
  have hlead : lead 9 ((digs 9 n).take k) = k := by
    refine lead_unique (by omega) (by omega) (fun j hj => ?_) (.inr (.inl hlen.symm))
    have := digs_high 9 n j (by omega)
    simpa [List.getD, hj] using this
  exact rd_short _ 0 0 (by omega) (by simp only [Nat.sub_zero, hlead]; omega) (by simp only [Nat.sub_zero, hlead, hlen])
/-- As few bytes as hold it. -/
theorem digs_holds : ∀ g n, n < 128 ^ g → n < 128 ^ (digs g n).length
  | 0, _, h => by simpa [digs] using h
  | g + 1, n, h => by
    by_cases hb : 128 ≤ n
    · have hlt : n / 128 < 128 ^ g := by rw [Nat.pow_succ] at h; exact Nat.div_lt_of_lt_mul (by omega)
      have ih := digs_holds g (n / 128) hlt
      rw [digs_big hb, List.length_cons, Nat.pow_succ]
      omega
    · rw [digs_small (by omega)]; simp; omega
theorem digs_least : ∀ g n, n < 128 ^ g → 1 < (digs g n).length → 128 ^ ((digs g n).length - 1) ≤ n
  | 0, _, _, h => by simp [digs] at h
  | g + 1, n, h, h1 => by
    by_cases hb : 128 ≤ n
    · have hlt : n / 128 < 128 ^ g := by rw [Nat.pow_succ] at h; exact Nat.div_lt_of_lt_mul (by omega)
      rw [digs_big hb] at h1 ⊢
      simp only [List.length_cons, Nat.add_sub_cancel] at h1 ⊢
      by_cases h2 : 1 < (digs g (n / 128)).length
      · have ih := digs_least g (n / 128) hlt h2
        have e : (digs g (n / 128)).length = (digs g (n / 128)).length - 1 + 1 := by omega
        rw [e, Nat.pow_succ]
        omega
      · have e : (digs g (n / 128)).length = 1 := by omega
        rw [e]; omega
    · rw [digs_small (by omega)] at h1; simp at h1
theorem digs_mono (a b : Nat) (h : a ≤ b) (hb : b < 128 ^ 9) : (digs 9 a).length ≤ (digs 9 b).length := by
  have h1 := digs_holds 9 b hb
  rcases Nat.lt_or_ge 1 (digs 9 a).length with h2 | h2
  · have h3 := digs_least 9 a (by omega) h2
    rcases Nat.lt_or_ge (digs 9 b).length (digs 9 a).length with h4 | h4
    · have : 128 ^ (digs 9 b).length ≤ 128 ^ ((digs 9 a).length - 1) := Nat.pow_le_pow_right (by decide) (by omega)
      omega
    · exact h4
  · have h5 : 1 ≤ (digs 9 b).length := digs_pos (f := 8) (n := b)
    omega

/-! ### Walks -/
theorem BSl.take3 {w : World} {a : Option Addr} {n cap : Nat} {xs : List Nat} (h : BSl w (.slice a n cap) xs) (k : Nat) (hk : k ≤ xs.length) : BSl w (.slice a k k) (xs.take k) := by
  obtain ⟨⟨a', cap', e, hn, hc⟩, hm, hb⟩ := h
  injection e with e1 e2 e3
  subst e1
  subst e3
  have hl : (xs.take k).length = k := by rw [List.length_take]; omega
  refine ⟨⟨a, k, by rw [hl], ⟨by rw [hl]; omega, fun h => by have := hn.2 h; have := hn.1; omega⟩, ?_⟩, by rw [hl]; omega, fun x hx => hb x (List.mem_of_mem_take hx)⟩
  rcases hc with rfl | ⟨b, off, e, hc⟩
  · exact .inl (by simp)
  · refine .inr ⟨b, off, e, fun j hj => ?_⟩
    rw [hl] at hj
    rw [hc j (by omega)]
    simp [List.getD, hj]

set_option maxRecDepth 1000000 in
set_option maxHeartbeats 400000 in
theorem head_any (w : World) (v : Value) (xs : List Nat) (hsl : BSl w v xs) :
    Calls Try.prog 19 #[v] w fun e w' => ∃ v', e = .returned v' ∧ BSl w v' (xs.take 1048576) ∧ w' = w := by
  have HSL := hide hsl
  obtain ⟨⟨a, cap, rfl, hn, hc⟩, hmax, hb⟩ := hsl
  have hcap := hn.1
  clear hn hc hb
  by_cases h : 1048576 < xs.length
  · have h' : (1048576 : Int) < (xs.length : Int) := by omega
    have h'' : 1048576 ≤ cap := by omega
    go_enter Try.func19, Try.ntmps19
    go_wp2
    go_ret
    exact ⟨_, rfl, HSL.out.take 1048576 (by omega), rfl⟩
  · have h' : ¬ (1048576 : Int) < (xs.length : Int) := by omega
    go_enter Try.func19, Try.ntmps19
    go_wp2
    go_ret
    exact ⟨_, rfl, by rw [List.take_of_length_le (by omega)]; exact HSL.out, rfl⟩

set_option maxRecDepth 1000000 in
set_option maxHeartbeats 400000 in
theorem begins_any (w : World) (v : Value) (n : Nat) (hsl : BSl w v (digs 9 n)) :
    Calls Try.prog 21 #[v] w fun e w' => e = .returned (.bool true) ∧ w' = w := by
  have HSL := hide hsl
  obtain ⟨⟨a, cap, rfl, hn, hc⟩, hmax, hb⟩ := hsl
  have hcap := hn.1
  clear hn hc hb
  have HRB : Hid (∀ k, k < (digs 9 n).length → rd 0 0 ((digs 9 n).take k) = (0, 0, 10)) := fun k h => rd_begin n k h
  have hlen := digs_len 9 n
  generalize digs 9 n = D at *
  go_enter Try.func21, Try.ntmps21
  go_wp2
  go_loop [3] (fun i => ∃ k : Nat, k ≤ D.length ∧ i = .int .i64 k) (fun i => D.length - (intOf i).toNat)
  case atStart => exact ⟨0, Nat.zero_le _, rfl⟩
  case round =>
    obtain ⟨k, hk, rfl⟩ := hrel
    by_cases hlt : k < D.length
    · have hlt' : (k : Int) < (D.length : Int) := by omega
      have hkc : (k : Int) ≤ (cap : Int) := by omega
      go_wp2_with fail
      refine (HSL.out.take3 k hk).read.mono ?_
      rintro e w' ⟨rfl, rfl⟩
      rw [HRB.out k hlt]
      go_wp2_with fail
      refine (num_any _ _).mono ?_
      rintro e w' ⟨rfl, rfl⟩
      go_wp2
      go_round
      case rel => exact ⟨k + 1, by omega, by go_num⟩
      case measure => simp [intOf]; omega
    · have hlt' : ¬ (k : Int) < (D.length : Int) := by omega
      go_wp2
      go_ret
      exact ⟨rfl, rfl⟩
end Go.Proofs.Ytghjhhcepkpaeaa

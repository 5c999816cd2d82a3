import Derived.Test.YtedgdnoafajhoaaDoorDz
namespace Go.Proofs.YtedgdnoafajhoaaDoor
open Go.RowKit Go

/-! ### What is laid is read; what is read is laid -/
theorem dnum_small {n : Nat} (h : n < 128) (r : List Nat) : dnum (n :: r) = (n, 1, 0) := by
  have e : rd 0 0 (n :: r) = (n, 1, 0) := by
    rw [rd]
    have h1 : ¬ 128 ≤ n := by omega
    simp [h1]
    omega
  unfold dnum
  rw [e]
  rfl
theorem dread_laid {h : Nat} {d ms : List Nat} (hk : (h = 18 ∧ d.length = 32) ∨ (h = 0 ∧ d.length ≤ 64)) : dread (h :: d.length :: d ++ ms) = (h, d, 2 + d.length, 0) := by
  have e1 : dnum (h :: d.length :: d ++ ms) = (h, 1, 0) := dnum_small (by omega) _
  have e2 : dnum ((h :: d.length :: d ++ ms).drop 1) = (d.length, 1, 0) := dnum_small (by omega) _
  have f : dfit h d.length = 0 := by
    unfold dfit
    rw [if_neg (by omega), if_neg (by omega)]
  have K := ((dread_fit e1 e2).2 f).2 (by simp)
  rw [K]
  simp
theorem dread_cut {h : Nat} {d : List Nat} (hk : (h = 18 ∧ d.length = 32) ∨ (h = 0 ∧ d.length ≤ 64)) (k : Nat) (hlt : k < 2 + d.length) : dread ((h :: d.length :: d).take k) = (0, [], 0, 32) := by
  match k, hlt with
  | 0, _ =>
    have e : (dnum ([] : List Nat)).2.2 ≠ 0 := by rw [dnum_nil]; decide
    have := dread_one e
    rw [dnum_nil] at this
    simpa using this
  | 1, _ =>
    have e1 : dnum [h] = (h, 1, 0) := dnum_small (by omega) _
    have e2 : (dnum ([h].drop 1)).2.2 ≠ 0 := by simp [dnum_nil]
    have := (dread_rest e1).1 e2
    simpa [dnum_nil] using this
  | k + 2, hlt =>
    have e0 : (h :: d.length :: d).take (k + 2) = h :: d.length :: d.take k := rfl
    rw [e0]
    have e1 : dnum (h :: d.length :: d.take k) = (h, 1, 0) := dnum_small (by omega) _
    have e2 : dnum ((h :: d.length :: d.take k).drop 1) = (d.length, 1, 0) := dnum_small (by omega) _
    have f : dfit h d.length = 0 := by
      unfold dfit
      rw [if_neg (by omega), if_neg (by omega)]
    exact ((dread_fit e1 e2).2 f).1 (by simp; omega)
theorem rd_small : ∀ (xs : List Nat) (k m : Nat), 1 ≤ k → (rd k m xs).2.2 = 0 → 128 ^ k ≤ (rd k m xs).1
  | [], k, m, _, h => by
    rw [rd] at h
    split at h <;> simp at h
  | x :: r, k, m, hk, h => by
    rw [rd] at h ⊢
    by_cases h9 : k = 9
    · rw [if_pos h9] at h; simp at h
    · rw [if_neg h9] at h ⊢
      by_cases h1 : 128 ≤ x
      · rw [if_pos h1] at h ⊢
        have := rd_small r (k + 1) _ (by omega) h
        have e : 128 ^ (k + 1) = 128 * 128 ^ k := by rw [Nat.pow_succ, Nat.mul_comm]
        have hp : 0 < 128 ^ k := Nat.pow_pos (by decide)
        omega
      · rw [if_neg h1] at h ⊢
        by_cases h0 : x = 0 ∧ 0 < k
        · rw [if_pos h0] at h; simp at h
        · rw [if_neg h0]
          simp only
          have hx : 1 ≤ x % 128 := by omega
          have : 1 * 128 ^ k ≤ x % 128 * 128 ^ k := Nat.mul_le_mul_right _ hx
          omega
theorem dnum_form {xs : List Nat} {n u : Nat} (h : dnum xs = (n, u, 0)) (hn : n < 128) : u = 1 ∧ ∃ r, xs = n :: r := by
  have h0 : (rd 0 0 xs).2.2 = 0 := by
    by_cases e : (rd 0 0 xs).2.2 = 0
    · exact e
    · unfold dnum at h
      rw [if_neg e] at h
      injection h with _ h
      injection h with _ h
      split at h <;> cases h
  have hr : rd 0 0 xs = (n, u, 0) := by
    unfold dnum at h
    rw [if_pos h0] at h
    exact h
  cases xs with
  | nil => rw [rd] at hr; simp at hr
  | cons x r =>
    rw [rd] at hr
    simp only [if_neg (show ¬ (0 : Nat) = 9 by decide)] at hr
    by_cases h1 : 128 ≤ x
    · rw [if_pos h1] at hr
      have h2 := rd_small r 1 (0 + x % 128 * 128 ^ 0) (by omega) (by rw [hr])
      rw [hr] at h2
      simp at h2
      omega
    · rw [if_neg h1, if_neg (by omega)] at hr
      injection hr with e1 e2
      injection e2 with e2 _
      simp at e1
      refine ⟨e2.symm, r, ?_⟩
      rw [← e1, Nat.mod_eq_of_lt (by omega)]
theorem dread_back {xs : List Nat} (h : (dread xs).2.2.2 = 0) : (dread xs).2.2.1 ≤ xs.length ∧ dlay (dread xs).1 (dread xs).2.1 = (xs.take (dread xs).2.2.1, 0) ∧ (dread xs).1 < 128 := by
  by_cases h1 : (dnum xs).2.2 = 0
  · obtain ⟨hn, u, re, hR⟩ : ∃ hn u re, dnum xs = (hn, u, re) := ⟨_, _, _, rfl⟩
    rw [hR] at h1
    simp only at h1
    subst h1
    by_cases h2 : (dnum (xs.drop u)).2.2 = 0
    · obtain ⟨n, m, qe, hQ⟩ : ∃ n m qe, dnum (xs.drop u) = (n, m, qe) := ⟨_, _, _, rfl⟩
      rw [hQ] at h2
      simp only at h2
      subst h2
      have K := dread_fit hR hQ
      by_cases hf : dfit hn n = 0
      · have hk := dfit_ok hf
        have K2 := K.2 hf
        by_cases hs : xs.length - (u + m) < n
        · rw [K2.1 hs] at h; cases h
        · have E := K2.2 hs
          obtain ⟨hu, r, hx⟩ := dnum_form hR (by omega)
          subst hu
          subst hx
          have hQ' : dnum r = (n, m, 0) := hQ
          obtain ⟨hm, r2, hr⟩ := dnum_form hQ' (by omega)
          subst hm
          subst hr
          rw [E]
          have hlen : n ≤ r2.length := by simp at hs; omega
          have e : ((hn :: n :: r2).drop (1 + 1)).take n = r2.take n := rfl
          have et : (hn :: n :: r2).take (1 + 1 + n) = hn :: n :: r2.take n := by
            have : 1 + 1 + n = n + 1 + 1 := by omega
            rw [this]
            rfl
          refine ⟨by simp; omega, ?_, by simp only; omega⟩
          simp only
          rw [e, et, dlay_fit]
          have el : (r2.take n).length = n := by simp; omega
          rw [el, if_pos hf]
      · rw [K.1 hf] at h; exact absurd h hf
    · rw [(dread_rest hR).1 h2] at h; exact absurd h h2
  · rw [dread_one h1] at h; exact absurd h h1
theorem dlay_ok {h : Nat} {d : List Nat} (hk : (h = 18 ∧ d.length = 32) ∨ (h = 0 ∧ d.length ≤ 64)) : dlay h d = (h :: d.length :: d, 0) := by
  unfold dlay
  rw [if_neg (by omega), if_neg (by omega)]
theorem dlay_long {d : List Nat} (hd : 64 < d.length) : dlay 0 d = ([], 31) := by
  unfold dlay
  rw [if_neg (by omega), if_pos (by omega)]
end Go.Proofs.YtedgdnoafajhoaaDoor

import Derived.Test.YtghjhhcepkpaeaaSl
namespace Go.Proofs.Ytghjhhcepkpaeaa

/-- How many bytes go on, of the first f. -/
def lead : Nat → List Nat → Nat
  | 0, _ => 0
  | _ + 1, [] => 0
  | f + 1, x :: r => if 128 ≤ x then lead f r + 1 else 0

theorem lead_le : ∀ f xs, lead f xs ≤ f ∧ lead f xs ≤ xs.length
  | 0, _ => by simp [lead]
  | f + 1, [] => by simp [lead]
  | f + 1, x :: r => by
    unfold lead
    have := lead_le f r
    split <;> simp <;> omega
/-- At the place where it ends there is an end, a byte that does not go on, or f bytes have gone by. -/
theorem lead_high : ∀ f xs j, j < lead f xs → 128 ≤ xs.getD j 0
  | 0, _, _, h => by simp [lead] at h
  | f + 1, [], _, h => by simp [lead] at h
  | f + 1, x :: r, j, h => by
    unfold lead at h
    split at h
    · match j, h with
      | 0, _ => simpa
      | j + 1, h => simpa using lead_high f r j (by omega)
    · omega
theorem lead_low : ∀ f xs, lead f xs < f → lead f xs < xs.length → xs.getD (lead f xs) 0 < 128
  | 0, _, h, _ => by omega
  | f + 1, [], _, h => by simp at h
  | f + 1, x :: r, h, h2 => by
    unfold lead at h h2 ⊢
    split
    · rename_i hx
      rw [if_pos hx] at h h2
      simp at h2
      simpa using lead_low f r (by omega) (by omega)
    · simp; omega
/-- It is what a loop finds that stops at the first byte that does not go on. -/
theorem lead_unique {f : Nat} {xs : List Nat} {k : Nat} (hf : k ≤ f) (hl : k ≤ xs.length) (hh : ∀ j, j < k → 128 ≤ xs.getD j 0) (he : k = f ∨ k = xs.length ∨ xs.getD k 0 < 128) : lead f xs = k := by
  rcases Nat.lt_trichotomy (lead f xs) k with h | h | h
  · have := lead_low f xs (by omega) (by omega)
    have := hh _ h
    omega
  · exact h
  · have h1 := lead_high f xs k h
    have h2 := lead_le f xs
    rcases he with he | he | he
    · omega
    · omega
    · omega

/-- What Read tells, by how many bytes go on. -/
theorem rd_long : ∀ xs k m, k ≤ 9 → k + lead (9 - k) xs = 9 → rd k m xs = (0, 0, 11)
  | [], k, m, hk, h => by
    have : lead (9 - k) [] = 0 := by cases 9 - k <;> rfl
    have : k = 9 := by omega
    simp [rd, this]
  | x :: r, k, m, hk, h => by
    unfold rd
    by_cases h9 : k = 9
    · simp [h9]
    · rw [if_neg h9]
      obtain ⟨g, hg⟩ : ∃ g, 9 - k = g + 1 := ⟨8 - k, by omega⟩
      have e : 9 - (k + 1) = g := by omega
      rw [hg] at h
      unfold lead at h
      split at h
      · rw [if_pos ‹_›]
        exact rd_long r (k + 1) _ (by omega) (by rw [e]; omega)
      · omega
theorem rd_short : ∀ xs k m, k ≤ 9 → k + lead (9 - k) xs < 9 → lead (9 - k) xs = xs.length → rd k m xs = (0, 0, 10)
  | [], k, m, hk, h, _ => by
    have : k ≠ 9 := by omega
    simp [rd, this]
  | x :: r, k, m, hk, h, hl => by
    have h9 : k ≠ 9 := by omega
    unfold rd
    rw [if_neg h9]
    obtain ⟨g, hg⟩ : ∃ g, 9 - k = g + 1 := ⟨8 - k, by omega⟩
    have e : 9 - (k + 1) = g := by omega
    rw [hg] at h hl
    unfold lead at h hl
    split at h
    · rename_i hx
      rw [if_pos hx] at hl ⊢
      simp at hl
      exact rd_short r (k + 1) _ (by omega) (by rw [e]; omega) (by rw [e]; exact hl)
    · rename_i hx
      rw [if_neg hx] at hl
      simp at hl
theorem rd_form : ∀ xs k m, k + lead (9 - k) xs < 9 → lead (9 - k) xs < xs.length → 0 < k + lead (9 - k) xs → xs.getD (lead (9 - k) xs) 0 = 0 → rd k m xs = (0, 0, 12)
  | [], k, m, _, h, _, _ => by simp at h
  | x :: r, k, m, h, hl, hp, hz => by
    have h9 : k ≠ 9 := by omega
    unfold rd
    rw [if_neg h9]
    obtain ⟨g, hg⟩ : ∃ g, 9 - k = g + 1 := ⟨8 - k, by omega⟩
    have e : 9 - (k + 1) = g := by omega
    rw [hg] at h hl hp hz
    unfold lead at h hl hp hz
    split at h
    · rename_i hx
      rw [if_pos hx] at hl hp hz ⊢
      simp at hl
      exact rd_form r (k + 1) _ (by rw [e]; omega) (by rw [e]; omega) (by omega) (by rw [e]; simpa using hz)
    · rename_i hx
      rw [if_neg hx] at hl hp hz ⊢
      simp at hz
      rw [if_pos ⟨hz, by omega⟩]
theorem rd_ok : ∀ xs k m, (∀ x ∈ xs, x < 256) → k + lead (9 - k) xs < 9 → lead (9 - k) xs < xs.length → (k + lead (9 - k) xs = 0 ∨ xs.getD (lead (9 - k) xs) 0 ≠ 0) →
    ∃ val, rd k m xs = (m + val * 128 ^ k, k + lead (9 - k) xs + 1, 0) ∧ val < 128 ^ (9 - k) ∧ digs (9 - k) val = xs.take (lead (9 - k) xs + 1) ∧ (0 < k → 0 < val)
  | [], k, m, _, _, h, _ => by simp at h
  | x :: r, k, m, hb, h, hl, hz => by
    have h9 : k ≠ 9 := by omega
    have hx256 : x < 256 := hb x (by simp)
    unfold rd
    rw [if_neg h9]
    obtain ⟨g, hg⟩ : ∃ g, 9 - k = g + 1 := ⟨8 - k, by omega⟩
    have e : 9 - (k + 1) = g := by omega
    rw [hg] at h hl hz ⊢
    unfold lead at h hl hz ⊢
    by_cases hx : 128 ≤ x
    · rw [if_pos hx] at h hl hz ⊢
      simp at hl
      have hz' : r.getD (lead g r) 0 ≠ 0 := by
        rcases hz with hz | hz
        · omega
        · simpa using hz
      obtain ⟨val, e1, e2, e3, e4⟩ := rd_ok r (k + 1) (m + x % 128 * 128 ^ k) (fun y hy => hb y (by simp [hy])) (by rw [e]; omega) (by rw [e]; omega) (.inr (by rw [e]; exact hz'))
      rw [e] at e1 e2 e3
      have hpos := e4 (by omega)
      have hdiv : (x % 128 + 128 * val) / 128 = val := by omega
      have hmod : (x % 128 + 128 * val) % 128 + 128 = x := by omega
      refine ⟨x % 128 + 128 * val, ?_, ?_, ?_, fun _ => by omega⟩
      · rw [if_pos hx, e1, Nat.pow_succ]
        congr 1
        · rw [Nat.add_mul, Nat.add_assoc, Nat.mul_comm (128 ^ k) 128, ← Nat.mul_assoc, Nat.mul_comm val 128]
        · congr 1; omega
      · rw [Nat.pow_succ]; omega
      · rw [digs_big (by omega), hdiv, hmod, e3]; simp [hx]
    · rw [if_neg hx] at h hl hz ⊢
      have hxm : x % 128 = x := by omega
      have hq : ¬ (x = 0 ∧ 0 < k) := by
        rcases hz with hz | hz
        · omega
        · simp at hz; omega
      refine ⟨x, ?_, ?_, ?_, fun hk => ?_⟩
      · rw [if_neg hx, if_neg hq, hxm]
      · have : 0 < 128 ^ g := Nat.pow_pos (by decide)
        rw [Nat.pow_succ]; omega
      · rw [digs_small (by omega)]; simp; omega
      · rcases hz with hz | hz
        · omega
        · simp at hz; omega
end Go.Proofs.Ytghjhhcepkpaeaa

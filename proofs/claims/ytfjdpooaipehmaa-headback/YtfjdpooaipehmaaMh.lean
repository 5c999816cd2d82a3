import Derived.Test.YtfjdpooaipehmaaPz
namespace Go.Proofs.Ytfjdpooaipehmaa
open Go.RowKit

theorem bnum_be : ∀ k n a, bnum a (be k n) = a * 256 ^ k + n % 256 ^ k
  | 0, n, a => by simp [be, bnum, Nat.mod_one]
  | k + 1, n, a => by
    simp only [be, bnum]
    rw [bnum_be k n, Nat.mod_pow_succ]
    have h1 : (256 * a + n / 256 ^ k % 256) * 256 ^ k = a * 256 ^ (k + 1) + 256 ^ k * (n / 256 ^ k % 256) := by
      rw [Nat.add_mul, Nat.pow_succ, Nat.mul_comm (n / 256 ^ k % 256)]
      congr 1
      rw [Nat.mul_comm 256 a, Nat.mul_assoc, Nat.mul_comm 256 (256 ^ k)]
    omega
theorem be_add : ∀ k a q, be k (a * 256 ^ k + q) = be k q
  | 0, _, _ => rfl
  | k + 1, a, q => by
    simp only [be]
    have e : a * 256 ^ (k + 1) + q = (a * 256) * 256 ^ k + q := by rw [Nat.pow_succ, Nat.mul_comm (256 ^ k) 256, Nat.mul_assoc]
    rw [e, be_add k (a * 256) q]
    have hp : 0 < 256 ^ k := Nat.pow_pos (by decide)
    rw [Nat.mul_comm (a * 256), Nat.mul_add_div hp]
    congr 1
    omega
theorem bnum_add : ∀ (l : List Nat) (a : Nat), bnum a l = a * 256 ^ l.length + bnum 0 l
  | [], a => by simp [bnum]
  | y :: l, a => by
    simp only [bnum, List.length_cons]
    rw [bnum_add l (256 * a + y), bnum_add l (256 * 0 + y), Nat.pow_succ, Nat.add_mul]
    have e : 256 * a * 256 ^ l.length = a * (256 ^ l.length * 256) := by rw [Nat.mul_comm 256 a, Nat.mul_assoc, Nat.mul_comm 256]
    rw [e]
    simp only [Nat.mul_zero, Nat.zero_add]
    omega
theorem be_bnum : ∀ (l : List Nat), (∀ x ∈ l, x < 256) → be l.length (bnum 0 l) = l
  | [], _ => rfl
  | y :: l, h => by
    simp only [bnum, List.length_cons, be]
    have e : bnum (256 * 0 + y) l = y * 256 ^ l.length + bnum 0 l := by rw [bnum_add l (256 * 0 + y)]; simp
    have hl : bnum 0 l < 256 ^ l.length := by have := bnum_lt l 0 (fun x hx => h x (List.mem_cons_of_mem _ hx)); simpa using this
    have hp : 0 < 256 ^ l.length := Nat.pow_pos (by decide)
    have hy := h y (by simp)
    rw [e, be_add, be_bnum l (fun x hx => h x (List.mem_cons_of_mem _ hx))]
    congr 1
    rw [Nat.mul_comm y, Nat.mul_add_div hp, Nat.div_eq_of_lt hl]
    omega

theorem hwide24 : hwide 24 = 1 := rfl
theorem hwide25 : hwide 25 = 2 := rfl
theorem hwide26 : hwide 26 = 4 := rfl
theorem hwide27 : hwide 27 = 8 := rfl
theorem wide_cases (i : Nat) (h0 : 24 ≤ i) (h1 : i ≤ 27) : (i = 24 ∧ hwide i = 1) ∨ (i = 25 ∧ hwide i = 2) ∨ (i = 26 ∧ hwide i = 4) ∨ (i = 27 ∧ hwide i = 8) := by
  rcases (by omega : i = 24 ∨ i = 25 ∨ i = 26 ∨ i = 27) with rfl | rfl | rfl | rfl
  · exact .inl ⟨rfl, rfl⟩
  · exact .inr (.inl ⟨rfl, rfl⟩)
  · exact .inr (.inr (.inl ⟨rfl, rfl⟩))
  · exact .inr (.inr (.inr ⟨rfl, rfl⟩))
theorem pow2 : 256 ^ 2 = 65536 := rfl
theorem pow4 : 256 ^ 4 = 4294967296 := rfl
theorem pow8 : 256 ^ 8 = 18446744073709551616 := rfl
/-- What so many bytes hold. -/
theorem fits {n i : Nat} (hn : n < 18446744073709551616) (h0 : 24 ≤ i) (h1 : i ≤ 27) (h : hinfo n ≤ i) : n < 256 ^ hwide i := by
  have hc := hinfo_cases n
  rcases wide_cases i h0 h1 with ⟨rfl, e⟩ | ⟨rfl, e⟩ | ⟨rfl, e⟩ | ⟨rfl, e⟩ <;> rw [e]
  · omega
  · rw [pow2]; omega
  · rw [pow4]; omega
  · rw [pow8]; omega
theorem wide_lt {n i : Nat} (h0 : 24 ≤ i) (h1 : i ≤ 27) : (1 + hwide i > hsize n ↔ hinfo n < i) ∧ (1 + hwide i = hsize n ↔ hinfo n = i) := by
  unfold hsize
  have hl := hinfo_lt n
  by_cases h : hinfo n < 24
  · rw [hwide_small h]
    rcases wide_cases i h0 h1 with ⟨rfl, e⟩ | ⟨rfl, e⟩ | ⟨rfl, e⟩ | ⟨rfl, e⟩ <;> omega
  · rcases wide_cases i h0 h1 with ⟨rfl, e⟩ | ⟨rfl, e⟩ | ⟨rfl, e⟩ | ⟨rfl, e⟩ <;> rcases wide_cases (hinfo n) (by omega) (by omega) with ⟨g, f⟩ | ⟨g, f⟩ | ⟨g, f⟩ | ⟨g, f⟩ <;> omega

/-- A head in so many bytes is read. -/
theorem hrd_be (m i n : Nat) (tl : List Nat) (hm : m ≤ 6) (h0 : 24 ≤ i) (h1 : i ≤ 27) (hn : n < 256 ^ hwide i) :
    hrd ((32 * m + i) :: (be (hwide i) n ++ tl)) = ⟨m, i, n, 1 + hwide i, decide (1 + hwide i = hsize n), 0⟩ := by
  have e1 : (32 * m + i) / 32 = m := by omega
  have e2 : (32 * m + i) % 32 = i := by omega
  have e3 : (be (hwide i) n ++ tl).take (hwide i) = be (hwide i) n := by
    have hl := be_len (hwide i) n
    rw [List.take_append_of_le_length (by omega), List.take_of_length_le (by omega)]
  have h := hrd_long (x := 32 * m + i) (r := be (hwide i) n ++ tl) (by omega) (by omega) (by rw [e2, List.length_append, be_len]; omega) (by omega)
  have e4 : bnum 0 (be (hwide i) n) = n := by rw [bnum_be]; simp [Nat.mod_eq_of_lt hn]
  rw [e1, e2, e3, e4] at h
  have e5 : decide (m = 7) = false := decide_eq_false (by omega)
  rw [e5, Bool.false_or] at h
  exact h
theorem hrd_laid (m n : Nat) (tl : List Nat) (hm : m ≤ 6) (hn : n < 18446744073709551616) : hrd (hl m n ++ tl) = ⟨m, hinfo n, n, hsize n, true, 0⟩ := by
  have hlt := hinfo_lt n
  unfold hl
  rw [List.cons_append]
  by_cases h : hinfo n < 24
  · have hc := hinfo_cases n
    have e : hinfo n = n := by omega
    rw [hrd_small (by omega), e, hsize_small (by omega)]
    have e1 : (32 * m + n) / 32 = m := by omega
    have e2 : (32 * m + n) % 32 = n := by omega
    rw [e1, e2]
  · rw [hrd_be m (hinfo n) n tl hm (by omega) (by omega) (fits hn (by omega) (by omega) (Nat.le_refl _))]
    simp [hsize]
theorem hrd_begin (m n k : Nat) (hk : k < hsize n) : hrd ((hl m n).take k) = .bad 20 := by
  have hlt := hinfo_lt n
  match k with
  | 0 => rfl
  | k + 1 =>
    unfold hl
    rw [List.take_succ_cons]
    unfold hsize at hk
    have e2 : (32 * m + hinfo n) % 32 = hinfo n := by omega
    refine hrd_few ?_ ?_
    · rw [e2]; unfold hmay; omega
    · rw [e2, List.length_take, be_len]; omega

/-- What a reading comes to. -/
theorem hrd_ways (xs : List Nat) : (hrd xs = .bad 20 ∧ xs.length ≤ 8) ∨ hrd xs = .bad 21 ∨
    ∃ x r, xs = x :: r ∧ hmay (x / 32) (x % 32) ∧ hwide (x % 32) ≤ r.length ∧ ¬ (x / 32 = 7 ∧ x % 32 = 24 ∧ harg (x % 32) r < 32) ∧
      hrd xs = ⟨x / 32, x % 32, harg (x % 32) r, 1 + hwide (x % 32), decide (x % 32 = 31) || (decide (x / 32 = 7) || decide (1 + hwide (x % 32) = hsize (harg (x % 32) r))), 0⟩ := by
  match xs with
  | [] => exact .inl ⟨rfl, by simp⟩
  | x :: r =>
    by_cases h : hmay (x / 32) (x % 32)
    · by_cases hl : r.length < hwide (x % 32)
      · refine .inl ⟨hrd_few h hl, ?_⟩
        have := hwide_le (x % 32)
        simp; omega
      · by_cases h2 : x / 32 = 7 ∧ x % 32 = 24 ∧ harg (x % 32) r < 32
        · exact .inr (.inl (hrd_two hl h2.1 h2.2.1 h2.2.2))
        · exact .inr (.inr ⟨x, r, rfl, h, by omega, h2, hrd_all h hl h2⟩)
    · exact .inr (.inl (hrd_not h))
theorem harg_take (i : Nat) (r : List Nat) : harg i (r.take (hwide i)) = harg i r := by
  unfold harg
  rw [List.take_take, Nat.min_self]
/-- A head that is read hangs on its own bytes alone. -/
theorem hrd_own {x : Nat} {r : List Nat} (h : hmay (x / 32) (x % 32)) (hl : hwide (x % 32) ≤ r.length) (h2 : ¬ (x / 32 = 7 ∧ x % 32 = 24 ∧ harg (x % 32) r < 32)) : hrd ((x :: r).take (1 + hwide (x % 32))) = hrd (x :: r) := by
  rw [Nat.add_comm 1, List.take_succ_cons]
  rw [hrd_all h (by omega) h2, hrd_all h (by rw [List.length_take]; omega) (by rw [harg_take]; exact h2), harg_take]
theorem hrd_less {x : Nat} {r : List Nat} (h : hmay (x / 32) (x % 32)) (k : Nat) (hk : k < 1 + hwide (x % 32)) : hrd ((x :: r).take k) = .bad 20 := by
  match k with
  | 0 => rfl
  | k + 1 =>
    rw [List.take_succ_cons]
    exact hrd_few h (by rw [List.length_take]; omega)
theorem hrd_same {x : Nat} {r : List Nat} (hx : x < 256) (hb : ∀ z ∈ r, z < 256) (hw : hwide (x % 32) ≤ r.length) (hi : x % 32 < 28) :
    (hlay ((x / 32 : Nat) : Int) (harg (x % 32) r) = (x :: r).take (1 + hwide (x % 32))) ↔ 1 + hwide (x % 32) = hsize (harg (x % 32) r) := by
  have e : hlay ((x / 32 : Nat) : Int) (harg (x % 32) r) = hl (x / 32) (harg (x % 32) r) := by
    unfold hlay
    rw [if_pos (by omega), Int.toNat_natCast]
  rw [e, Nat.add_comm 1, List.take_succ_cons, Nat.add_comm _ 1]
  constructor
  · intro h
    have h3 := congrArg List.length h
    rw [hl_len, List.length_cons, List.length_take] at h3
    omega
  · intro h
    by_cases h24 : x % 32 < 24
    · have ea : harg (x % 32) r = x % 32 := by unfold harg; rw [if_pos h24]
      have hc := hinfo_cases (x % 32)
      have ei : hinfo (x % 32) = x % 32 := by omega
      unfold hl
      rw [ea, ei, hwide_small h24]
      simp only [be, List.take_zero]
      congr 1
      omega
    · have hi2 := ((wide_lt (n := harg (x % 32) r) (i := x % 32) (by omega) (by omega)).2).1 h
      unfold hl
      rw [hi2]
      have ea : harg (x % 32) r = bnum 0 (r.take (hwide (x % 32))) := by unfold harg; rw [if_neg h24]
      have eb := be_bnum (r.take (hwide (x % 32))) (fun z hz => hb z (List.mem_of_mem_take hz))
      rw [List.length_take, Nat.min_eq_left hw] at eb
      rw [ea, eb]
      congr 1
      omega
/-- What a reading comes to, for one who looks back. -/
theorem hrd_back (xs : List Nat) (hby : ∀ z ∈ xs, z < 256) : (hrd xs = .bad 20 ∧ xs.length ≤ 8) ∨ hrd xs = .bad 21 ∨
    ∃ (x : Nat) (r : List Nat) (m i N U : Nat) (S : Bool), xs = x :: r ∧ m ≤ 7 ∧ i ≤ 31 ∧ N < 18446744073709551616 ∧ 1 ≤ U ∧ U ≤ 9 ∧ U ≤ r.length + 1 ∧ x < 256 ∧ x / 32 = m ∧ x % 32 = i ∧ hrd xs = ⟨m, i, N, U, S, 0⟩ ∧
      hrd (xs.take U) = ⟨m, i, N, U, S, 0⟩ ∧ (∀ k, k < U → hrd (xs.take k) = .bad 20) ∧ (m ≠ 7 → i < 28 → (hlay (m : Int) N = xs.take U ↔ S = true)) ∧ (i = 31 → N = 0 ∧ U = 1) := by
  rcases hrd_ways xs with h | h | ⟨x, r, rfl, hmy, hwl, hn7, he⟩
  · exact .inl h
  · exact .inr (.inl h)
  · have hx : x < 256 := hby x (by simp)
    have hb : ∀ z ∈ r, z < 256 := fun z hz => hby z (List.mem_cons_of_mem _ hz)
    refine .inr (.inr ⟨x, r, x / 32, x % 32, harg (x % 32) r, 1 + hwide (x % 32), _, rfl, by omega, by omega, harg_lt _ _ (by omega) hb, by omega, by have := hwide_le (x % 32); omega, by omega, hx, rfl, rfl, he, (hrd_own hmy hwl hn7).trans he, fun k hk => hrd_less hmy k hk, ?_, ?_⟩)
    · intro h7 h28
      rw [hrd_same hx hb hwl h28]
      have e1 : decide (x % 32 = 31) = false := decide_eq_false (by omega)
      have e2 : decide (x / 32 = 7) = false := decide_eq_false h7
      rw [e1, e2, Bool.false_or, Bool.false_or, decide_eq_true_iff]
    · intro h31
      rw [h31, hwide31]
      refine ⟨?_, rfl⟩
      unfold harg
      rw [if_neg (by decide), hwide31]
      rfl
end Go.Proofs.Ytfjdpooaipehmaa

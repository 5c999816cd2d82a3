import Derived.Test.YtfjdpooaipehmaaKp
import Derived.Test.YtfjdpooaipehmaaBkc
namespace Go.Proofs.Ytfjdpooaipehmaa
open Go.RowKit

/-! ### Heads, plainly -/
def hinfo (n : Nat) : Nat := if n < 24 then n else if n < 256 then 24 else if n < 65536 then 25 else if n < 4294967296 then 26 else 27
def hwide (i : Nat) : Nat := if i = 24 then 1 else if i = 25 then 2 else if i = 26 then 4 else if i = 27 then 8 else 0
/-- A number in so many bytes, the highest first. -/
def be : Nat → Nat → List Nat
  | 0, _ => []
  | k + 1, n => (n / 256 ^ k % 256) :: be k n
def hl (m n : Nat) : List Nat := (32 * m + hinfo n) :: be (hwide (hinfo n)) n
def hlay (m : Int) (n : Nat) : List Nat := if 0 ≤ m ∧ m ≤ 7 then hl m.toNat n else []
def hsize (n : Nat) : Nat := 1 + hwide (hinfo n)
/-- The number that bytes are, the highest first. -/
def bnum : Nat → List Nat → Nat
  | a, [] => a
  | a, x :: r => bnum (256 * a + x) r

structure HR where
  m : Nat
  i : Nat
  n : Nat
  u : Nat
  s : Bool
  e : Nat
def HR.bad (e : Nat) : HR := ⟨0, 0, 0, 0, false, e⟩
def HR.val (r : HR) : Value := .agg #[.int .i64 (r.m : Nat), .int .i64 (r.i : Nat), .int .u64 (r.n : Nat), .int .i64 (r.u : Nat), .bool r.s]
def hrd : List Nat → HR
  | [] => .bad 20
  | x :: r =>
    if 27 < x % 32 then (if x % 32 = 31 ∧ x / 32 ≠ 0 ∧ x / 32 ≠ 1 ∧ x / 32 ≠ 6 then ⟨x / 32, 31, 0, 1, true, 0⟩ else .bad 21)
    else if x % 32 < 24 then ⟨x / 32, x % 32, x % 32, 1, true, 0⟩
    else if r.length < hwide (x % 32) then .bad 20
    else if x / 32 = 7 ∧ x % 32 = 24 ∧ bnum 0 (r.take (hwide (x % 32))) < 32 then .bad 21
    else ⟨x / 32, x % 32, bnum 0 (r.take (hwide (x % 32))), 1 + hwide (x % 32), decide (x / 32 = 7) || decide (1 + hwide (x % 32) = hsize (bnum 0 (r.take (hwide (x % 32))))), 0⟩

theorem hinfo_cases (n : Nat) : (n < 24 ∧ hinfo n = n) ∨ (24 ≤ n ∧ n < 256 ∧ hinfo n = 24) ∨ (256 ≤ n ∧ n < 65536 ∧ hinfo n = 25) ∨ (65536 ≤ n ∧ n < 4294967296 ∧ hinfo n = 26) ∨ (4294967296 ≤ n ∧ hinfo n = 27) := by
  unfold hinfo
  by_cases h1 : n < 24
  · rw [if_pos h1]; omega
  · rw [if_neg h1]
    by_cases h2 : n < 256
    · rw [if_pos h2]; omega
    · rw [if_neg h2]
      by_cases h3 : n < 65536
      · rw [if_pos h3]; omega
      · rw [if_neg h3]
        by_cases h4 : n < 4294967296
        · rw [if_pos h4]; omega
        · rw [if_neg h4]; omega
theorem hwide_small {i : Nat} (h : i < 24) : hwide i = 0 := by
  unfold hwide
  rw [if_neg (by omega), if_neg (by omega), if_neg (by omega), if_neg (by omega)]
theorem be_len : ∀ k n, (be k n).length = k
  | 0, _ => rfl
  | k + 1, n => by simp [be, be_len k n]
theorem be_byte : ∀ k n x, x ∈ be k n → x < 256
  | 0, _, _, h => by simp [be] at h
  | k + 1, n, x, h => by
    rcases List.mem_cons.1 h with h | h
    · subst h; exact Nat.mod_lt _ (by decide)
    · exact be_byte k n x h
theorem hinfo_lt (n : Nat) : hinfo n < 28 := by unfold hinfo; repeat (first | omega | split)
theorem hwide_le (i : Nat) : hwide i ≤ 8 := by unfold hwide; repeat (first | omega | split)
theorem hl_len (m n : Nat) : (hl m n).length = hsize n := by simp [hl, hsize, be_len]; omega
theorem hl_byte (m n : Nat) (h : m ≤ 7) : ∀ x ∈ hl m n, x < 256 := by
  intro x hx
  rcases List.mem_cons.1 hx with hx | hx
  · have := hinfo_lt n; omega
  · exact be_byte _ _ _ hx
theorem hlay_byte (m : Int) (n : Nat) : ∀ x ∈ hlay m n, x < 256 := by
  unfold hlay
  split
  · exact hl_byte _ _ (by omega)
  · intro x hx; cases hx
theorem hlay_len (m : Int) (n : Nat) : (hlay m n).length ≤ 9 := by
  unfold hlay
  split
  · rw [hl_len]; have := hwide_le (hinfo n); unfold hsize; omega
  · simp
theorem hsize_pos (n : Nat) : 1 ≤ hsize n := by unfold hsize; omega

theorem hrd_info {x : Nat} {r : List Nat} (h : 27 < x % 32) (h' : ¬ (x % 32 = 31 ∧ x / 32 ≠ 0 ∧ x / 32 ≠ 1 ∧ x / 32 ≠ 6)) : hrd (x :: r) = .bad 21 := by
  simp only [hrd]
  rw [if_pos h, if_neg h']
theorem hrd_end {x : Nat} {r : List Nat} (h : x % 32 = 31) (h' : x / 32 ≠ 0 ∧ x / 32 ≠ 1 ∧ x / 32 ≠ 6) : hrd (x :: r) = ⟨x / 32, 31, 0, 1, true, 0⟩ := by
  simp only [hrd]
  rw [if_pos (by omega), if_pos ⟨h, h'⟩]
theorem hrd_small {x : Nat} {r : List Nat} (h : x % 32 < 24) : hrd (x :: r) = ⟨x / 32, x % 32, x % 32, 1, true, 0⟩ := by
  simp only [hrd]
  rw [if_neg (by omega), if_pos h]
theorem hrd_short {x : Nat} {r : List Nat} (h0 : 24 ≤ x % 32) (h1 : x % 32 ≤ 27) (h : r.length < hwide (x % 32)) : hrd (x :: r) = .bad 20 := by
  simp only [hrd]
  rw [if_neg (by omega), if_neg (by omega), if_pos h]
theorem hrd_low {x : Nat} {r : List Nat} (h1 : x % 32 = 24) (h : ¬ r.length < hwide (x % 32)) (hm : x / 32 = 7) (hn : bnum 0 (r.take (hwide (x % 32))) < 32) : hrd (x :: r) = .bad 21 := by
  simp only [hrd]
  rw [if_neg (by omega), if_neg (by omega), if_neg h, if_pos ⟨hm, h1, hn⟩]
theorem hrd_long {x : Nat} {r : List Nat} (h0 : 24 ≤ x % 32) (h1 : x % 32 ≤ 27) (h : ¬ r.length < hwide (x % 32)) (hn : ¬ (x / 32 = 7 ∧ x % 32 = 24 ∧ bnum 0 (r.take (hwide (x % 32))) < 32)) :
    hrd (x :: r) = ⟨x / 32, x % 32, bnum 0 (r.take (hwide (x % 32))), 1 + hwide (x % 32), decide (x / 32 = 7) || decide (1 + hwide (x % 32) = hsize (bnum 0 (r.take (hwide (x % 32))))), 0⟩ := by
  simp only [hrd]
  rw [if_neg (by omega), if_neg (by omega), if_neg h, if_neg hn]
theorem bnum_snoc : ∀ (a : Nat) (l : List Nat) (x : Nat), bnum a (l ++ [x]) = 256 * bnum a l + x
  | _, [], _ => rfl
  | a, y :: l, x => by simp only [List.cons_append, bnum]; exact bnum_snoc _ l x
theorem bnum_lt : ∀ (l : List Nat) (a : Nat), (∀ x ∈ l, x < 256) → bnum a l < (a + 1) * 256 ^ l.length
  | [], a, _ => by simp [bnum]
  | y :: l, a, h => by
    simp only [bnum, List.length_cons]
    have h1 := bnum_lt l (256 * a + y) (fun x hx => h x (List.mem_cons_of_mem _ hx))
    have h2 := h y (by simp)
    have h3 : (256 * a + y + 1) * 256 ^ l.length ≤ (256 * (a + 1)) * 256 ^ l.length := Nat.mul_le_mul_right _ (by omega)
    have h4 : (a + 1) * 256 ^ (l.length + 1) = (256 * (a + 1)) * 256 ^ l.length := by rw [Nat.pow_succ]; simp only [Nat.mul_assoc, Nat.mul_comm]
    omega
theorem take_snoc (l : List Nat) (j : Nat) (h : j < l.length) : l.take (j + 1) = l.take j ++ [l.getD j 0] := by
  rw [List.take_succ_eq_append_getElem h]
  simp [List.getD, h]

end Go.Proofs.Ytfjdpooaipehmaa

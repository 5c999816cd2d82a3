import Derived.Test.YtadilnmkjcmnnaaGreatDoorJa
import Derived.Deep.QuietTactic
import Derived.BigQuiet
import Derived.Maps.AppendAt
import Derived.Deep.RegionWith
import Derived.Deep.WholeRow
import Derived.StillTailTactics
import Derived.Deep.LoopGhost
import Derived.Deep.DeepCutAuto
import Derived.Deep.RegionLaw
namespace Go.Proofs.YtadilnmkjcmnnaaGreatDoor
section
open Go.RowKit
/-- A list that is kept: its value, its length, its mark. -/
structure Ent where
  val : Value
  n : Nat
  m : Nat

/-- The book: its block, the row of lists, the row of marks' numbers, each list written full of its mark. -/
structure BookOk (w : World) (base B : Nat) (vb vo : Value) (es : List Ent) (a t d u : Nat) : Prop where
  blk : BkBlk w B vb vo a t d u
  hb : w.ownsRow base 46 1 vb es.length (es.map (·.val))
  ho : w.ownsRow base 3 1 vo es.length (es.map fun e => .int .i64 ((e.m : Nat) : Int))
  he : ∀ e ∈ es, w.ownsRow base 5 1 e.val e.n (bv (mkl e.m e.n))
  hs : ∀ e ∈ es, ∀ e' ∈ es, ∀ k, e.val.ownBlock = some k → e'.val.ownBlock = some k → e.m = e'.m
  hbase : base ≤ B
  hm : ∀ e ∈ es, e.m ≤ t ∧ e.n < 68719477000
  ht : t < 68719476736
  hu : u ≤ 16777216
  count : ∃ c r, a = 10 * c ∧ es.length = 10 * c + r ∧ 1200 * (c + r) ≤ u
  hg : ∀ i j ei ej, es[i]? = some ei → es[j]? = some ej → a ≤ j → i ≠ j → ∀ k, ei.val.ownBlock = some k → ej.val.ownBlock ≠ some k
  hn : ∀ (j : Nat) (ej : Ent), es[j]? = some ej → a ≤ j → ej.n < 68719476736

/-- The same without what is said of the lists that have not been grown yet. -/
structure BookC (w : World) (base B : Nat) (vb vo : Value) (es : List Ent) (a t d u : Nat) : Prop where
  blk : BkBlk w B vb vo a t d u
  hb : w.ownsRow base 46 1 vb es.length (es.map (·.val))
  ho : w.ownsRow base 3 1 vo es.length (es.map fun e => .int .i64 ((e.m : Nat) : Int))
  he : ∀ e ∈ es, w.ownsRow base 5 1 e.val e.n (bv (mkl e.m e.n))
  hs : ∀ e ∈ es, ∀ e' ∈ es, ∀ k, e.val.ownBlock = some k → e'.val.ownBlock = some k → e.m = e'.m
  hbase : base ≤ B
  hm : ∀ e ∈ es, e.m ≤ t ∧ e.n < 68719477000
  ht : t < 68719476736
  hu : u ≤ 16777216
theorem BookOk.kp {S : Nat → Prop} {w w' : World} {base B : Nat} {vb vo : Value} {es : List Ent} {a t d u : Nat} (h : BookOk w base B vb vo es a t d u) (hk : Kp S w w')
    (h1 : ¬ S B) (h2 : ∀ k, vb.ownBlock = some k → ¬ S k) (h3 : ∀ k, vo.ownBlock = some k → ¬ S k) (h4 : ∀ e ∈ es, ∀ k, e.val.ownBlock = some k → ¬ S k) : BookOk w' base B vb vo es a t d u :=
  ⟨h.blk.kp hk h1, hk.owns h.hb h2, hk.owns h.ho h3, fun e he => hk.owns (h.he e he) (h4 e he), h.hs, h.hbase, h.hm, h.ht, h.hu, h.count, h.hg, h.hn⟩

theorem BookC.kp {S : Nat → Prop} {w w' : World} {base B : Nat} {vb vo : Value} {es : List Ent} {a t d u : Nat} (h : BookC w base B vb vo es a t d u) (hk : Kp S w w')
    (h1 : ¬ S B) (h2 : ∀ k, vb.ownBlock = some k → ¬ S k) (h3 : ∀ k, vo.ownBlock = some k → ¬ S k) (h4 : ∀ e ∈ es, ∀ k, e.val.ownBlock = some k → ¬ S k) : BookC w' base B vb vo es a t d u :=
  ⟨h.blk.kp hk h1, hk.owns h.hb h2, hk.owns h.ho h3, fun e he => hk.owns (h.he e he) (h4 e he), h.hs, h.hbase, h.hm, h.ht, h.hu⟩

theorem own_form {w : World} {base : Nat} {e : TypeId} {v : Value} {n : Nat} {xs : List Value} (h : w.ownsRow base e 1 v n xs) : ∃ a cap, v = .slice a n cap ∧ n ≤ cap ∧ n ≤ 9223372036854775807 ∧ ∀ j u, xs[j]? = some u → ∃ g, a = some ⟨g, 0, none⟩ ∧ w.cell? ⟨g, j, none⟩ = some u := by
  have hlen : xs.length = n := by have := h.1; omega
  rcases h.2 with ⟨rfl, h0⟩ | ⟨g, cap, cur, rfl, _, hg, h1, h2, h3, h4⟩
  · refine ⟨none, 0, by rw [h0], by omega, by omega, fun j u hu => ?_⟩
    have : xs = [] := List.length_eq_zero_iff.1 (by omega)
    rw [this] at hu
    simp at hu
  · refine ⟨some ⟨g, 0, none⟩, cap, rfl, h1, by unfold maxLen at h2; omega, fun j u hu => ⟨g, rfl, ?_⟩⟩
    have := h.cells (g := g) rfl j u hu
    have hadd : (⟨g, 0, none⟩ : Addr).add j = ⟨g, j, none⟩ := by unfold Addr.add; split <;> simp_all
    rw [hadd] at this
    exact this
end
section
open Go.RowKit
theorem Tryz.info3 : (Tryz.prog.info? 3).map (fun i => (i.zero, i.size, i.bytes)) = some (some (.int .i64 0), 1, 8) := by kernel_rfl
theorem info3_ex : ∃ i, Tryz.prog.info? 3 = some i ∧ i.zero = some (.int .i64 0) ∧ i.size = 1 ∧ i.bytes = 8 := by
  have h := Tryz.info3
  cases hi : Tryz.prog.info? 3 with
  | none => rw [hi] at h; cases h
  | some i => rw [hi] at h; simp at h; exact ⟨i, rfl, h.1, h.2.1, h.2.2⟩

theorem own_cell {w : World} {base : Nat} {e : TypeId} {g n m cap : Nat} {xs : List Value} (h : w.ownsRow base e 1 (.slice (some ⟨g, 0, none⟩) m cap) n xs) {j : Nat} {u : Value} (hu : xs[j]? = some u) : w.cell? ⟨g, j, none⟩ = some u ∧ w.frozen? ⟨g, j, none⟩ = false := by
  have := h.cells (g := g) rfl j u hu
  have hadd : (⟨g, 0, none⟩ : Addr).add j = ⟨g, j, none⟩ := by unfold Addr.add; split <;> simp_all
  rw [hadd] at this
  obtain ⟨cur, hcur⟩ := own_block_type h (k := g) rfl
  exact ⟨this, blk_frozen j hcur⟩
end
section
open Go.RowKit
/-! ### Heads, plainly -/
def hinfo (n : Nat) : Nat := if n < 24 then n else if n < 256 then 24 else if n < 65536 then 25 else if n < 4294967296 then 26 else 27
def hwide (i : Nat) : Nat := if i = 24 then 1 else if i = 25 then 2 else if i = 26 then 4 else if i = 27 then 8 else 0
/-- A number in so many bytes, the highest first. -/
def be : Nat → Nat → List Nat
  | 0, _ => []
  | k + 1, n => (n / 256 ^ k % 256) :: be k n
def hl (m n : Nat) : List Nat := (32 * m + hinfo n) :: be (hwide (hinfo n)) n
def hlay (m : Int) (n : Nat) : List Nat := if 0 ≤ m ∧ m ≤ 7 then hl m.toNat n else []
def hsize (n : Nat) : Nat := 1 + hwide (hinfo n)
/-- The number that bytes are, the highest first. -/
def bnum : Nat → List Nat → Nat
  | a, [] => a
  | a, x :: r => bnum (256 * a + x) r

structure HR where
  m : Nat
  i : Nat
  n : Nat
  u : Nat
  s : Bool
  e : Nat
def HR.bad (e : Nat) : HR := ⟨0, 0, 0, 0, false, e⟩
def HR.val (r : HR) : Value := .agg #[.int .i64 (r.m : Nat), .int .i64 (r.i : Nat), .int .u64 (r.n : Nat), .int .i64 (r.u : Nat), .bool r.s]
def hrd : List Nat → HR
  | [] => .bad 20
  | x :: r =>
    if 27 < x % 32 then (if x % 32 = 31 ∧ x / 32 ≠ 0 ∧ x / 32 ≠ 1 ∧ x / 32 ≠ 6 then ⟨x / 32, 31, 0, 1, true, 0⟩ else .bad 21)
    else if x % 32 < 24 then ⟨x / 32, x % 32, x % 32, 1, true, 0⟩
    else if r.length < hwide (x % 32) then .bad 20
    else if x / 32 = 7 ∧ x % 32 = 24 ∧ bnum 0 (r.take (hwide (x % 32))) < 32 then .bad 21
    else ⟨x / 32, x % 32, bnum 0 (r.take (hwide (x % 32))), 1 + hwide (x % 32), decide (x / 32 = 7) || decide (1 + hwide (x % 32) = hsize (bnum 0 (r.take (hwide (x % 32))))), 0⟩

theorem hinfo_cases (n : Nat) : (n < 24 ∧ hinfo n = n) ∨ (24 ≤ n ∧ n < 256 ∧ hinfo n = 24) ∨ (256 ≤ n ∧ n < 65536 ∧ hinfo n = 25) ∨ (65536 ≤ n ∧ n < 4294967296 ∧ hinfo n = 26) ∨ (4294967296 ≤ n ∧ hinfo n = 27) := by
  unfold hinfo
  by_cases h1 : n < 24
  · rw [if_pos h1]; omega
  · rw [if_neg h1]
    by_cases h2 : n < 256
    · rw [if_pos h2]; omega
    · rw [if_neg h2]
      by_cases h3 : n < 65536
      · rw [if_pos h3]; omega
      · rw [if_neg h3]
        by_cases h4 : n < 4294967296
        · rw [if_pos h4]; omega
        · rw [if_neg h4]; omega
theorem hwide_small {i : Nat} (h : i < 24) : hwide i = 0 := by
  unfold hwide
  rw [if_neg (by omega), if_neg (by omega), if_neg (by omega), if_neg (by omega)]
theorem be_len : ∀ k n, (be k n).length = k
  | 0, _ => rfl
  | k + 1, n => by simp [be, be_len k n]
theorem be_byte : ∀ k n x, x ∈ be k n → x < 256
  | 0, _, _, h => by simp [be] at h
  | k + 1, n, x, h => by
    rcases List.mem_cons.1 h with h | h
    · subst h; exact Nat.mod_lt _ (by decide)
    · exact be_byte k n x h
theorem hinfo_lt (n : Nat) : hinfo n < 28 := by unfold hinfo; repeat (first | omega | split)
theorem hwide_le (i : Nat) : hwide i ≤ 8 := by unfold hwide; repeat (first | omega | split)
theorem hl_len (m n : Nat) : (hl m n).length = hsize n := by simp [hl, hsize, be_len]; omega
theorem hl_byte (m n : Nat) (h : m ≤ 7) : ∀ x ∈ hl m n, x < 256 := by
  intro x hx
  rcases List.mem_cons.1 hx with hx | hx
  · have := hinfo_lt n; omega
  · exact be_byte _ _ _ hx
theorem hrd_info {x : Nat} {r : List Nat} (h : 27 < x % 32) (h' : ¬ (x % 32 = 31 ∧ x / 32 ≠ 0 ∧ x / 32 ≠ 1 ∧ x / 32 ≠ 6)) : hrd (x :: r) = .bad 21 := by
  simp only [hrd]
  rw [if_pos h, if_neg h']
theorem hrd_end {x : Nat} {r : List Nat} (h : x % 32 = 31) (h' : x / 32 ≠ 0 ∧ x / 32 ≠ 1 ∧ x / 32 ≠ 6) : hrd (x :: r) = ⟨x / 32, 31, 0, 1, true, 0⟩ := by
  simp only [hrd]
  rw [if_pos (by omega), if_pos ⟨h, h'⟩]
theorem hrd_small {x : Nat} {r : List Nat} (h : x % 32 < 24) : hrd (x :: r) = ⟨x / 32, x % 32, x % 32, 1, true, 0⟩ := by
  simp only [hrd]
  rw [if_neg (by omega), if_pos h]
theorem hrd_short {x : Nat} {r : List Nat} (h0 : 24 ≤ x % 32) (h1 : x % 32 ≤ 27) (h : r.length < hwide (x % 32)) : hrd (x :: r) = .bad 20 := by
  simp only [hrd]
  rw [if_neg (by omega), if_neg (by omega), if_pos h]
theorem hrd_low {x : Nat} {r : List Nat} (h1 : x % 32 = 24) (h : ¬ r.length < hwide (x % 32)) (hm : x / 32 = 7) (hn : bnum 0 (r.take (hwide (x % 32))) < 32) : hrd (x :: r) = .bad 21 := by
  simp only [hrd]
  rw [if_neg (by omega), if_neg (by omega), if_neg h, if_pos ⟨hm, h1, hn⟩]
theorem hrd_long {x : Nat} {r : List Nat} (h0 : 24 ≤ x % 32) (h1 : x % 32 ≤ 27) (h : ¬ r.length < hwide (x % 32)) (hn : ¬ (x / 32 = 7 ∧ x % 32 = 24 ∧ bnum 0 (r.take (hwide (x % 32))) < 32)) :
    hrd (x :: r) = ⟨x / 32, x % 32, bnum 0 (r.take (hwide (x % 32))), 1 + hwide (x % 32), decide (x / 32 = 7) || decide (1 + hwide (x % 32) = hsize (bnum 0 (r.take (hwide (x % 32))))), 0⟩ := by
  simp only [hrd]
  rw [if_neg (by omega), if_neg (by omega), if_neg h, if_neg hn]
theorem bnum_snoc : ∀ (a : Nat) (l : List Nat) (x : Nat), bnum a (l ++ [x]) = 256 * bnum a l + x
  | _, [], _ => rfl
  | a, y :: l, x => by simp only [List.cons_append, bnum]; exact bnum_snoc _ l x
theorem bnum_lt : ∀ (l : List Nat) (a : Nat), (∀ x ∈ l, x < 256) → bnum a l < (a + 1) * 256 ^ l.length
  | [], a, _ => by simp [bnum]
  | y :: l, a, h => by
    simp only [bnum, List.length_cons]
    have h1 := bnum_lt l (256 * a + y) (fun x hx => h x (List.mem_cons_of_mem _ hx))
    have h2 := h y (by simp)
    have h3 : (256 * a + y + 1) * 256 ^ l.length ≤ (256 * (a + 1)) * 256 ^ l.length := Nat.mul_le_mul_right _ (by omega)
    have h4 : (a + 1) * 256 ^ (l.length + 1) = (256 * (a + 1)) * 256 ^ l.length := by rw [Nat.pow_succ]; simp only [Nat.mul_assoc, Nat.mul_comm]
    omega
theorem take_snoc (l : List Nat) (j : Nat) (h : j < l.length) : l.take (j + 1) = l.take j ++ [l.getD j 0] := by
  rw [List.take_succ_eq_append_getElem h]
  simp [List.getD, h]
end
section
open Go.RowKit Go
/-- The number that digits make, the first one the highest. -/
def valB (b : Nat) (l : List Nat) : Nat := l.foldl (fun r d => r * b + d) 0
theorem foldl_shift (b : Nat) : ∀ (l : List Nat) (r : Nat), l.foldl (fun r d => r * b + d) r = r * b ^ l.length + valB b l
  | [], r => by simp [valB]
  | d :: l, r => by
    have h1 := foldl_shift b l (r * b + d)
    have h2 := foldl_shift b l (0 * b + d)
    simp only [List.foldl_cons, List.length_cons, valB] at *
    rw [h1, h2, Nat.zero_mul, Nat.zero_add, Nat.pow_succ, Nat.add_mul]
    have e : r * b * b ^ l.length = r * (b ^ l.length * b) := by rw [Nat.mul_assoc, Nat.mul_comm b]
    omega
theorem valB_cons (b d : Nat) (l : List Nat) : valB b (d :: l) = d * b ^ l.length + valB b l := by
  have h := foldl_shift b l (0 * b + d)
  unfold valB at *
  rw [List.foldl_cons, h, Nat.zero_mul, Nat.zero_add]
theorem valB_lt {b : Nat} (hb : 0 < b) : ∀ {l : List Nat}, (∀ d ∈ l, d < b) → valB b l < b ^ l.length
  | [], _ => by simp [valB]
  | d :: l, h => by
    have ih := valB_lt hb (l := l) (fun x hx => h x (List.mem_cons_of_mem _ hx))
    have hd := h d (by simp)
    rw [valB_cons, List.length_cons, Nat.pow_succ]
    have : (d + 1) * b ^ l.length ≤ b * b ^ l.length := Nat.mul_le_mul_right _ hd
    rw [Nat.add_mul, Nat.one_mul] at this
    rw [Nat.mul_comm (b ^ l.length) b]
    omega
/-- A number's digits, the highest first, none of 0. -/
def digB (b n : Nat) : List Nat := if _h : n = 0 ∨ b < 2 then [] else digB b (n / b) ++ [n % b]
termination_by n
decreasing_by exact Nat.div_lt_self (by omega) (by omega)
/-- Digits of one base in another one: a 0 for each 0 at the front, then the number. -/
def conv (a b : Nat) (l : List Nat) : List Nat := List.replicate (l.takeWhile (· == 0)).length 0 ++ digB b (valB a (l.dropWhile (· == 0)))
/-- A number's lowest w bits, the highest first. -/
def bitsW (w x : Nat) : List Nat := (List.range w).map fun k => x / 2 ^ (w - 1 - k) % 2
theorem bitsW_len (w x : Nat) : (bitsW w x).length = w := by simp [bitsW]
theorem bitsW_succ (w x : Nat) : bitsW (w + 1) x = x / 2 ^ w % 2 :: bitsW w x := by
  unfold bitsW
  rw [List.range_succ_eq_map, List.map_cons, List.map_map]
  congr 1
  refine List.map_congr_left fun k hk => ?_
  have := List.mem_range.1 hk
  simp only [Function.comp]
  congr 3
  omega
theorem bitsW_valB : ∀ (l : List Nat), (∀ d ∈ l, d < 2) → bitsW l.length (valB 2 l) = l
  | [], _ => rfl
  | d :: l, h => by
    have hd := h d (by simp)
    have hl : ∀ x ∈ l, x < 2 := fun x hx => h x (List.mem_cons_of_mem _ hx)
    have hv := valB_lt (b := 2) (by decide) hl
    rw [List.length_cons, bitsW_succ, valB_cons]
    have e1 : (d * 2 ^ l.length + valB 2 l) / 2 ^ l.length % 2 = d := by
      rw [Nat.mul_comm, Nat.mul_add_div (Nat.pow_pos (by decide)), Nat.div_eq_of_lt hv, Nat.add_zero, Nat.mod_eq_of_lt hd]
    have e2 : bitsW l.length (d * 2 ^ l.length + valB 2 l) = bitsW l.length (valB 2 l) := by
      unfold bitsW
      refine List.map_congr_left fun k hk => ?_
      have hk := List.mem_range.1 hk
      have e3 : d * 2 ^ l.length = 2 ^ (l.length - 1 - k) * (2 * (d * 2 ^ k)) := by
        have : 2 ^ l.length = 2 ^ (l.length - 1 - k) * (2 * 2 ^ k) := by
          rw [← Nat.pow_succ', ← Nat.pow_add]
          congr 1
          omega
        rw [this]
        ac_rfl
      rw [e3, Nat.mul_add_div (Nat.pow_pos (by decide)), Nat.add_mod, Nat.mul_mod_right, Nat.zero_add, Nat.mod_mod]
    rw [e1, e2, bitsW_valB l hl]
theorem flat_len (w : Nat) (b : List Nat) : (b.flatMap (bitsW w)).length = b.length * w := by
  induction b with
  | nil => simp
  | cons x b ih => rw [List.flatMap_cons, List.length_append, ih, bitsW_len, List.length_cons, Nat.add_mul, Nat.one_mul]; omega
end
section
open Go.RowKit
/-! ### SHA-256, plainly -/
def rt (x n : Nat) : Nat := x / 2 ^ n + x % 2 ^ n * 2 ^ (32 - n)
def kk : List Nat := [0x428a2f98, 0x71374491, 0xb5c0fbcf, 0xe9b5dba5, 0x3956c25b, 0x59f111f1, 0x923f82a4, 0xab1c5ed5,
  0xd807aa98, 0x12835b01, 0x243185be, 0x550c7dc3, 0x72be5d74, 0x80deb1fe, 0x9bdc06a7, 0xc19bf174,
  0xe49b69c1, 0xefbe4786, 0x0fc19dc6, 0x240ca1cc, 0x2de92c6f, 0x4a7484aa, 0x5cb0a9dc, 0x76f988da,
  0x983e5152, 0xa831c66d, 0xb00327c8, 0xbf597fc7, 0xc6e00bf3, 0xd5a79147, 0x06ca6351, 0x14292967,
  0x27b70a85, 0x2e1b2138, 0x4d2c6dfc, 0x53380d13, 0x650a7354, 0x766a0abb, 0x81c2c92e, 0x92722c85,
  0xa2bfe8a1, 0xa81a664b, 0xc24b8b70, 0xc76c51a3, 0xd192e819, 0xd6990624, 0xf40e3585, 0x106aa070,
  0x19a4c116, 0x1e376c08, 0x2748774c, 0x34b0bcb5, 0x391c0cb3, 0x4ed8aa4a, 0x5b9cca4f, 0x682e6ff3,
  0x748f82ee, 0x78a5636f, 0x84c87814, 0x8cc70208, 0x90befffa, 0xa4506ceb, 0xbef9a3f7, 0xc67178f2]
def hh : List Nat := [0x6a09e667, 0xbb67ae85, 0x3c6ef372, 0xa54ff53a, 0x510e527f, 0x9b05688c, 0x1f83d9ab, 0x5be0cd19]
end
section
open Go.RowKit

end
section
open Go.RowKit
/-- Words as cells. -/
def wv (l : List Nat) : List Value := l.map fun x => Value.int .u32 ((x : Nat) : Int)
theorem results_one {fn : Func} {p : Tmp} {ty : TypeId} (h : fn.results = #[.cell p ty]) (tmps : Array Value) (P : Program) (w : World) :
    (results fn tmps).run P w = ((asAddr (tmps.getD p undef)).run P w).andThen fun a w₁ => (loadVar ty a).run P w₁ := by
  simp only [results, h]
  simp [Sem.run_bind, Result.andThen]
end
section
open Go.RowKit

end
section
open Go.RowKit

end
section
open Go.RowKit
/-! ### The landed digest: words -/
end
section
open Go.RowKit
/-! ### Eq -/
set_option maxRecDepth 1000000 in
set_option maxHeartbeats 400000 in
theorem eq_any (w : World) (v1 v2 : Value) (xs ys : List Nat) (h1 : BSl w v1 xs) (h2 : BSl w v2 ys) :
    Calls Tryz.prog 40 #[v1, v2] w fun e w' => e = .returned (.bool (decide (xs = ys))) ∧ Kp (fun _ => False) w w' := by
  have H1 := hide h1
  have H2 := hide h2
  obtain ⟨⟨a1, cap1, rfl, _, hc1⟩, hm1, _⟩ := h1
  obtain ⟨⟨a2, cap2, rfl, _, hc2⟩, hm2, _⟩ := h2
  have HC1 := hide hc1
  have HC2 := hide hc2
  clear hc1 hc2
  by_cases hlen : xs.length = ys.length
  · have hne : ((xs.length : Int) != (ys.length : Int)) = false := by simp [hlen]
    have HLN := hide hlen
    clear hlen
    go_enter Tryz.func40, Tryz.ntmps40
    go_wp2
    go_loopw [5] (fun i wr => ∃ k : Nat, k ≤ xs.length ∧ i = .int .i64 k ∧ Kp (fun _ => False) w wr ∧ xs.take k = ys.take k) (fun i _ => xs.length - (intOf i).toNat)
    case atStart => exact ⟨0, Nat.zero_le _, rfl, Kp.refl _ _, by simp⟩
    case round =>
      obtain ⟨k, hk, rfl, hkp, htk⟩ := hrel
      have HK := hide hkp
      have HTK := hide htk
      clear hkp htk
      by_cases hlt : k < xs.length
      · have hlt' : (k : Int) < (xs.length : Int) := by omega
        have hlty : k < ys.length := by have := HLN.out; omega
        have hlty' : (k : Int) < (ys.length : Int) := by omega
        rcases HC1.out with h | ⟨b1, o1, rfl, hcc1⟩
        · rw [h] at hlt; simp at hlt
        rcases HC2.out with h | ⟨b2, o2, rfl, hcc2⟩
        · rw [h] at hlty; simp at hlty
        have cc1 := HK.out.cell (hcc1 k hlt) (by simp)
        have cc2 := HK.out.cell (hcc2 k hlty) (by simp)
        have hs1 : xs.take (k + 1) = xs.take k ++ [xs.getD k 0] := by rw [List.take_succ_eq_append_getElem hlt]; simp [List.getD, hlt]
        have hs2 : ys.take (k + 1) = ys.take k ++ [ys.getD k 0] := by rw [List.take_succ_eq_append_getElem hlty]; simp [List.getD, hlty]
        have HS1 := hide hs1
        have HS2 := hide hs2
        clear hcc1 hcc2 hs1 hs2
        by_cases hxy : xs.getD k 0 = ys.getD k 0
        · have hxy' : (((xs.getD k 0 : Nat) : Int) != ((ys.getD k 0 : Nat) : Int)) = false := by rw [hxy]; simp
          have HXY := hide hxy
          clear hxy
          generalize xs.getD k 0 = x at *
          generalize ys.getD k 0 = y at *
          go_wp2
          go_quiet (fail)
          go_wp2
          go_roundw
          case rel => exact ⟨k + 1, by omega, by go_num, HK.out.drewN _, by rw [HS1.out, HS2.out, HTK.out, HXY.out]⟩
          case measure => simp [intOf]; omega
        · have hxy' : (((xs.getD k 0 : Nat) : Int) != ((ys.getD k 0 : Nat) : Int)) = true := bne_iff_ne.2 (by omega)
          have hd : decide (xs = ys) = false := decide_eq_false (fun e => hxy (by rw [e]))
          have HD := hide hd
          clear hxy hd
          generalize xs.getD k 0 = x at *
          generalize ys.getD k 0 = y at *
          go_wp2
          go_quiet (fail)
          go_wp2
          go_ret
          exact ⟨by rw [HD.out]; rfl, HK.out.drewN _⟩
      · have hlt' : ¬ (k : Int) < (xs.length : Int) := by omega
        have hd : decide (xs = ys) = true := decide_eq_true (by
          have h := HTK.out
          rw [List.take_of_length_le (by omega), List.take_of_length_le (by have := HLN.out; omega)] at h
          exact h)
        have HD := hide hd
        clear hd
        go_wp2
        go_ret
        exact ⟨by rw [HD.out]; rfl, HK.out⟩
  · have hne : ((xs.length : Int) != (ys.length : Int)) = true := bne_iff_ne.2 (by omega)
    have hd : decide (xs = ys) = false := decide_eq_false (fun e => hlen (by rw [e]))
    rw [hd]
    clear hlen hd
    go_enter Tryz.func40, Tryz.ntmps40
    go_wp2
    go_ret
    exact ⟨rfl, Kp.refl _ _⟩
end
section
open Go.RowKit

end
end Go.Proofs.YtadilnmkjcmnnaaGreatDoor

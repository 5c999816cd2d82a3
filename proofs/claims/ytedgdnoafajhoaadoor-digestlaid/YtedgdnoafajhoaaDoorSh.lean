import Derived.Test.YtedgdnoafajhoaaDoorBkc
namespace Go.Proofs.YtedgdnoafajhoaaDoor
open Go.RowKit

/-! ### SHA-256, plainly -/
/-- A number in so many bytes, the highest first. -/
def beb : Nat → Nat → List Nat
  | 0, _ => []
  | k + 1, n => (n / 256 ^ k % 256) :: beb k n
theorem beb_len : ∀ k n, (beb k n).length = k
  | 0, _ => rfl
  | k + 1, n => by simp [beb, beb_len k n]
theorem beb_byte : ∀ k n x, x ∈ beb k n → x < 256
  | 0, _, _, h => by simp [beb] at h
  | k + 1, n, x, h => by
    rcases List.mem_cons.1 h with h | h
    · subst h; exact Nat.mod_lt _ (by decide)
    · exact beb_byte k n x h
def rt (x n : Nat) : Nat := x / 2 ^ n + x % 2 ^ n * 2 ^ (32 - n)
def ls0 (x : Nat) : Nat := rt x 7 ^^^ rt x 18 ^^^ x / 8
def ls1 (x : Nat) : Nat := rt x 17 ^^^ rt x 19 ^^^ x / 1024
def us0 (x : Nat) : Nat := rt x 2 ^^^ rt x 13 ^^^ rt x 22
def us1 (x : Nat) : Nat := rt x 6 ^^^ rt x 11 ^^^ rt x 25
def cho (e f g : Nat) : Nat := (e &&& f) ^^^ ((4294967295 - e) &&& g)
def maj (a b c : Nat) : Nat := (a &&& b) ^^^ (a &&& c) ^^^ (b &&& c)
def kk : List Nat := [0x428a2f98, 0x71374491, 0xb5c0fbcf, 0xe9b5dba5, 0x3956c25b, 0x59f111f1, 0x923f82a4, 0xab1c5ed5,
  0xd807aa98, 0x12835b01, 0x243185be, 0x550c7dc3, 0x72be5d74, 0x80deb1fe, 0x9bdc06a7, 0xc19bf174,
  0xe49b69c1, 0xefbe4786, 0x0fc19dc6, 0x240ca1cc, 0x2de92c6f, 0x4a7484aa, 0x5cb0a9dc, 0x76f988da,
  0x983e5152, 0xa831c66d, 0xb00327c8, 0xbf597fc7, 0xc6e00bf3, 0xd5a79147, 0x06ca6351, 0x14292967,
  0x27b70a85, 0x2e1b2138, 0x4d2c6dfc, 0x53380d13, 0x650a7354, 0x766a0abb, 0x81c2c92e, 0x92722c85,
  0xa2bfe8a1, 0xa81a664b, 0xc24b8b70, 0xc76c51a3, 0xd192e819, 0xd6990624, 0xf40e3585, 0x106aa070,
  0x19a4c116, 0x1e376c08, 0x2748774c, 0x34b0bcb5, 0x391c0cb3, 0x4ed8aa4a, 0x5b9cca4f, 0x682e6ff3,
  0x748f82ee, 0x78a5636f, 0x84c87814, 0x8cc70208, 0x90befffa, 0xa4506ceb, 0xbef9a3f7, 0xc67178f2]
def hh : List Nat := [0x6a09e667, 0xbb67ae85, 0x3c6ef372, 0xa54ff53a, 0x510e527f, 0x9b05688c, 0x1f83d9ab, 0x5be0cd19]
/-- t and u of a round. -/
def rT (v : List Nat) (k w : Nat) : Nat := (v.getD 7 0 + us1 (v.getD 4 0) + cho (v.getD 4 0) (v.getD 5 0) (v.getD 6 0) + k + w) % 4294967296
def rU (v : List Nat) : Nat := (us0 (v.getD 0 0) + maj (v.getD 0 0) (v.getD 1 0) (v.getD 2 0)) % 4294967296
def rnd (v : List Nat) (k w : Nat) : List Nat := [(rT v k w + rU v) % 4294967296, v.getD 0 0, v.getD 1 0, v.getD 2 0, (v.getD 3 0 + rT v k w) % 4294967296, v.getD 4 0, v.getD 5 0, v.getD 6 0]
def wrd (l : List Nat) (p : Nat) : Nat := ((l.getD p 0 * 256 + l.getD (p + 1) 0) * 256 + l.getD (p + 2) 0) * 256 + l.getD (p + 3) 0
def nextW (l : List Nat) (n : Nat) : Nat := (ls1 (l.getD (n - 2) 0) + l.getD (n - 7) 0 + ls0 (l.getD (n - 15) 0) + l.getD (n - 16) 0) % 4294967296
/-- The first n words of a block that begins at p. -/
def wl (b : List Nat) (p : Nat) : Nat → List Nat
  | 0 => []
  | n + 1 => wl b p n ++ [if n < 16 then wrd b (p + 4 * n) else nextW (wl b p n) n]
/-- The state in the midst of a block. -/
def rl (b : List Nat) (p : Nat) (s : List Nat) : Nat → List Nat
  | 0 => s
  | n + 1 => rnd (rl b p s n) (kk.getD n 0) ((wl b p (n + 1)).getD n 0)
def cmp (b : List Nat) (p : Nat) (s : List Nat) : List Nat := List.zipWith (fun x y => (x + y) % 4294967296) s (rl b p s 64)
/-- The state behind n blocks. -/
def abs (b s : List Nat) : Nat → List Nat
  | 0 => s
  | n + 1 => cmp b (64 * n) (abs b s n)
def zer (n : Nat) : Nat := (119 - n % 64) % 64
def pad (b : List Nat) : List Nat := b ++ [128] ++ List.replicate (zer b.length) 0 ++ beb 8 (8 * b.length)
def outb (s : List Nat) : List Nat := s.flatMap (beb 4)
def sha (b : List Nat) : List Nat := outb (abs (pad b) hh ((pad b).length / 64))

theorem sha_abc : sha [97, 98, 99] = [0xba, 0x78, 0x16, 0xbf, 0x8f, 0x01, 0xcf, 0xea, 0x41, 0x41, 0x40, 0xde, 0x5d, 0xae, 0x22, 0x23, 0xb0, 0x03, 0x61, 0xa3, 0x96, 0x17, 0x7a, 0x9c, 0xb4, 0x10, 0xff, 0x61, 0xf2, 0x00, 0x15, 0xad] := by decide +kernel

theorem rt_lt {x n : Nat} (hx : x < 4294967296) (hn : n ≤ 32) : rt x n < 4294967296 := by
  unfold rt
  have hp : 0 < 2 ^ n := Nat.pow_pos (by decide)
  have hq : 0 < 2 ^ (32 - n) := Nat.pow_pos (by decide)
  have he : 2 ^ n * 2 ^ (32 - n) = 4294967296 := by rw [← Nat.pow_add]; have : n + (32 - n) = 32 := by omega
                                                    rw [this]
  have h1 : x / 2 ^ n < 2 ^ (32 - n) := by rw [Nat.div_lt_iff_lt_mul hp, Nat.mul_comm, he]; exact hx
  have h2 : x % 2 ^ n + 1 ≤ 2 ^ n := Nat.mod_lt _ hp
  have h3 : (x % 2 ^ n + 1) * 2 ^ (32 - n) ≤ 2 ^ n * 2 ^ (32 - n) := Nat.mul_le_mul_right _ h2
  rw [he, Nat.add_mul, Nat.one_mul] at h3
  omega
theorem xor_lt {a b : Nat} (ha : a < 4294967296) (hb : b < 4294967296) : a ^^^ b < 4294967296 := Nat.xor_lt_two_pow (n := 32) ha hb
theorem and_lt {a b : Nat} (ha : a < 4294967296) : a &&& b < 4294967296 := Nat.lt_of_le_of_lt Nat.and_le_left ha
theorem us0_lt {x : Nat} (h : x < 4294967296) : us0 x < 4294967296 := xor_lt (xor_lt (rt_lt h (by decide)) (rt_lt h (by decide))) (rt_lt h (by decide))
theorem us1_lt {x : Nat} (h : x < 4294967296) : us1 x < 4294967296 := xor_lt (xor_lt (rt_lt h (by decide)) (rt_lt h (by decide))) (rt_lt h (by decide))
theorem ls0_lt {x : Nat} (h : x < 4294967296) : ls0 x < 4294967296 := xor_lt (xor_lt (rt_lt h (by decide)) (rt_lt h (by decide))) (by omega)
theorem ls1_lt {x : Nat} (h : x < 4294967296) : ls1 x < 4294967296 := xor_lt (xor_lt (rt_lt h (by decide)) (rt_lt h (by decide))) (by omega)
theorem cho_lt {e f g : Nat} (h : e < 4294967296) : cho e f g < 4294967296 := xor_lt (and_lt h) (and_lt (by omega))
theorem maj_lt {a b c : Nat} (ha : a < 4294967296) (hb : b < 4294967296) : maj a b c < 4294967296 := xor_lt (xor_lt (and_lt ha) (and_lt ha)) (and_lt hb)
theorem wl_len (b : List Nat) (p : Nat) : ∀ n, (wl b p n).length = n
  | 0 => rfl
  | n + 1 => by simp [wl, wl_len b p n]
theorem getD_app {l : List Nat} {x j : Nat} (h : j < l.length) : (l ++ [x]).getD j 0 = l.getD j 0 := by
  simp [List.getD, List.getElem?_append_left h]
theorem getD_last {l : List Nat} {x n : Nat} (h : l.length = n) : (l ++ [x]).getD n 0 = x := by
  subst h; simp [List.getD]
theorem wl_get (b : List Nat) (p : Nat) : ∀ n m j, j < n → n ≤ m → (wl b p m).getD j 0 = (wl b p n).getD j 0
  | n, m, j, hj, hm => by
    induction m with
    | zero => omega
    | succ m ih =>
      by_cases h : n = m + 1
      · rw [h]
      · rw [wl, getD_app (by rw [wl_len]; omega)]
        exact ih (by omega)
theorem rnd_len (v : List Nat) (k w : Nat) : (rnd v k w).length = 8 := rfl
theorem rl_len (b : List Nat) (p : Nat) (s : List Nat) (h : s.length = 8) : ∀ n, (rl b p s n).length = 8
  | 0 => h
  | _ + 1 => rfl
theorem cmp_len (b : List Nat) (p : Nat) (s : List Nat) (h : s.length = 8) : (cmp b p s).length = 8 := by
  simp [cmp, h, rl_len b p s h]
theorem abs_len (b s : List Nat) (h : s.length = 8) : ∀ n, (abs b s n).length = 8
  | 0 => h
  | n + 1 => cmp_len _ _ _ (abs_len b s h n)
end Go.Proofs.YtedgdnoafajhoaaDoor

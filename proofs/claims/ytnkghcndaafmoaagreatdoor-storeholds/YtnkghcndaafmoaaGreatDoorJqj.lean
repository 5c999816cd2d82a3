import Derived.Test.YtnkghcndaafmoaaGreatDoorJqa
import Derived.Lib.ConvBytes
import Derived.Laws.AppendOwn
import Derived.Deep.QuietTactic
import Derived.BigQuiet
import Derived.Maps.AppendAt
import Derived.Deep.RegionWith
import Derived.Deep.WholeRow
namespace Go.Proofs.YtnkghcndaafmoaaGreatDoor
section
open Go.RowKit Go
def sl (s : ByteArray) : List Nat := s.data.toList.map UInt8.toNat
theorem sl_byte (s : ByteArray) : ∀ x ∈ sl s, x < 256 := fun x hx => by
  obtain ⟨u, _, rfl⟩ := List.mem_map.1 hx
  exact u.toNat_lt
theorem sl_len (s : ByteArray) : (sl s).length = s.size := by
  unfold sl
  rw [List.length_map, Array.length_toList]
  rfl
theorem sl_get (s : ByteArray) (j : Nat) : (sl s).getD j 0 = (s.data.toList.getD j 0).toNat := by
  simp only [sl, List.getD, List.getElem?_map]
  cases s.data.toList[j]? <;> simp
theorem conv_sb (w : World) (s : ByteArray) : (convert 9 39 (.string s)).run Tryz.prog w = .ok (.slice (some ⟨w.heap.size, 0, none⟩) s.size (grownCap w s.size 0 5)) (Lib.bytesWorld w 5 s) := Lib.run_convert_string_bytes w 9 39 5 s Tryz.underlying9 Tryz.underlying39 Tryz.underlying5
theorem conv_sb_below (w : World) (s : ByteArray) : Below w.heap.size w (Lib.bytesWorld w 5 s) :=
  ⟨rfl, rfl, rfl, by rw [Lib.bytesWorld_size]; omega, fun k hk => Lib.bytesWorld_at_old w 5 s k hk⟩
theorem conv_sb_bsl (w : World) (s : ByteArray) (hs : s.size ≤ 9223372036854775807) : BSl (Lib.bytesWorld w 5 s) (.slice (some ⟨w.heap.size, 0, none⟩) s.size (grownCap w s.size 0 5)) (sl s) := by
  refine ⟨⟨_, _, by rw [sl_len], ⟨by rw [sl_len]; exact grownCap_ge w s.size 0 5, fun h => by cases h⟩, .inr ⟨w.heap.size, 0, rfl, fun j hj => ?_⟩⟩, by rw [sl_len]; exact hs, sl_byte s⟩
  rw [sl_len] at hj
  rw [Nat.zero_add, Lib.bytesWorld_cell w 5 s j hj, sl_get]
end
section
open Go.RowKit
def BkBlk (w : World) (B : Nat) (vb vo : Value) (a t d u : Nat) : Prop := w.heap[B]? = some (.cells (bookCells vb vo a t d u) 88 (0, 0))
theorem BkBlk.cell {w : World} {B : Nat} {vb vo : Value} {a t d u : Nat} (h : BkBlk w B vb vo a t d u) (j : Nat) (v : Value) (hv : (bookCells vb vo a t d u)[j]? = some v) : w.cell? ⟨B, j, none⟩ = some v := blk_cell h hv
theorem BkBlk.set {w : World} {B : Nat} {vb vo vb' vo' : Value} {a t d u a' t' d' u' : Nat} (h : BkBlk w B vb vo a t d u) (j : Nat) (v : Value) (he : (bookCells vb vo a t d u).setIfInBounds j v = bookCells vb' vo' a' t' d' u') : BkBlk (w.setCell ⟨B, j, none⟩ v) B vb' vo' a' t' d' u' := by
  unfold BkBlk
  rw [blk_set j v h, he]
end
section
open Go.RowKit
theorem own_form {w : World} {base : Nat} {e : TypeId} {v : Value} {n : Nat} {xs : List Value} (h : w.ownsRow base e 1 v n xs) : ∃ a cap, v = .slice a n cap ∧ n ≤ cap ∧ n ≤ 9223372036854775807 ∧ ∀ j u, xs[j]? = some u → ∃ g, a = some ⟨g, 0, none⟩ ∧ w.cell? ⟨g, j, none⟩ = some u := by
  have hlen : xs.length = n := by have := h.1; omega
  rcases h.2 with ⟨rfl, h0⟩ | ⟨g, cap, cur, rfl, _, hg, h1, h2, h3, h4⟩
  · refine ⟨none, 0, by rw [h0], by omega, by omega, fun j u hu => ?_⟩
    have : xs = [] := List.length_eq_zero_iff.1 (by omega)
    rw [this] at hu
    simp at hu
  · refine ⟨some ⟨g, 0, none⟩, cap, rfl, h1, by unfold maxLen at h2; omega, fun j u hu => ⟨g, rfl, ?_⟩⟩
    have := h.cells (g := g) rfl j u hu
    have hadd : (⟨g, 0, none⟩ : Addr).add j = ⟨g, j, none⟩ := by unfold Addr.add; split <;> simp_all
    rw [hadd] at this
    exact this
end
section
open Go.RowKit

end
section
open Go.RowKit
def beb : Nat → Nat → List Nat
  | 0, _ => []
  | k + 1, n => (n / 256 ^ k % 256) :: beb k n
theorem beb_len : ∀ k n, (beb k n).length = k
  | 0, _ => rfl
  | k + 1, n => by simp [beb, beb_len k n]
theorem beb_byte : ∀ k n x, x ∈ beb k n → x < 256
  | 0, _, _, h => by simp [beb] at h
  | k + 1, n, x, h => by
    rcases List.mem_cons.1 h with h | h
    · subst h; exact Nat.mod_lt _ (by decide)
    · exact beb_byte k n x h
def rt (x n : Nat) : Nat := x / 2 ^ n + x % 2 ^ n * 2 ^ (32 - n)
def ls0 (x : Nat) : Nat := rt x 7 ^^^ rt x 18 ^^^ x / 8
def ls1 (x : Nat) : Nat := rt x 17 ^^^ rt x 19 ^^^ x / 1024
def us0 (x : Nat) : Nat := rt x 2 ^^^ rt x 13 ^^^ rt x 22
def us1 (x : Nat) : Nat := rt x 6 ^^^ rt x 11 ^^^ rt x 25
def cho (e f g : Nat) : Nat := (e &&& f) ^^^ ((4294967295 - e) &&& g)
def maj (a b c : Nat) : Nat := (a &&& b) ^^^ (a &&& c) ^^^ (b &&& c)
def kk : List Nat := [0x428a2f98, 0x71374491, 0xb5c0fbcf, 0xe9b5dba5, 0x3956c25b, 0x59f111f1, 0x923f82a4, 0xab1c5ed5,
  0xd807aa98, 0x12835b01, 0x243185be, 0x550c7dc3, 0x72be5d74, 0x80deb1fe, 0x9bdc06a7, 0xc19bf174,
  0xe49b69c1, 0xefbe4786, 0x0fc19dc6, 0x240ca1cc, 0x2de92c6f, 0x4a7484aa, 0x5cb0a9dc, 0x76f988da,
  0x983e5152, 0xa831c66d, 0xb00327c8, 0xbf597fc7, 0xc6e00bf3, 0xd5a79147, 0x06ca6351, 0x14292967,
  0x27b70a85, 0x2e1b2138, 0x4d2c6dfc, 0x53380d13, 0x650a7354, 0x766a0abb, 0x81c2c92e, 0x92722c85,
  0xa2bfe8a1, 0xa81a664b, 0xc24b8b70, 0xc76c51a3, 0xd192e819, 0xd6990624, 0xf40e3585, 0x106aa070,
  0x19a4c116, 0x1e376c08, 0x2748774c, 0x34b0bcb5, 0x391c0cb3, 0x4ed8aa4a, 0x5b9cca4f, 0x682e6ff3,
  0x748f82ee, 0x78a5636f, 0x84c87814, 0x8cc70208, 0x90befffa, 0xa4506ceb, 0xbef9a3f7, 0xc67178f2]
def hh : List Nat := [0x6a09e667, 0xbb67ae85, 0x3c6ef372, 0xa54ff53a, 0x510e527f, 0x9b05688c, 0x1f83d9ab, 0x5be0cd19]
def rT (v : List Nat) (k w : Nat) : Nat := (v.getD 7 0 + us1 (v.getD 4 0) + cho (v.getD 4 0) (v.getD 5 0) (v.getD 6 0) + k + w) % 4294967296
def rU (v : List Nat) : Nat := (us0 (v.getD 0 0) + maj (v.getD 0 0) (v.getD 1 0) (v.getD 2 0)) % 4294967296
def rnd (v : List Nat) (k w : Nat) : List Nat := [(rT v k w + rU v) % 4294967296, v.getD 0 0, v.getD 1 0, v.getD 2 0, (v.getD 3 0 + rT v k w) % 4294967296, v.getD 4 0, v.getD 5 0, v.getD 6 0]
def wrd (l : List Nat) (p : Nat) : Nat := ((l.getD p 0 * 256 + l.getD (p + 1) 0) * 256 + l.getD (p + 2) 0) * 256 + l.getD (p + 3) 0
def nextW (l : List Nat) (n : Nat) : Nat := (ls1 (l.getD (n - 2) 0) + l.getD (n - 7) 0 + ls0 (l.getD (n - 15) 0) + l.getD (n - 16) 0) % 4294967296
def wl (b : List Nat) (p : Nat) : Nat → List Nat
  | 0 => []
  | n + 1 => wl b p n ++ [if n < 16 then wrd b (p + 4 * n) else nextW (wl b p n) n]
def rl (b : List Nat) (p : Nat) (s : List Nat) : Nat → List Nat
  | 0 => s
  | n + 1 => rnd (rl b p s n) (kk.getD n 0) ((wl b p (n + 1)).getD n 0)
def cmp (b : List Nat) (p : Nat) (s : List Nat) : List Nat := List.zipWith (fun x y => (x + y) % 4294967296) s (rl b p s 64)
def abs (b s : List Nat) : Nat → List Nat
  | 0 => s
  | n + 1 => cmp b (64 * n) (abs b s n)
def zer (n : Nat) : Nat := (119 - n % 64) % 64
def pad (b : List Nat) : List Nat := b ++ [128] ++ List.replicate (zer b.length) 0 ++ beb 8 (8 * b.length)
def outb (s : List Nat) : List Nat := s.flatMap (beb 4)
def sha (b : List Nat) : List Nat := outb (abs (pad b) hh ((pad b).length / 64))

theorem rt_lt {x n : Nat} (hx : x < 4294967296) (hn : n ≤ 32) : rt x n < 4294967296 := by
  unfold rt
  have hp : 0 < 2 ^ n := Nat.pow_pos (by decide)
  have hq : 0 < 2 ^ (32 - n) := Nat.pow_pos (by decide)
  have he : 2 ^ n * 2 ^ (32 - n) = 4294967296 := by rw [← Nat.pow_add]; have : n + (32 - n) = 32 := by omega
                                                    rw [this]
  have h1 : x / 2 ^ n < 2 ^ (32 - n) := by rw [Nat.div_lt_iff_lt_mul hp, Nat.mul_comm, he]; exact hx
  have h2 : x % 2 ^ n + 1 ≤ 2 ^ n := Nat.mod_lt _ hp
  have h3 : (x % 2 ^ n + 1) * 2 ^ (32 - n) ≤ 2 ^ n * 2 ^ (32 - n) := Nat.mul_le_mul_right _ h2
  rw [he, Nat.add_mul, Nat.one_mul] at h3
  omega
theorem xor_lt {a b : Nat} (ha : a < 4294967296) (hb : b < 4294967296) : a ^^^ b < 4294967296 := Nat.xor_lt_two_pow (n := 32) ha hb
theorem and_lt {a b : Nat} (ha : a < 4294967296) : a &&& b < 4294967296 := Nat.lt_of_le_of_lt Nat.and_le_left ha
theorem us0_lt {x : Nat} (h : x < 4294967296) : us0 x < 4294967296 := xor_lt (xor_lt (rt_lt h (by decide)) (rt_lt h (by decide))) (rt_lt h (by decide))
theorem us1_lt {x : Nat} (h : x < 4294967296) : us1 x < 4294967296 := xor_lt (xor_lt (rt_lt h (by decide)) (rt_lt h (by decide))) (rt_lt h (by decide))
theorem ls0_lt {x : Nat} (h : x < 4294967296) : ls0 x < 4294967296 := xor_lt (xor_lt (rt_lt h (by decide)) (rt_lt h (by decide))) (by omega)
theorem ls1_lt {x : Nat} (h : x < 4294967296) : ls1 x < 4294967296 := xor_lt (xor_lt (rt_lt h (by decide)) (rt_lt h (by decide))) (by omega)
theorem cho_lt {e f g : Nat} (h : e < 4294967296) : cho e f g < 4294967296 := xor_lt (and_lt h) (and_lt (by omega))
theorem maj_lt {a b c : Nat} (ha : a < 4294967296) (hb : b < 4294967296) : maj a b c < 4294967296 := xor_lt (xor_lt (and_lt ha) (and_lt ha)) (and_lt hb)
theorem wl_len (b : List Nat) (p : Nat) : ∀ n, (wl b p n).length = n
  | 0 => rfl
  | n + 1 => by simp [wl, wl_len b p n]
theorem getD_app {l : List Nat} {x j : Nat} (h : j < l.length) : (l ++ [x]).getD j 0 = l.getD j 0 := by
  simp [List.getD, List.getElem?_append_left h]
theorem wl_get (b : List Nat) (p : Nat) : ∀ n m j, j < n → n ≤ m → (wl b p m).getD j 0 = (wl b p n).getD j 0
  | n, m, j, hj, hm => by
    induction m with
    | zero => omega
    | succ m ih =>
      by_cases h : n = m + 1
      · rw [h]
      · rw [wl, getD_app (by rw [wl_len]; omega)]
        exact ih (by omega)
theorem rl_len (b : List Nat) (p : Nat) (s : List Nat) (h : s.length = 8) : ∀ n, (rl b p s n).length = 8
  | 0 => h
  | _ + 1 => rfl
theorem cmp_len (b : List Nat) (p : Nat) (s : List Nat) (h : s.length = 8) : (cmp b p s).length = 8 := by
  simp [cmp, h, rl_len b p s h]
theorem abs_len (b s : List Nat) (h : s.length = 8) : ∀ n, (abs b s n).length = 8
  | 0 => h
  | n + 1 => cmp_len _ _ _ (abs_len b s h n)
end
section
open Go.RowKit
set_option maxRecDepth 1000000 in
theorem refTurn_any (x n : Nat) (w : World) (hx : x < 4294967296) (hn : n = 2 ∨ n = 6 ∨ n = 7 ∨ n = 11 ∨ n = 13 ∨ n = 17 ∨ n = 18 ∨ n = 19 ∨ n = 22 ∨ n = 25) :
    Calls Tryz.prog 183 #[.int .u32 (x : Nat), .int .i64 (n : Nat)] w fun e w' => e = .returned (.int .u32 (rt x n : Nat)) ∧ w' = w := by
  have hr := rt_lt (n := n) hx (by omega)
  unfold rt at hr ⊢
  rcases hn with rfl | rfl | rfl | rfl | rfl | rfl | rfl | rfl | rfl | rfl
  · have e : ((x / 2 ^ 2 + x % 2 ^ 2 * 2 ^ (32 - 2) : Nat) : Int) = (x : Int) / 4 + (x : Int) % 4 * 1073741824 := by omega
    rw [e]
    have hb : (x : Int) / 4 + (x : Int) % 4 * 1073741824 < 4294967296 := by omega
    clear hr e
    go_enter Tryz.func183, Tryz.ntmps183
    go_wp2
    go_ret
    exact ⟨rfl, rfl⟩
  · have e : ((x / 2 ^ 6 + x % 2 ^ 6 * 2 ^ (32 - 6) : Nat) : Int) = (x : Int) / 64 + (x : Int) % 64 * 67108864 := by omega
    rw [e]
    have hb : (x : Int) / 64 + (x : Int) % 64 * 67108864 < 4294967296 := by omega
    clear hr e
    go_enter Tryz.func183, Tryz.ntmps183
    go_wp2
    go_ret
    exact ⟨rfl, rfl⟩
  · have e : ((x / 2 ^ 7 + x % 2 ^ 7 * 2 ^ (32 - 7) : Nat) : Int) = (x : Int) / 128 + (x : Int) % 128 * 33554432 := by omega
    rw [e]
    have hb : (x : Int) / 128 + (x : Int) % 128 * 33554432 < 4294967296 := by omega
    clear hr e
    go_enter Tryz.func183, Tryz.ntmps183
    go_wp2
    go_ret
    exact ⟨rfl, rfl⟩
  · have e : ((x / 2 ^ 11 + x % 2 ^ 11 * 2 ^ (32 - 11) : Nat) : Int) = (x : Int) / 2048 + (x : Int) % 2048 * 2097152 := by omega
    rw [e]
    have hb : (x : Int) / 2048 + (x : Int) % 2048 * 2097152 < 4294967296 := by omega
    clear hr e
    go_enter Tryz.func183, Tryz.ntmps183
    go_wp2
    go_ret
    exact ⟨rfl, rfl⟩
  · have e : ((x / 2 ^ 13 + x % 2 ^ 13 * 2 ^ (32 - 13) : Nat) : Int) = (x : Int) / 8192 + (x : Int) % 8192 * 524288 := by omega
    rw [e]
    have hb : (x : Int) / 8192 + (x : Int) % 8192 * 524288 < 4294967296 := by omega
    clear hr e
    go_enter Tryz.func183, Tryz.ntmps183
    go_wp2
    go_ret
    exact ⟨rfl, rfl⟩
  · have e : ((x / 2 ^ 17 + x % 2 ^ 17 * 2 ^ (32 - 17) : Nat) : Int) = (x : Int) / 131072 + (x : Int) % 131072 * 32768 := by omega
    rw [e]
    have hb : (x : Int) / 131072 + (x : Int) % 131072 * 32768 < 4294967296 := by omega
    clear hr e
    go_enter Tryz.func183, Tryz.ntmps183
    go_wp2
    go_ret
    exact ⟨rfl, rfl⟩
  · have e : ((x / 2 ^ 18 + x % 2 ^ 18 * 2 ^ (32 - 18) : Nat) : Int) = (x : Int) / 262144 + (x : Int) % 262144 * 16384 := by omega
    rw [e]
    have hb : (x : Int) / 262144 + (x : Int) % 262144 * 16384 < 4294967296 := by omega
    clear hr e
    go_enter Tryz.func183, Tryz.ntmps183
    go_wp2
    go_ret
    exact ⟨rfl, rfl⟩
  · have e : ((x / 2 ^ 19 + x % 2 ^ 19 * 2 ^ (32 - 19) : Nat) : Int) = (x : Int) / 524288 + (x : Int) % 524288 * 8192 := by omega
    rw [e]
    have hb : (x : Int) / 524288 + (x : Int) % 524288 * 8192 < 4294967296 := by omega
    clear hr e
    go_enter Tryz.func183, Tryz.ntmps183
    go_wp2
    go_ret
    exact ⟨rfl, rfl⟩
  · have e : ((x / 2 ^ 22 + x % 2 ^ 22 * 2 ^ (32 - 22) : Nat) : Int) = (x : Int) / 4194304 + (x : Int) % 4194304 * 1024 := by omega
    rw [e]
    have hb : (x : Int) / 4194304 + (x : Int) % 4194304 * 1024 < 4294967296 := by omega
    clear hr e
    go_enter Tryz.func183, Tryz.ntmps183
    go_wp2
    go_ret
    exact ⟨rfl, rfl⟩
  · have e : ((x / 2 ^ 25 + x % 2 ^ 25 * 2 ^ (32 - 25) : Nat) : Int) = (x : Int) / 33554432 + (x : Int) % 33554432 * 128 := by omega
    rw [e]
    have hb : (x : Int) / 33554432 + (x : Int) % 33554432 * 128 < 4294967296 := by omega
    clear hr e
    go_enter Tryz.func183, Tryz.ntmps183
    go_wp2
    go_ret
    exact ⟨rfl, rfl⟩

theorem refTurn_gen (x : Nat) (n : Int) (w : World) (hx : x < 4294967296) (hn : n = 2 ∨ n = 6 ∨ n = 7 ∨ n = 11 ∨ n = 13 ∨ n = 17 ∨ n = 18 ∨ n = 19 ∨ n = 22 ∨ n = 25) :
    Calls Tryz.prog 183 #[.int .u32 (x : Nat), .int .i64 n] w fun e w' => e = .returned (.int .u32 (rt x n.toNat : Nat)) ∧ w' = w := by
  obtain ⟨k, rfl⟩ := Int.eq_ofNat_of_zero_le (show 0 ≤ n by omega)
  rw [Int.toNat_natCast]
  exact refTurn_any x k w hx (by omega)
def pwd (l : List Nat) (p : Nat) : Nat → Nat
  | 0 => 0
  | j + 1 => 256 * pwd l p j + l.getD (p + j) 0
theorem pwd_lt {l : List Nat} (h : ∀ x ∈ l, x < 256) (p : Nat) : ∀ j, pwd l p j < 256 ^ j
  | 0 => by simp [pwd]
  | j + 1 => by
    have h1 := pwd_lt h p j
    have h2 := getD_lt h (p + j)
    simp only [pwd, Nat.pow_succ]
    omega
theorem pwd_four (l : List Nat) (p : Nat) : pwd l p 4 = wrd l p := by
  simp only [pwd, wrd, Nat.add_zero]
  omega
theorem wrd_lt {l : List Nat} (h : ∀ x ∈ l, x < 256) (p : Nat) : wrd l p < 4294967296 := by
  rw [← pwd_four]; exact pwd_lt h p 4

set_option maxRecDepth 1000000 in
theorem refWord_any (w : World) (v : Value) (l : List Nat) (p : Nat) (hsl : BSl w v l) (hp : p + 4 ≤ l.length) :
    Calls Tryz.prog 182 #[v, .int .i64 (p : Nat)] w fun e w' => e = .returned (.int .u32 (wrd l p : Nat)) ∧ w' = w := by
  obtain ⟨⟨a, cap, rfl, hn, hc⟩, hmax, hb⟩ := hsl
  rcases hc with hc | ⟨b, off, rfl, hc⟩
  · subst hc; simp at hp
  have HC := hide hc
  have HB := hide hb
  clear hn hc hb
  rw [← pwd_four]
  go_enter Tryz.func182, Tryz.ntmps182
  go_wp2
  go_loop [5, 6] (fun n i => ∃ j : Nat, j ≤ 4 ∧ i = .int .i64 (j : Nat) ∧ n = .int .u32 (pwd l p j : Nat)) (fun _ i => 4 - (intOf i).toNat)
  case atStart => exact ⟨0, by omega, rfl, rfl⟩
  case round =>
    obtain ⟨j, hj, rfl, rfl⟩ := hrel
    by_cases hlt : j < 4
    · have hlt' : (j : Int) < 4 := by omega
      have c : w.cell? ⟨b, off + (p + j), none⟩ = some (.int .u8 ((l.getD (p + j) 0 : Nat) : Int)) := HC.out (p + j) (by omega)
      have hy := getD_lt HB.out (p + j)
      have hN : pwd l p j < 16777216 := by
        have h1 := pwd_lt HB.out p j
        have h2 : 256 ^ j ≤ 256 ^ 3 := Nat.pow_le_pow_right (by decide) (by omega)
        simp at h2
        omega
      have HE : Hid (pwd l p (j + 1) = 256 * pwd l p j + l.getD (p + j) 0) := rfl
      generalize l.getD (p + j) 0 = y at *
      generalize pwd l p j = N at *
      have hi : (p : Int) + (j : Int) < (l.length : Int) := by omega
      go_wp2
      go_round
      case rel => exact ⟨j + 1, by omega, by go_num, by rw [HE.out]; go_num⟩
      case measure => simp [intOf]; omega
    · have hj4 : j = 4 := by omega
      subst hj4
      go_wp2
      go_ret
      exact ⟨rfl, rfl⟩
end
section
open Go.RowKit
def wv (l : List Nat) : List Value := l.map fun x => Value.int .u32 ((x : Nat) : Int)
theorem wv_len (l : List Nat) : (wv l).length = l.length := by simp [wv]
theorem wv_get {l : List Nat} {j : Nat} (h : j < l.length) : (wv l)[j]? = some (.int .u32 ((l.getD j 0 : Nat) : Int)) := by
  simp [wv, h, List.getD]
theorem wv_set (l : List Nat) (j x : Nat) : (wv l).set j (.int .u32 ((x : Nat) : Int)) = wv (l.set j x) := by
  simp [wv, List.map_set]

theorem info64 : (Tryz.prog.info? 269).map (·.size) = some (wv kk).toArray.size := by kernel_rfl
theorem results_one {fn : Func} {p : Tmp} {ty : TypeId} (h : fn.results = #[.cell p ty]) (tmps : Array Value) (P : Program) (w : World) :
    (results fn tmps).run P w = ((asAddr (tmps.getD p undef)).run P w).andThen fun a w₁ => (loadVar ty a).run P w₁ := by
  simp only [results, h]
  simp [Sem.run_bind, Result.andThen]

def evs (a : Act) (parts : Array (Nat × Operand)) : Array (Nat × Value) := parts.map fun (i, x) => (i, a.eval x)
theorem wpList_buildW {T : TypeId} {A : Array Value} {parts : Array (Nat × Operand)} {ops : Array Oper} {rest : List Oper} {o : Oper} {a : Act} {Q : Exit → Act → World → Prop} {w : World} (hgd : o.guard = none) (ho : o.op = .build T parts)
    (hb : Tryz.prog.built T (evs a parts).toList = some A)
    (h : wpList Tryz.prog ops Q rest (a.put o.dst (.agg A)) w) : wpList Tryz.prog ops Q (o :: rest) a w := by
  refine wpList_plain hgd fun K hK => ?_
  unfold Oper.wp execOp
  have hr := run_build (P := Tryz.prog) w T (evs a parts) A hb
  unfold evs at hr
  simp only [ho, Sem.run_bind, hr, Result.andThen_ok]
  exact hK _ _ h
theorem wvkk_len : (wv kk).length = 64 := by kernel_rfl
theorem store_kk (w : World) : Sem.run Tryz.prog (storeCells ⟨w.heap.size, 0, none⟩ (wv kk)) (w.alloc (.cells #[.int .u32 0, .int .u32 0, .int .u32 0, .int .u32 0, .int .u32 0, .int .u32 0, .int .u32 0, .int .u32 0, .int .u32 0, .int .u32 0, .int .u32 0, .int .u32 0, .int .u32 0, .int .u32 0, .int .u32 0, .int .u32 0, .int .u32 0, .int .u32 0, .int .u32 0, .int .u32 0, .int .u32 0, .int .u32 0, .int .u32 0, .int .u32 0, .int .u32 0, .int .u32 0, .int .u32 0, .int .u32 0, .int .u32 0, .int .u32 0, .int .u32 0, .int .u32 0, .int .u32 0, .int .u32 0, .int .u32 0, .int .u32 0, .int .u32 0, .int .u32 0, .int .u32 0, .int .u32 0, .int .u32 0, .int .u32 0, .int .u32 0, .int .u32 0, .int .u32 0, .int .u32 0, .int .u32 0, .int .u32 0, .int .u32 0, .int .u32 0, .int .u32 0, .int .u32 0, .int .u32 0, .int .u32 0, .int .u32 0, .int .u32 0, .int .u32 0, .int .u32 0, .int .u32 0, .int .u32 0, .int .u32 0, .int .u32 0, .int .u32 0, .int .u32 0] 269)) = .ok () (w.alloc (.cells (wv kk).toArray 269)) := by
  have h := run_storeCells_new (P := Tryz.prog) w 269 #[.int .u32 0, .int .u32 0, .int .u32 0, .int .u32 0, .int .u32 0, .int .u32 0, .int .u32 0, .int .u32 0, .int .u32 0, .int .u32 0, .int .u32 0, .int .u32 0, .int .u32 0, .int .u32 0, .int .u32 0, .int .u32 0, .int .u32 0, .int .u32 0, .int .u32 0, .int .u32 0, .int .u32 0, .int .u32 0, .int .u32 0, .int .u32 0, .int .u32 0, .int .u32 0, .int .u32 0, .int .u32 0, .int .u32 0, .int .u32 0, .int .u32 0, .int .u32 0, .int .u32 0, .int .u32 0, .int .u32 0, .int .u32 0, .int .u32 0, .int .u32 0, .int .u32 0, .int .u32 0, .int .u32 0, .int .u32 0, .int .u32 0, .int .u32 0, .int .u32 0, .int .u32 0, .int .u32 0, .int .u32 0, .int .u32 0, .int .u32 0, .int .u32 0, .int .u32 0, .int .u32 0, .int .u32 0, .int .u32 0, .int .u32 0, .int .u32 0, .int .u32 0, .int .u32 0, .int .u32 0, .int .u32 0, .int .u32 0, .int .u32 0, .int .u32 0] (wv kk).toArray info64 (by kernel_rfl) (by kernel_rfl)
  exact h

set_option maxRecDepth 1000000 in
set_option maxHeartbeats 4000000 in
theorem refFactor_any (w : World) : Calls Tryz.prog 181 #[] w fun e w' => e = .returned (.agg (wv kk).toArray) ∧ Below w.heap.size w w' := by
  have hst := store_kk w
  have hkl := wvkk_len
  go_enter Tryz.func181, Tryz.ntmps181
  go_wp2_with (refine wpList_buildW (A := (wv kk).toArray) rfl rfl (by kernel_rfl) ?_)
  refine bodyPost_ret (v := .agg (wv kk).toArray) ((results_one (p := 0) (ty := 269) rfl _ _ _).trans (run_loadVar_new w 269 _ 64 108 Tryz.underlying269 info64)) rfl ⟨rfl, ?_⟩
  exact (Below.refl _ _).alloc (Nat.le_refl _) _
end
end Go.Proofs.YtnkghcndaafmoaaGreatDoor

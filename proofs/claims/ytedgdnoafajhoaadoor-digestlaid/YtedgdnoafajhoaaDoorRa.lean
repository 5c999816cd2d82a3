import Derived.Test.YtedgdnoafajhoaaDoorSh
import Derived.Deep.QuietTactic
import Derived.BigQuiet
import Derived.Deep.RegionWith
namespace Go.Proofs.YtedgdnoafajhoaaDoor
open Go.RowKit

set_option maxRecDepth 1000000 in
theorem refTurn_any (x n : Nat) (w : World) (hx : x < 4294967296) (hn : n = 2 ∨ n = 6 ∨ n = 7 ∨ n = 11 ∨ n = 13 ∨ n = 17 ∨ n = 18 ∨ n = 19 ∨ n = 22 ∨ n = 25) :
    Calls Tryd.prog 58 #[.int .u32 (x : Nat), .int .i64 (n : Nat)] w fun e w' => e = .returned (.int .u32 (rt x n : Nat)) ∧ w' = w := by
  have hr := rt_lt (n := n) hx (by omega)
  unfold rt at hr ⊢
  rcases hn with rfl | rfl | rfl | rfl | rfl | rfl | rfl | rfl | rfl | rfl
  · have e : ((x / 2 ^ 2 + x % 2 ^ 2 * 2 ^ (32 - 2) : Nat) : Int) = (x : Int) / 4 + (x : Int) % 4 * 1073741824 := by omega
    rw [e]
    have hb : (x : Int) / 4 + (x : Int) % 4 * 1073741824 < 4294967296 := by omega
    clear hr e
    go_enter Tryd.func58, Tryd.ntmps58
    go_wp2
    go_ret
    exact ⟨rfl, rfl⟩
  · have e : ((x / 2 ^ 6 + x % 2 ^ 6 * 2 ^ (32 - 6) : Nat) : Int) = (x : Int) / 64 + (x : Int) % 64 * 67108864 := by omega
    rw [e]
    have hb : (x : Int) / 64 + (x : Int) % 64 * 67108864 < 4294967296 := by omega
    clear hr e
    go_enter Tryd.func58, Tryd.ntmps58
    go_wp2
    go_ret
    exact ⟨rfl, rfl⟩
  · have e : ((x / 2 ^ 7 + x % 2 ^ 7 * 2 ^ (32 - 7) : Nat) : Int) = (x : Int) / 128 + (x : Int) % 128 * 33554432 := by omega
    rw [e]
    have hb : (x : Int) / 128 + (x : Int) % 128 * 33554432 < 4294967296 := by omega
    clear hr e
    go_enter Tryd.func58, Tryd.ntmps58
    go_wp2
    go_ret
    exact ⟨rfl, rfl⟩
  · have e : ((x / 2 ^ 11 + x % 2 ^ 11 * 2 ^ (32 - 11) : Nat) : Int) = (x : Int) / 2048 + (x : Int) % 2048 * 2097152 := by omega
    rw [e]
    have hb : (x : Int) / 2048 + (x : Int) % 2048 * 2097152 < 4294967296 := by omega
    clear hr e
    go_enter Tryd.func58, Tryd.ntmps58
    go_wp2
    go_ret
    exact ⟨rfl, rfl⟩
  · have e : ((x / 2 ^ 13 + x % 2 ^ 13 * 2 ^ (32 - 13) : Nat) : Int) = (x : Int) / 8192 + (x : Int) % 8192 * 524288 := by omega
    rw [e]
    have hb : (x : Int) / 8192 + (x : Int) % 8192 * 524288 < 4294967296 := by omega
    clear hr e
    go_enter Tryd.func58, Tryd.ntmps58
    go_wp2
    go_ret
    exact ⟨rfl, rfl⟩
  · have e : ((x / 2 ^ 17 + x % 2 ^ 17 * 2 ^ (32 - 17) : Nat) : Int) = (x : Int) / 131072 + (x : Int) % 131072 * 32768 := by omega
    rw [e]
    have hb : (x : Int) / 131072 + (x : Int) % 131072 * 32768 < 4294967296 := by omega
    clear hr e
    go_enter Tryd.func58, Tryd.ntmps58
    go_wp2
    go_ret
    exact ⟨rfl, rfl⟩
  · have e : ((x / 2 ^ 18 + x % 2 ^ 18 * 2 ^ (32 - 18) : Nat) : Int) = (x : Int) / 262144 + (x : Int) % 262144 * 16384 := by omega
    rw [e]
    have hb : (x : Int) / 262144 + (x : Int) % 262144 * 16384 < 4294967296 := by omega
    clear hr e
    go_enter Tryd.func58, Tryd.ntmps58
    go_wp2
    go_ret
    exact ⟨rfl, rfl⟩
  · have e : ((x / 2 ^ 19 + x % 2 ^ 19 * 2 ^ (32 - 19) : Nat) : Int) = (x : Int) / 524288 + (x : Int) % 524288 * 8192 := by omega
    rw [e]
    have hb : (x : Int) / 524288 + (x : Int) % 524288 * 8192 < 4294967296 := by omega
    clear hr e
    go_enter Tryd.func58, Tryd.ntmps58
    go_wp2
    go_ret
    exact ⟨rfl, rfl⟩
  · have e : ((x / 2 ^ 22 + x % 2 ^ 22 * 2 ^ (32 - 22) : Nat) : Int) = (x : Int) / 4194304 + (x : Int) % 4194304 * 1024 := by omega
    rw [e]
    have hb : (x : Int) / 4194304 + (x : Int) % 4194304 * 1024 < 4294967296 := by omega
    clear hr e
    go_enter Tryd.func58, Tryd.ntmps58
    go_wp2
    go_ret
    exact ⟨rfl, rfl⟩
  · have e : ((x / 2 ^ 25 + x % 2 ^ 25 * 2 ^ (32 - 25) : Nat) : Int) = (x : Int) / 33554432 + (x : Int) % 33554432 * 128 := by omega
    rw [e]
    have hb : (x : Int) / 33554432 + (x : Int) % 33554432 * 128 < 4294967296 := by omega
    clear hr e
    go_enter Tryd.func58, Tryd.ntmps58
    go_wp2
    go_ret
    exact ⟨rfl, rfl⟩

theorem refTurn_gen (x : Nat) (n : Int) (w : World) (hx : x < 4294967296) (hn : n = 2 ∨ n = 6 ∨ n = 7 ∨ n = 11 ∨ n = 13 ∨ n = 17 ∨ n = 18 ∨ n = 19 ∨ n = 22 ∨ n = 25) :
    Calls Tryd.prog 58 #[.int .u32 (x : Nat), .int .i64 n] w fun e w' => e = .returned (.int .u32 (rt x n.toNat : Nat)) ∧ w' = w := by
  obtain ⟨k, rfl⟩ := Int.eq_ofNat_of_zero_le (show 0 ≤ n by omega)
  rw [Int.toNat_natCast]
  exact refTurn_any x k w hx (by omega)
/-- Some of the four bytes of a word. -/
def pwd (l : List Nat) (p : Nat) : Nat → Nat
  | 0 => 0
  | j + 1 => 256 * pwd l p j + l.getD (p + j) 0
theorem pwd_lt {l : List Nat} (h : ∀ x ∈ l, x < 256) (p : Nat) : ∀ j, pwd l p j < 256 ^ j
  | 0 => by simp [pwd]
  | j + 1 => by
    have h1 := pwd_lt h p j
    have h2 := getD_lt h (p + j)
    simp only [pwd, Nat.pow_succ]
    omega
theorem pwd_four (l : List Nat) (p : Nat) : pwd l p 4 = wrd l p := by
  simp only [pwd, wrd, Nat.add_zero]
  omega
theorem wrd_lt {l : List Nat} (h : ∀ x ∈ l, x < 256) (p : Nat) : wrd l p < 4294967296 := by
  rw [← pwd_four]; exact pwd_lt h p 4

set_option maxRecDepth 1000000 in
theorem refWord_any (w : World) (v : Value) (l : List Nat) (p : Nat) (hsl : BSl w v l) (hp : p + 4 ≤ l.length) :
    Calls Tryd.prog 57 #[v, .int .i64 (p : Nat)] w fun e w' => e = .returned (.int .u32 (wrd l p : Nat)) ∧ w' = w := by
  obtain ⟨⟨a, cap, rfl, hn, hc⟩, hmax, hb⟩ := hsl
  rcases hc with hc | ⟨b, off, rfl, hc⟩
  · subst hc; simp at hp
  have HC := hide hc
  have HB := hide hb
  clear hn hc hb
  rw [← pwd_four]
  go_enter Tryd.func57, Tryd.ntmps57
  go_wp2
  go_loop [5, 6] (fun n i => ∃ j : Nat, j ≤ 4 ∧ i = .int .i64 (j : Nat) ∧ n = .int .u32 (pwd l p j : Nat)) (fun _ i => 4 - (intOf i).toNat)
  case atStart => exact ⟨0, by omega, rfl, rfl⟩
  case round =>
    obtain ⟨j, hj, rfl, rfl⟩ := hrel
    by_cases hlt : j < 4
    · have hlt' : (j : Int) < 4 := by omega
      have c : w.cell? ⟨b, off + (p + j), none⟩ = some (.int .u8 ((l.getD (p + j) 0 : Nat) : Int)) := HC.out (p + j) (by omega)
      have hy := getD_lt HB.out (p + j)
      have hN : pwd l p j < 16777216 := by
        have h1 := pwd_lt HB.out p j
        have h2 : 256 ^ j ≤ 256 ^ 3 := Nat.pow_le_pow_right (by decide) (by omega)
        simp at h2
        omega
      have HE : Hid (pwd l p (j + 1) = 256 * pwd l p j + l.getD (p + j) 0) := rfl
      generalize l.getD (p + j) 0 = y at *
      generalize pwd l p j = N at *
      have hi : (p : Int) + (j : Int) < (l.length : Int) := by omega
      go_wp2
      go_round
      case rel => exact ⟨j + 1, by omega, by go_num, by rw [HE.out]; go_num⟩
      case measure => simp [intOf]; omega
    · have hj4 : j = 4 := by omega
      subst hj4
      go_wp2
      go_ret
      exact ⟨rfl, rfl⟩
end Go.Proofs.YtedgdnoafajhoaaDoor

import Derived.Test.YtedgdnoafajhoaaDoorRd
namespace Go.Proofs.YtedgdnoafajhoaaDoor
open Go.RowKit

/-! ### The landed digest: words -/
theorem rot_or (x n : Nat) (hx : x < 4294967296) (hn : n ≤ 32) (A B : Int) (hA : A = ((x * 2 ^ (32 - n) % 4294967296 : Nat) : Int)) (hB : B = ((x / 2 ^ n : Nat) : Int)) : bits .or .u32 A B = (rt x n : Nat) := by
  subst hA
  subst hB
  have he : 2 ^ n * 2 ^ (32 - n) = 4294967296 := by rw [← Nat.pow_add]; have : n + (32 - n) = 32 := by omega
                                                    rw [this]
  have hp : 0 < 2 ^ n := Nat.pow_pos (by decide)
  have h1 : x / 2 ^ n < 2 ^ (32 - n) := by rw [Nat.div_lt_iff_lt_mul hp, Nat.mul_comm, he]; exact hx
  have h2 : x * 2 ^ (32 - n) % 4294967296 = 2 ^ (32 - n) * (x % 2 ^ n) := by
    rw [← he, Nat.mul_mod_mul_right, Nat.mul_comm]
  have h3 : x * 2 ^ (32 - n) % 4294967296 < 4294967296 := Nat.mod_lt _ (by decide)
  have h4 : x / 2 ^ n < 4294967296 := Nat.lt_of_le_of_lt (Nat.div_le_self _ _) hx
  rw [u32_or_nat _ _ h3 h4, h2, ← Nat.two_pow_add_eq_or_of_lt h1]
  unfold rt
  rw [Nat.add_comm, Nat.mul_comm]

set_option maxRecDepth 1000000 in
theorem rot_any (x n : Nat) (w : World) (hx : x < 4294967296) (hn : n = 2 ∨ n = 6 ∨ n = 7 ∨ n = 11 ∨ n = 13 ∨ n = 17 ∨ n = 18 ∨ n = 19 ∨ n = 22 ∨ n = 25) :
    Calls Tryd.prog 109 #[.int .u32 (x : Nat), .int .i64 (-(n : Int))] w fun e w' => e = .returned (.int .u32 (rt x n : Nat)) ∧ w' = w := by
  rcases hn with rfl | rfl | rfl | rfl | rfl | rfl | rfl | rfl | rfl | rfl
  · have hf : bits .and .u64 (IntKind.u64.wrap (-2)) 31 = 30 := by decide
    have ho : bits .or .u32 ((x : Int) * 1073741824 % 4294967296) ((x : Int) / 4) = (rt x 2 : Nat) := rot_or x 2 hx (by decide) _ _ (by omega) (by omega)
    go_enter Tryd.func109, Tryd.ntmps109
    go_wp2_with fail
    go_ret
    exact ⟨rfl, rfl⟩
  · have hf : bits .and .u64 (IntKind.u64.wrap (-6)) 31 = 26 := by decide
    have ho : bits .or .u32 ((x : Int) * 67108864 % 4294967296) ((x : Int) / 64) = (rt x 6 : Nat) := rot_or x 6 hx (by decide) _ _ (by omega) (by omega)
    go_enter Tryd.func109, Tryd.ntmps109
    go_wp2_with fail
    go_ret
    exact ⟨rfl, rfl⟩
  · have hf : bits .and .u64 (IntKind.u64.wrap (-7)) 31 = 25 := by decide
    have ho : bits .or .u32 ((x : Int) * 33554432 % 4294967296) ((x : Int) / 128) = (rt x 7 : Nat) := rot_or x 7 hx (by decide) _ _ (by omega) (by omega)
    go_enter Tryd.func109, Tryd.ntmps109
    go_wp2_with fail
    go_ret
    exact ⟨rfl, rfl⟩
  · have hf : bits .and .u64 (IntKind.u64.wrap (-11)) 31 = 21 := by decide
    have ho : bits .or .u32 ((x : Int) * 2097152 % 4294967296) ((x : Int) / 2048) = (rt x 11 : Nat) := rot_or x 11 hx (by decide) _ _ (by omega) (by omega)
    go_enter Tryd.func109, Tryd.ntmps109
    go_wp2_with fail
    go_ret
    exact ⟨rfl, rfl⟩
  · have hf : bits .and .u64 (IntKind.u64.wrap (-13)) 31 = 19 := by decide
    have ho : bits .or .u32 ((x : Int) * 524288 % 4294967296) ((x : Int) / 8192) = (rt x 13 : Nat) := rot_or x 13 hx (by decide) _ _ (by omega) (by omega)
    go_enter Tryd.func109, Tryd.ntmps109
    go_wp2_with fail
    go_ret
    exact ⟨rfl, rfl⟩
  · have hf : bits .and .u64 (IntKind.u64.wrap (-17)) 31 = 15 := by decide
    have ho : bits .or .u32 ((x : Int) * 32768 % 4294967296) ((x : Int) / 131072) = (rt x 17 : Nat) := rot_or x 17 hx (by decide) _ _ (by omega) (by omega)
    go_enter Tryd.func109, Tryd.ntmps109
    go_wp2_with fail
    go_ret
    exact ⟨rfl, rfl⟩
  · have hf : bits .and .u64 (IntKind.u64.wrap (-18)) 31 = 14 := by decide
    have ho : bits .or .u32 ((x : Int) * 16384 % 4294967296) ((x : Int) / 262144) = (rt x 18 : Nat) := rot_or x 18 hx (by decide) _ _ (by omega) (by omega)
    go_enter Tryd.func109, Tryd.ntmps109
    go_wp2_with fail
    go_ret
    exact ⟨rfl, rfl⟩
  · have hf : bits .and .u64 (IntKind.u64.wrap (-19)) 31 = 13 := by decide
    have ho : bits .or .u32 ((x : Int) * 8192 % 4294967296) ((x : Int) / 524288) = (rt x 19 : Nat) := rot_or x 19 hx (by decide) _ _ (by omega) (by omega)
    go_enter Tryd.func109, Tryd.ntmps109
    go_wp2_with fail
    go_ret
    exact ⟨rfl, rfl⟩
  · have hf : bits .and .u64 (IntKind.u64.wrap (-22)) 31 = 10 := by decide
    have ho : bits .or .u32 ((x : Int) * 1024 % 4294967296) ((x : Int) / 4194304) = (rt x 22 : Nat) := rot_or x 22 hx (by decide) _ _ (by omega) (by omega)
    go_enter Tryd.func109, Tryd.ntmps109
    go_wp2_with fail
    go_ret
    exact ⟨rfl, rfl⟩
  · have hf : bits .and .u64 (IntKind.u64.wrap (-25)) 31 = 7 := by decide
    have ho : bits .or .u32 ((x : Int) * 128 % 4294967296) ((x : Int) / 33554432) = (rt x 25 : Nat) := rot_or x 25 hx (by decide) _ _ (by omega) (by omega)
    go_enter Tryd.func109, Tryd.ntmps109
    go_wp2_with fail
    go_ret
    exact ⟨rfl, rfl⟩

set_option maxRecDepth 1000000 in
theorem turn_any (x n : Nat) (w : World) (hx : x < 4294967296) (hn : n = 2 ∨ n = 6 ∨ n = 7 ∨ n = 11 ∨ n = 13 ∨ n = 17 ∨ n = 18 ∨ n = 19 ∨ n = 22 ∨ n = 25) :
    Calls Tryd.prog 91 #[.int .u32 (x : Nat), .int .i64 (n : Nat)] w fun e w' => e = .returned (.int .u32 (rt x n : Nat)) ∧ w' = w := by
  have hn' : n < 32 := by omega
  go_enter Tryd.func91, Tryd.ntmps91
  go_wp2_with fail
  refine (rot_any x n w hx hn).mono ?_
  rintro e w' ⟨rfl, rfl⟩
  go_wp2_with fail
  go_ret
  exact ⟨rfl, rfl⟩

set_option maxRecDepth 1000000 in
theorem smallS0_any (x : Nat) (w : World) (hx : x < 4294967296) :
    Calls Tryd.prog 90 #[.int .u32 (x : Nat)] w fun e w' => e = .returned (.int .u32 (ls0 x : Nat)) ∧ w' = w := by
  obtain ⟨A3, A4, e1, e2, _, e4⟩ := ls0_bits x hx
  rw [e4]
  go_enter Tryd.func90, Tryd.ntmps90
  go_wp2_with fail
  refine (turn_any x 7 w hx (by decide)).mono ?_
  rintro e w' ⟨rfl, rfl⟩
  go_wp2_with fail
  refine (turn_any x 18 w' hx (by decide)).mono ?_
  rintro e w' ⟨rfl, rfl⟩
  go_wp2_with fail
  go_ret
  exact ⟨rfl, rfl⟩

set_option maxRecDepth 1000000 in
theorem smallS1_any (x : Nat) (w : World) (hx : x < 4294967296) :
    Calls Tryd.prog 89 #[.int .u32 (x : Nat)] w fun e w' => e = .returned (.int .u32 (ls1 x : Nat)) ∧ w' = w := by
  obtain ⟨A3, A4, e1, e2, _, e4⟩ := ls1_bits x hx
  rw [e4]
  go_enter Tryd.func89, Tryd.ntmps89
  go_wp2_with fail
  refine (turn_any x 17 w hx (by decide)).mono ?_
  rintro e w' ⟨rfl, rfl⟩
  go_wp2_with fail
  refine (turn_any x 19 w' hx (by decide)).mono ?_
  rintro e w' ⟨rfl, rfl⟩
  go_wp2_with fail
  go_ret
  exact ⟨rfl, rfl⟩

set_option maxRecDepth 1000000 in
theorem bigS0_any (x : Nat) (w : World) (hx : x < 4294967296) :
    Calls Tryd.prog 61 #[.int .u32 (x : Nat)] w fun e w' => e = .returned (.int .u32 (us0 x : Nat)) ∧ w' = w := by
  obtain ⟨A3, A4, e1, e2, _, e4⟩ := us0_bits x hx
  rw [e4]
  go_enter Tryd.func61, Tryd.ntmps61
  go_wp2_with fail
  refine (turn_any x 2 w hx (by decide)).mono ?_
  rintro e w' ⟨rfl, rfl⟩
  go_wp2_with fail
  refine (turn_any x 13 w' hx (by decide)).mono ?_
  rintro e w' ⟨rfl, rfl⟩
  go_wp2_with fail
  refine (turn_any x 22 w' hx (by decide)).mono ?_
  rintro e w' ⟨rfl, rfl⟩
  go_wp2_with fail
  go_ret
  exact ⟨rfl, rfl⟩

set_option maxRecDepth 1000000 in
theorem bigS1_any (x : Nat) (w : World) (hx : x < 4294967296) :
    Calls Tryd.prog 60 #[.int .u32 (x : Nat)] w fun e w' => e = .returned (.int .u32 (us1 x : Nat)) ∧ w' = w := by
  obtain ⟨A3, A4, e1, e2, _, e4⟩ := us1_bits x hx
  rw [e4]
  go_enter Tryd.func60, Tryd.ntmps60
  go_wp2_with fail
  refine (turn_any x 6 w hx (by decide)).mono ?_
  rintro e w' ⟨rfl, rfl⟩
  go_wp2_with fail
  refine (turn_any x 11 w' hx (by decide)).mono ?_
  rintro e w' ⟨rfl, rfl⟩
  go_wp2_with fail
  refine (turn_any x 25 w' hx (by decide)).mono ?_
  rintro e w' ⟨rfl, rfl⟩
  go_wp2_with fail
  go_ret
  exact ⟨rfl, rfl⟩

end Go.Proofs.YtedgdnoafajhoaaDoor

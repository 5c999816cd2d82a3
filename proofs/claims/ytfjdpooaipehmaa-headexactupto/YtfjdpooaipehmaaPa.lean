import Derived.Test.YtfjdpooaipehmaaHm
import Derived.Deep.QuietTactic
import Derived.BigQuiet
import Derived.Deep.RegionWith
namespace Go.Proofs.Ytfjdpooaipehmaa
open Go.RowKit

set_option maxRecDepth 1000000 in
theorem shortest_any (n : Nat) (w : World) (hn : n < 18446744073709551616) :
    Calls Try.prog 24 #[.int .u64 (n : Nat)] w fun e w' => e = .returned (.int .i64 (hinfo n : Nat)) ∧ w' = w := by
  rcases hinfo_cases n with ⟨h, e⟩ | ⟨h1, h, e⟩ | ⟨h1, h, e⟩ | ⟨h1, h, e⟩ | ⟨h1, e⟩
  · rw [e]
    have g1 : (n : Int) < 24 := by omega
    go_enter Try.func24, Try.ntmps24
    go_wp2
    go_ret
    exact ⟨rfl, rfl⟩
  · rw [e]
    have g1 : ¬ (n : Int) < 24 := by omega
    have g2 : (n : Int) ≤ 255 := by omega
    go_enter Try.func24, Try.ntmps24
    go_wp2
    go_ret
    exact ⟨rfl, rfl⟩
  · rw [e]
    have g1 : ¬ (n : Int) < 24 := by omega
    have g2 : ¬ (n : Int) ≤ 255 := by omega
    have g3 : (n : Int) ≤ 65535 := by omega
    go_enter Try.func24, Try.ntmps24
    go_wp2
    go_ret
    exact ⟨rfl, rfl⟩
  · rw [e]
    have g1 : ¬ (n : Int) < 24 := by omega
    have g2 : ¬ (n : Int) ≤ 255 := by omega
    have g3 : ¬ (n : Int) ≤ 65535 := by omega
    have g4 : (n : Int) ≤ 4294967295 := by omega
    go_enter Try.func24, Try.ntmps24
    go_wp2
    go_ret
    exact ⟨rfl, rfl⟩
  · rw [e]
    have g1 : ¬ (n : Int) < 24 := by omega
    have g2 : ¬ (n : Int) ≤ 255 := by omega
    have g3 : ¬ (n : Int) ≤ 65535 := by omega
    have g4 : ¬ (n : Int) ≤ 4294967295 := by omega
    go_enter Try.func24, Try.ntmps24
    go_wp2
    go_ret
    exact ⟨rfl, rfl⟩

set_option maxRecDepth 1000000 in
theorem behind_any (i : Nat) (w : World) (hi : i < 32) :
    Calls Try.prog 25 #[.int .i64 (i : Nat)] w fun e w' => e = .returned (.int .i64 (hwide i : Nat)) ∧ w' = w := by
  by_cases h27 : i = 27
  · subst h27
    go_enter Try.func25, Try.ntmps25
    go_wp2
    go_ret
    exact ⟨rfl, rfl⟩
  · by_cases h26 : i = 26
    · subst h26
      go_enter Try.func25, Try.ntmps25
      go_wp2
      go_ret
      exact ⟨rfl, rfl⟩
    · by_cases h25 : i = 25
      · subst h25
        go_enter Try.func25, Try.ntmps25
        go_wp2
        go_ret
        exact ⟨rfl, rfl⟩
      · by_cases h24 : i = 24
        · subst h24
          go_enter Try.func25, Try.ntmps25
          go_wp2
          go_ret
          exact ⟨rfl, rfl⟩
        · have e : hwide i = 0 := by unfold hwide; rw [if_neg h24, if_neg h25, if_neg h26, if_neg h27]
          rw [e]
          have g27 : ((i : Int) == 27) = false := beq_eq_false_iff_ne.2 (by omega)
          have g26 : ((i : Int) == 26) = false := beq_eq_false_iff_ne.2 (by omega)
          have g25 : ((i : Int) == 25) = false := beq_eq_false_iff_ne.2 (by omega)
          have g24 : ((i : Int) == 24) = false := beq_eq_false_iff_ne.2 (by omega)
          go_enter Try.func25, Try.ntmps25
          go_wp2
          go_ret
          exact ⟨rfl, rfl⟩

/-- There are heads of this major and info. -/
def hmay (m i : Nat) : Prop := ¬ 27 < i ∨ (i = 31 ∧ m ≠ 0 ∧ m ≠ 1 ∧ m ≠ 6)
instance (m i : Nat) : Decidable (hmay m i) := by unfold hmay; infer_instance

set_option maxRecDepth 1000000 in
theorem mayBe_any (m i : Nat) (w : World) (hm : m ≤ 7) (hi : i ≤ 31) :
    Calls Try.prog 33 #[.int .i64 (m : Nat), .int .i64 (i : Nat)] w fun e w' => e = .returned (.bool (decide (hmay m i))) ∧ w' = w := by
  by_cases h27 : i ≤ 27
  · rw [decide_eq_true (show hmay m i from .inl (by omega))]
    have g1 : (i : Int) ≤ 27 := by omega
    go_enter Try.func33, Try.ntmps33
    go_wp2
    go_ret
    exact ⟨rfl, rfl⟩
  · have g1 : ¬ (i : Int) ≤ 27 := by omega
    by_cases h31 : i < 31
    · rw [decide_eq_false (show ¬ hmay m i by unfold hmay; omega)]
      have g2 : (i : Int) < 31 := by omega
      go_enter Try.func33, Try.ntmps33
      go_wp2
      go_ret
      exact ⟨rfl, rfl⟩
    · have g2 : ¬ (i : Int) < 31 := by omega
      by_cases h0 : m = 0
      · rw [decide_eq_false (show ¬ hmay m i by unfold hmay; omega)]
        subst h0
        go_enter Try.func33, Try.ntmps33
        go_wp2
        go_ret
        exact ⟨rfl, rfl⟩
      · have q0 : ((m : Int) != 0) = true := bne_iff_ne.2 (by omega)
        by_cases h1 : m = 1
        · rw [decide_eq_false (show ¬ hmay m i by unfold hmay; omega)]
          subst h1
          go_enter Try.func33, Try.ntmps33
          go_wp2
          go_ret
          exact ⟨rfl, rfl⟩
        · have q1 : ((m : Int) != 1) = true := bne_iff_ne.2 (by omega)
          by_cases h6 : m = 6
          · rw [decide_eq_false (show ¬ hmay m i by unfold hmay; omega)]
            subst h6
            go_enter Try.func33, Try.ntmps33
            go_wp2
            go_ret
            exact ⟨rfl, rfl⟩
          · have q6 : ((m : Int) != 6) = true := bne_iff_ne.2 (by omega)
            rw [decide_eq_true (show hmay m i by unfold hmay; omega)]
            go_enter Try.func33, Try.ntmps33
            go_wp2
            go_ret
            exact ⟨rfl, rfl⟩

set_option maxRecDepth 1000000 in
theorem size_any (n : Nat) (w : World) (hn : n < 18446744073709551616) :
    Calls Try.prog 8 #[.int .u64 (n : Nat)] w fun e w' => e = .returned (.int .i64 (hsize n : Nat)) ∧ w' = w := by
  have HN := hide hn
  clear hn
  go_enter Try.func8, Try.ntmps8
  go_wp2_with fail
  refine (shortest_any n _ HN.out).mono ?_
  rintro e w1 ⟨rfl, rfl⟩
  go_wp2_with fail
  refine (behind_any _ _ (by have := hinfo_lt n; omega)).mono ?_
  rintro e w1 ⟨rfl, rfl⟩
  have h8 := hwide_le (hinfo n)
  have HS : Hid (((hsize n : Nat) : Int) = 1 + (hwide (hinfo n) : Int)) := by show _ = _; unfold hsize; omega
  generalize hwide (hinfo n) = W at *
  go_wp2
  go_ret
  exact ⟨by rw [HS.out]; rfl, rfl⟩
end Go.Proofs.Ytfjdpooaipehmaa

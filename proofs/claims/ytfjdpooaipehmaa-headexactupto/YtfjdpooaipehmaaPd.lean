import Derived.Test.YtfjdpooaipehmaaPr
namespace Go.Proofs.Ytfjdpooaipehmaa
open Go.RowKit

theorem num_any (n : Int) (w : World) : Calls Try.prog 22 #[.int .i64 n] w fun e w' => e = .returned (.int .i64 n) ∧ w' = w := by
  go_enter Try.func22, Try.ntmps22
  go_wp2
  go_ret
  exact ⟨rfl, rfl⟩

theorem lit3 (w : World) : BSl (w.alloc (.cells #[.int .u8 216, .int .u8 42, .int .u8 0] 5)) (.slice (some ⟨w.heap.size, 0, none⟩) 3 3) [216, 42, 0] := by
  refine ⟨⟨_, 3, rfl, ⟨by decide, fun h => by (cases h)⟩, .inr ⟨_, 0, rfl, fun j hj => ?_⟩⟩, by decide, by decide⟩
  match j, hj with
  | 0, _ => simp
  | 1, _ => simp
  | 2, _ => simp
theorem hrd_lit : hrd [216, 42, 0] = ⟨6, 24, 42, 2, true, 0⟩ := rfl
theorem str_lit : (nstr [216, 42]).toList = [216, 42] := by rw [ByteArray.toList_eq]; rfl
theorem hlay_lit : hlay 6 42 = [216, 42] := rfl

set_option maxRecDepth 1000000 in
set_option maxHeartbeats 400000 in
theorem lays_any (w : World) : Calls Try.prog 17 #[] w fun e w' => e = .returned (.bool true) ∧ Below w.heap.size w w' := by
  go_enter Try.func17, Try.ntmps17
  go_wp2_with fail
  refine (read_any _ _ _ (lit3 w)).mono ?_
  rintro e w1 ⟨rfl, hb1⟩
  rw [hrd_lit]
  simp only [HR.val]
  have HB1 : Hid (Below w.heap.size w w1) := ((Below.refl _ _).alloc (Nat.le_refl _) _).trans (hb1.mono (by simp))
  clear hb1
  go_wp2_with fail
  refine (lay_any 6 42 _ (by decide) (by decide)).mono ?_
  rintro e w2 ⟨v, rfl, hown, hbel⟩
  rw [hlay_lit] at hown
  have hcv := (BSl.own hown (by decide)).text
  have hsz := HB1.out.size
  have HB2 := hide ((HB1.out.alloc hsz _).trans (hbel.mono (by simp; omega)))
  have hh := (hbel.block w1.heap.size (by simp)).trans (heap_alloc_new w1 _)
  have q0 : w2.cell? ⟨w1.heap.size, 0, none⟩ = some (.int .i64 6) := blk_cell hh rfl
  have q2 : w2.cell? ⟨w1.heap.size, 2, none⟩ = some (.int .u64 42) := blk_cell hh rfl
  have q3 : w2.cell? ⟨w1.heap.size, 3, none⟩ = some (.int .i64 2) := blk_cell hh rfl
  have q4 : w2.cell? ⟨w1.heap.size, 4, none⟩ = some (.bool true) := blk_cell hh rfl
  clear hown hbel hh hsz
  have hst := str_lit
  go_wp2_with fail
  refine (num_any _ _).mono ?_
  rintro e w3 ⟨rfl, rfl⟩
  go_wp2_with fail
  refine (size_any 42 _ (by decide)).mono ?_
  rintro e w3 ⟨rfl, rfl⟩
  have e1 : hsize 42 = 2 := rfl
  rw [e1]
  go_wp2
  go_ret
  exact ⟨rfl, HB2.out⟩

set_option maxRecDepth 1000000 in
theorem within_any (m : Int) (w : World) (hm : -9223372036854775808 ≤ m ∧ m ≤ 9223372036854775807) :
    Calls Try.prog 19 #[.int .i64 m, .int .i64 7] w fun e w' => ∃ k : Nat, k < 7 ∧ e = .returned (.int .i64 (k : Nat)) ∧ w' = w := by
  have h1 : -7 < m.tmod 7 ∧ m.tmod 7 < 7 := by
    by_cases h : 0 ≤ m
    · rw [Int.tmod_eq_emod_of_nonneg h]; omega
    · have e : m = -(-m) := by omega
      rw [e, Int.neg_tmod, Int.tmod_eq_emod_of_nonneg (by omega)]; omega
  clear hm
  by_cases hneg : m.tmod 7 < 0
  · go_enter Try.func19, Try.ntmps19
    go_wp2
    go_ret
    refine ⟨(m.tmod 7 + 7).toNat, by omega, ?_, rfl⟩
    rw [Int.toNat_of_nonneg (by omega)]
    rfl
  · go_enter Try.func19, Try.ntmps19
    go_wp2
    go_ret
    refine ⟨(m.tmod 7).toNat, by omega, ?_, rfl⟩
    rw [Int.toNat_of_nonneg (by omega)]
    rfl
end Go.Proofs.Ytfjdpooaipehmaa

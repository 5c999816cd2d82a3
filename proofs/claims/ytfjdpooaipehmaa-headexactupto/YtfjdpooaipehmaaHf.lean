import Derived.Test.YtfjdpooaipehmaaHm
import Derived.Deep.QuietTactic
import Derived.BigQuiet
import Derived.Deep.RegionWith
namespace Go.Proofs.Ytfjdpooaipehmaa
open Go.RowKit

theorem made_zero (k : Nat) : (madeCells (Value.int .u8 0).cells (k * 1)).toList = bv (List.replicate k 0) := by
  have hc : (Value.int .u8 0).cells = #[.int .u8 0] := rfl
  rw [hc]
  apply List.ext_getElem?
  intro j
  by_cases hj : j < k
  · rw [bv_get (by simpa using hj)]
    have h1 : j % 1 = 0 := Nat.mod_one j
    simp [madeCells, hj, List.getD, h1]
  · simp [madeCells, bv, hj]
theorem be_set (k j n : Nat) (h : j < k) : (bv (List.replicate (k - j) 0 ++ be j n)).set (k - 1 - j) (.int .u8 ((n / 256 ^ j % 256 : Nat) : Int)) = bv (List.replicate (k - (j + 1)) 0 ++ be (j + 1) n) := by
  have e : k - j = (k - (j + 1)) + 1 := by omega
  have e2 : k - 1 - j = k - (j + 1) := by omega
  rw [e, e2, List.replicate_succ', List.append_assoc]
  simp only [bv, List.map_append, be]
  rw [List.set_append_right _ _ (by simp)]
  simp
theorem be_at (k j n : Nat) (h : j < k) : (bv (List.replicate (k - j) 0 ++ be j n))[k - 1 - j]? = some (.int .u8 ((0 : Nat) : Int)) := by
  rw [bv_get (by simp [be_len]; omega)]
  simp only [List.getD]
  rw [List.getElem?_append_left (by simp; omega)]
  rw [List.getElem?_replicate, if_pos (by omega)]
  rfl

set_option maxRecDepth 1000000 in
set_option maxHeartbeats 400000 in
theorem fixed_any (n k : Nat) (w : World) (hn : n < 18446744073709551616) (hk : k ≤ 8) :
    Calls Try.prog 26 #[.int .u64 (n : Nat), .int .i64 (k : Nat)] w fun e w' => ∃ v, e = .returned (.tuple #[v, .bool (decide (n < 256 ^ k))]) ∧ w'.ownsRow w.heap.size 5 1 v k (bv (be k n)) ∧ Below w.heap.size w w' := by
  obtain ⟨i5, hi, hz0, hz1, hz2⟩ := info5_ex
  obtain ⟨w0, hmk, hown0, hgr0⟩ := run_make_full (P := Try.prog) w w.heap.size 53 5 i5 (.int .u8 0) 1 Try.underlying53 hi hz0 hz1 .i64 .i64 k (by rw [hz2]; omega) (by unfold maxLen; omega) (Nat.le_refl _)
  clear hi hz0 hz1 hz2
  rw [made_zero] at hown0
  have hbel0 : Below w.heap.size w w0 := (Below.refl _ _).grown hgr0 (Nat.le_refl _) (fun _ h => by cases h)
  generalize hB : w.heap.size = B at *
  have HB := hide hB
  have HO0 := hide hown0
  have HBL0 := hide hbel0
  have HN := hide hn
  clear hB hgr0 hown0 hbel0 hn
  go_enter Try.func26, Try.ntmps26
  go_wp2
  go_loopw [0, 7] (fun nn i wr => ∃ j : Nat, j ≤ k ∧ i = .int .i64 ((k : Int) - 1 - j) ∧ nn = .int .u64 ((n / 256 ^ j : Nat) : Int) ∧ wr.ownsRow B 5 1 (.slice (some ⟨B, 0, none⟩) k k) k (bv (List.replicate (k - j) 0 ++ be j n)) ∧ Below B w wr) (fun _ i _ => (intOf i + 1).toNat)
  case atStart => exact ⟨0, Nat.zero_le _, by simp, by simp, by simpa [be] using HO0.out, HBL0.out⟩
  case round =>
    obtain ⟨j, hj, rfl, rfl, hown, hbel⟩ := hrel
    clear HO0 HBL0 hmk
    have HO := hide hown
    have HBL := hide hbel
    clear hown hbel
    by_cases hlt : j < k
    · have hlt' : (0 : Int) ≤ (k : Int) - 1 - j := by omega
      have hidx : ((k : Int) - 1 - j) = ((k - 1 - j : Nat) : Int) := by omega
      obtain ⟨cg, fg⟩ := own_cell HO.out (be_at k j n hlt)
      have HSE := hide (be_set k j n hlt)
      have HDV : Hid (n / 256 ^ j / 256 = n / 256 ^ (j + 1)) := by show _ = _; rw [Nat.div_div_eq_div_mul, Nat.pow_succ]
      rw [hidx]
      have hi2 : k - 1 - j < k := by omega
      have hi3 : k - 1 - j < 9 := by omega
      have HID : Hid (((k - 1 - j : Nat) : Int) - 1 = (k : Int) - 1 - ((j + 1 : Nat) : Int)) := by show _ = _; omega
      have hq : n / 256 ^ j < 18446744073709551616 := Nat.lt_of_le_of_lt (Nat.div_le_self _ _) HN.out
      generalize k - 1 - j = q at *
      generalize n / 256 ^ j = N at *
      clear hidx hlt'
      go_wp2
      go_roundw
      case rel => exact ⟨j + 1, by omega, by rw [← HID.out], by rw [← HDV.out]; rfl, by rw [← HSE.out]; exact own_set _ HO.out, HBL.out.setCell (by simp) _⟩
      case measure => simp [intOf]
    · have hjk : j = k := by omega
      subst hjk
      have hlt' : ¬ (0 : Int) ≤ (j : Int) - 1 - j := by omega
      have ho := HO.out
      rw [Nat.sub_self] at ho
      have HO2 : Hid _ := hide ho
      have hz : ((n : Int) / 256 ^ j == 0) = decide (n < 256 ^ j) := by
        have hcast : (n : Int) / 256 ^ j = ((n / 256 ^ j : Nat) : Int) := by simp
        rw [hcast]
        by_cases h : n < 256 ^ j
        · rw [Nat.div_eq_of_lt h, decide_eq_true h]; rfl
        · have hp : 0 < n / 256 ^ j := Nat.div_pos (by omega) (Nat.pow_pos (by decide))
          rw [decide_eq_false h]; exact beq_eq_false_iff_ne.2 (by omega)
      have HZ := hide hz
      clear hz ho
      go_wp2
      go_ret2
      refine ⟨.slice (some ⟨B, 0, none⟩) j j, ?_, by simpa using HO2.out, HBL.out⟩
      rw [← HZ.out]
      rfl
end Go.Proofs.Ytfjdpooaipehmaa

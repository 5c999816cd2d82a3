import Derived.Test.YtjlknnpgngaooaaGreatDoorJa
import Derived.Deep.QuietTactic
import Derived.BigQuiet
import Derived.Deep.RegionWith
import Derived.Laws.ResultCell
import Derived.Deep.LoopGhost
import Derived.Deep.DeepCutAuto
import Derived.Test.YtjlknnpgngaooaaGreatDoorJb
import Derived.Lib.AppendZerosOnto
import Derived.Lib.SliceRun
import Derived.Great.BuildSlice
import Derived.Great.FillDense
import Derived.Maps.AppendAt
namespace Go.Proofs.YtjlknnpgngaooaaGreatDoor
section
open Go.RowKit
set_option maxRecDepth 1000000 in
theorem shortest_any (n : Nat) (w : World) (hn : n < 18446744073709551616) :
    Calls Tryz.prog 54 #[.int .u64 (n : Nat)] w fun e w' => e = .returned (.int .i64 (hinfo n : Nat)) ∧ w' = w := by
  rcases hinfo_cases n with ⟨h, e⟩ | ⟨h1, h, e⟩ | ⟨h1, h, e⟩ | ⟨h1, h, e⟩ | ⟨h1, e⟩
  · rw [e]
    have g1 : (n : Int) < 24 := by omega
    go_enter Tryz.func54, Tryz.ntmps54
    go_wp2
    go_ret
    exact ⟨rfl, rfl⟩
  · rw [e]
    have g1 : ¬ (n : Int) < 24 := by omega
    have g2 : (n : Int) ≤ 255 := by omega
    go_enter Tryz.func54, Tryz.ntmps54
    go_wp2
    go_ret
    exact ⟨rfl, rfl⟩
  · rw [e]
    have g1 : ¬ (n : Int) < 24 := by omega
    have g2 : ¬ (n : Int) ≤ 255 := by omega
    have g3 : (n : Int) ≤ 65535 := by omega
    go_enter Tryz.func54, Tryz.ntmps54
    go_wp2
    go_ret
    exact ⟨rfl, rfl⟩
  · rw [e]
    have g1 : ¬ (n : Int) < 24 := by omega
    have g2 : ¬ (n : Int) ≤ 255 := by omega
    have g3 : ¬ (n : Int) ≤ 65535 := by omega
    have g4 : (n : Int) ≤ 4294967295 := by omega
    go_enter Tryz.func54, Tryz.ntmps54
    go_wp2
    go_ret
    exact ⟨rfl, rfl⟩
  · rw [e]
    have g1 : ¬ (n : Int) < 24 := by omega
    have g2 : ¬ (n : Int) ≤ 255 := by omega
    have g3 : ¬ (n : Int) ≤ 65535 := by omega
    have g4 : ¬ (n : Int) ≤ 4294967295 := by omega
    go_enter Tryz.func54, Tryz.ntmps54
    go_wp2
    go_ret
    exact ⟨rfl, rfl⟩

set_option maxRecDepth 1000000 in
theorem behind_any (i : Nat) (w : World) (hi : i < 32) :
    Calls Tryz.prog 55 #[.int .i64 (i : Nat)] w fun e w' => e = .returned (.int .i64 (hwide i : Nat)) ∧ w' = w := by
  by_cases h27 : i = 27
  · subst h27
    go_enter Tryz.func55, Tryz.ntmps55
    go_wp2
    go_ret
    exact ⟨rfl, rfl⟩
  · by_cases h26 : i = 26
    · subst h26
      go_enter Tryz.func55, Tryz.ntmps55
      go_wp2
      go_ret
      exact ⟨rfl, rfl⟩
    · by_cases h25 : i = 25
      · subst h25
        go_enter Tryz.func55, Tryz.ntmps55
        go_wp2
        go_ret
        exact ⟨rfl, rfl⟩
      · by_cases h24 : i = 24
        · subst h24
          go_enter Tryz.func55, Tryz.ntmps55
          go_wp2
          go_ret
          exact ⟨rfl, rfl⟩
        · have e : hwide i = 0 := by unfold hwide; rw [if_neg h24, if_neg h25, if_neg h26, if_neg h27]
          rw [e]
          have g27 : ((i : Int) == 27) = false := beq_eq_false_iff_ne.2 (by omega)
          have g26 : ((i : Int) == 26) = false := beq_eq_false_iff_ne.2 (by omega)
          have g25 : ((i : Int) == 25) = false := beq_eq_false_iff_ne.2 (by omega)
          have g24 : ((i : Int) == 24) = false := beq_eq_false_iff_ne.2 (by omega)
          go_enter Tryz.func55, Tryz.ntmps55
          go_wp2
          go_ret
          exact ⟨rfl, rfl⟩

/-- There are heads of this major and info. -/
def hmay (m i : Nat) : Prop := ¬ 27 < i ∨ (i = 31 ∧ m ≠ 0 ∧ m ≠ 1 ∧ m ≠ 6)
instance (m i : Nat) : Decidable (hmay m i) := by unfold hmay; infer_instance

set_option maxRecDepth 1000000 in
theorem size_any (n : Nat) (w : World) (hn : n < 18446744073709551616) :
    Calls Tryz.prog 203 #[.int .u64 (n : Nat)] w fun e w' => e = .returned (.int .i64 (hsize n : Nat)) ∧ w' = w := by
  have HN := hide hn
  clear hn
  go_enter Tryz.func203, Tryz.ntmps203
  go_wp2_with fail
  refine (shortest_any n _ HN.out).mono ?_
  rintro e w1 ⟨rfl, rfl⟩
  go_wp2_with fail
  refine (behind_any _ _ (by have := hinfo_lt n; omega)).mono ?_
  rintro e w1 ⟨rfl, rfl⟩
  have h8 := hwide_le (hinfo n)
  have HS : Hid (((hsize n : Nat) : Int) = 1 + (hwide (hinfo n) : Int)) := by show _ = _; unfold hsize; omega
  generalize hwide (hinfo n) = W at *
  go_wp2
  go_ret
  exact ⟨by rw [HS.out]; rfl, rfl⟩
end
section
open Go.RowKit
theorem made_zero (k : Nat) : (madeCells (Value.int .u8 0).cells (k * 1)).toList = bv (List.replicate k 0) := by
  have hc : (Value.int .u8 0).cells = #[.int .u8 0] := rfl
  rw [hc]
  apply List.ext_getElem?
  intro j
  by_cases hj : j < k
  · rw [bv_get (by simpa using hj)]
    have h1 : j % 1 = 0 := Nat.mod_one j
    simp [madeCells, hj, List.getD, h1]
  · simp [madeCells, bv, hj]
theorem be_set (k j n : Nat) (h : j < k) : (bv (List.replicate (k - j) 0 ++ be j n)).set (k - 1 - j) (.int .u8 ((n / 256 ^ j % 256 : Nat) : Int)) = bv (List.replicate (k - (j + 1)) 0 ++ be (j + 1) n) := by
  have e : k - j = (k - (j + 1)) + 1 := by omega
  have e2 : k - 1 - j = k - (j + 1) := by omega
  rw [e, e2, List.replicate_succ', List.append_assoc]
  simp only [bv, List.map_append, be]
  rw [List.set_append_right _ _ (by simp)]
  simp
theorem be_at (k j n : Nat) (h : j < k) : (bv (List.replicate (k - j) 0 ++ be j n))[k - 1 - j]? = some (.int .u8 ((0 : Nat) : Int)) := by
  rw [bv_get (by simp [be_len]; omega)]
  simp only [List.getD]
  rw [List.getElem?_append_left (by simp; omega)]
  rw [List.getElem?_replicate, if_pos (by omega)]
  rfl

set_option maxRecDepth 1000000 in
set_option maxHeartbeats 400000 in
theorem fixed_any (n k : Nat) (w : World) (hn : n < 18446744073709551616) (hk : k ≤ 8) :
    Calls Tryz.prog 127 #[.int .u64 (n : Nat), .int .i64 (k : Nat)] w fun e w' => ∃ v, e = .returned (.tuple #[v, .bool (decide (n < 256 ^ k))]) ∧ w'.ownsRow w.heap.size 5 1 v k (bv (be k n)) ∧ Below w.heap.size w w' := by
  obtain ⟨i5, hi, hz0, hz1, hz2⟩ := info5_ex
  obtain ⟨w0, hmk, hown0, hgr0⟩ := run_make_full (P := Tryz.prog) w w.heap.size 23 5 i5 (.int .u8 0) 1 Tryz.underlying23 hi hz0 hz1 .i64 .i64 k (by rw [hz2]; omega) (by unfold maxLen; omega) (Nat.le_refl _)
  clear hi hz0 hz1 hz2
  rw [made_zero] at hown0
  have hbel0 : Below w.heap.size w w0 := (Below.refl _ _).grown hgr0 (Nat.le_refl _) (fun _ h => by cases h)
  generalize hB : w.heap.size = B at *
  have HB := hide hB
  have HO0 := hide hown0
  have HBL0 := hide hbel0
  have HN := hide hn
  clear hB hgr0 hown0 hbel0 hn
  go_enter Tryz.func127, Tryz.ntmps127
  go_wp2
  go_loopw [0, 7] (fun nn i wr => ∃ j : Nat, j ≤ k ∧ i = .int .i64 ((k : Int) - 1 - j) ∧ nn = .int .u64 ((n / 256 ^ j : Nat) : Int) ∧ wr.ownsRow B 5 1 (.slice (some ⟨B, 0, none⟩) k k) k (bv (List.replicate (k - j) 0 ++ be j n)) ∧ Below B w wr) (fun _ i _ => (intOf i + 1).toNat)
  case atStart => exact ⟨0, Nat.zero_le _, by simp, by simp, by simpa [be] using HO0.out, HBL0.out⟩
  case round =>
    obtain ⟨j, hj, rfl, rfl, hown, hbel⟩ := hrel
    clear HO0 HBL0 hmk
    have HO := hide hown
    have HBL := hide hbel
    clear hown hbel
    by_cases hlt : j < k
    · have hlt' : (0 : Int) ≤ (k : Int) - 1 - j := by omega
      have hidx : ((k : Int) - 1 - j) = ((k - 1 - j : Nat) : Int) := by omega
      obtain ⟨cg, fg⟩ := own_cell HO.out (be_at k j n hlt)
      have HSE := hide (be_set k j n hlt)
      have HDV : Hid (n / 256 ^ j / 256 = n / 256 ^ (j + 1)) := by show _ = _; rw [Nat.div_div_eq_div_mul, Nat.pow_succ]
      rw [hidx]
      have hi2 : k - 1 - j < k := by omega
      have hi3 : k - 1 - j < 9 := by omega
      have HID : Hid (((k - 1 - j : Nat) : Int) - 1 = (k : Int) - 1 - ((j + 1 : Nat) : Int)) := by show _ = _; omega
      have hq : n / 256 ^ j < 18446744073709551616 := Nat.lt_of_le_of_lt (Nat.div_le_self _ _) HN.out
      generalize k - 1 - j = q at *
      generalize n / 256 ^ j = N at *
      clear hidx hlt'
      go_wp2
      go_roundw
      case rel => exact ⟨j + 1, by omega, by rw [← HID.out], by rw [← HDV.out]; rfl, by rw [← HSE.out]; exact own_set _ HO.out, HBL.out.setCell (by simp) _⟩
      case measure => simp [intOf]
    · have hjk : j = k := by omega
      subst hjk
      have hlt' : ¬ (0 : Int) ≤ (j : Int) - 1 - j := by omega
      have ho := HO.out
      rw [Nat.sub_self] at ho
      have HO2 : Hid _ := hide ho
      have hz : ((n : Int) / 256 ^ j == 0) = decide (n < 256 ^ j) := by
        have hcast : (n : Int) / 256 ^ j = ((n / 256 ^ j : Nat) : Int) := by simp
        rw [hcast]
        by_cases h : n < 256 ^ j
        · rw [Nat.div_eq_of_lt h, decide_eq_true h]; rfl
        · have hp : 0 < n / 256 ^ j := Nat.div_pos (by omega) (Nat.pow_pos (by decide))
          rw [decide_eq_false h]; exact beq_eq_false_iff_ne.2 (by omega)
      have HZ := hide hz
      clear hz ho
      go_wp2
      go_ret2
      refine ⟨.slice (some ⟨B, 0, none⟩) j j, ?_, by simpa using HO2.out, HBL.out⟩
      rw [← HZ.out]
      rfl
end
section
open Go.RowKit
theorem i64_or_nat (a b : Nat) (ha : a < 9223372036854775808) (hb : b < 9223372036854775808) : bits .or .i64 (a : Int) (b : Int) = ((a ||| b : Nat) : Int) := by
  have hx : a ||| b < 2 ^ 63 := Nat.or_lt_two_pow (by omega) (by omega)
  show IntKind.i64.wrap ((BitVec.ofInt 64 (a : Int) ||| BitVec.ofInt 64 (b : Int)).toNat : Int) = _
  rw [BitVec.toNat_or, ofInt_u64 a (by omega), ofInt_u64 b (by omega), IntKind.wrap_i64]
  omega
theorem first_byte (M i : Nat) (hM : M ≤ 7) (hi : i < 32) : bits .or .i64 ((M : Int) * 32) (i : Int) % 256 = ((32 * M + i : Nat) : Int) := by
  have e : (M : Int) * 32 = ((2 ^ 5 * M : Nat) : Int) := by omega
  rw [e, i64_or_nat _ _ (by omega) (by omega), ← Nat.two_pow_add_eq_or_of_lt (i := 5) (by omega)]
  omega
theorem own_nine (w : World) (x : Nat) (o : Obj) : ((w.alloc (.cells #[.int .u8 ((x : Nat) : Int), .int .u8 0, .int .u8 0, .int .u8 0, .int .u8 0, .int .u8 0, .int .u8 0, .int .u8 0, .int .u8 0] 5)).alloc o).ownsRow w.heap.size 5 1 (.slice (some ⟨w.heap.size, 0, none⟩) 1 9) 1 (bv [x]) :=
  ⟨rfl, .inr ⟨w.heap.size, 9, _, rfl, Nat.le_refl _, blk_alloc o (heap_alloc_new w _), by decide, by decide, rfl, rfl⟩⟩
theorem be_get : ∀ k n j, j < k → (be k n).getD j 0 = n / 256 ^ (k - 1 - j) % 256
  | 0, _, _, h => by omega
  | k + 1, n, 0, _ => by simp [be]
  | k + 1, n, j + 1, h => by
    have e : k + 1 - 1 - (j + 1) = k - 1 - j := by omega
    rw [e, ← be_get k n j (by omega)]
    simp [be]
set_option maxRecDepth 1000000 in
set_option maxHeartbeats 400000 in
theorem lay_any (m : Int) (n : Nat) (w : World) (hm : -9223372036854775808 ≤ m ∧ m ≤ 9223372036854775807) (hn : n < 18446744073709551616) :
    Calls Tryz.prog 25 #[.int .i64 m, .int .u64 (n : Nat)] w fun e w' => ∃ v, e = .returned v ∧ w'.ownsRow w.heap.size 5 1 v (hlay m n).length (bv (hlay m n)) ∧ Below w.heap.size w w' := by
  by_cases h0 : 0 ≤ m ∧ m ≤ 7
  · have e : hlay m n = hl m.toNat n := by unfold hlay; rw [if_pos h0]
    rw [e]
    obtain ⟨M, rfl⟩ := Int.eq_ofNat_of_zero_le h0.1
    rw [Int.toNat_natCast]
    have h1 := h0.1
    have h2 := h0.2
    have hM : M ≤ 7 := by omega
    clear e h0 hm
    have HN := hide hn
    clear hn
    have hmk := make9
    go_enter Tryz.func25, Tryz.ntmps25
    go_wp2_with fail
    refine (shortest_any n _ HN.out).mono ?_
    rintro e w1 ⟨rfl, rfl⟩
    have hi28 := hinfo_lt n
    have HL : Hid (hl M n = (32 * M + hinfo n) :: be (hwide (hinfo n)) n) := rfl
    generalize hinfo n = i at *
    go_wp2_with fail
    refine (behind_any _ _ (by omega)).mono ?_
    rintro e w2 ⟨rfl, rfl⟩
    rw [first_byte M i hM (by omega)]
    have HO := hide (own_nine w1 (32 * M + i) (.cells #[.int .u8 ((32 * M + i : Nat) : Int)] 5))
    have HBW : Hid (Below w1.heap.size w1 ((w1.alloc (.cells #[.int .u8 ((32 * M + i : Nat) : Int), .int .u8 0, .int .u8 0, .int .u8 0, .int .u8 0, .int .u8 0, .int .u8 0, .int .u8 0, .int .u8 0] 5)).alloc (.cells #[.int .u8 ((32 * M + i : Nat) : Int)] 5))) := ((Below.refl _ _).alloc (Nat.le_refl _) _).alloc (by simp) _
    generalize ((w1.alloc (.cells #[.int .u8 ((32 * M + i : Nat) : Int), .int .u8 0, .int .u8 0, .int .u8 0, .int .u8 0, .int .u8 0, .int .u8 0, .int .u8 0, .int .u8 0] 5)).alloc (.cells #[.int .u8 ((32 * M + i : Nat) : Int)] 5)) = w3 at *
    have hk8 := hwide_le i
    generalize hwide i = k at *
    generalize hB : w1.heap.size = B at *
    have HB := hide hB
    clear hB hmk
    go_wp2
    go_loopw [6, 7] (fun bb q wr => ∃ j : Nat, j ≤ k ∧ q = .int .i64 ((k : Int) - 1 - j) ∧ wr.ownsRow B 5 1 bb (1 + j) (bv ((32 * M + i) :: (be k n).take j)) ∧ Below B w1 wr) (fun _ q _ => (intOf q + 1).toNat)
    case atStart => exact ⟨0, Nat.zero_le _, by simp, by simpa using HO.out, HBW.out⟩
    case round =>
      obtain ⟨j, hj, rfl, hown, hbel⟩ := hrel
      clear HO HBW
      have HO := hide hown
      have HBL := hide hbel
      clear hown hbel
      by_cases hlt : j < k
      · have hlt' : (0 : Int) ≤ (k : Int) - 1 - j := by omega
        have hidx : ((k : Int) - 1 - j) = ((k - 1 - j : Nat) : Int) := by omega
        rw [hidx]
        have hq8 : k - 1 - j < 8 := by omega
        have HTK : Hid ((be k n).take (j + 1) = (be k n).take j ++ [n / 256 ^ (k - 1 - j) % 256]) := by
          show _ = _
          rw [← be_get k n j hlt]
          exact take_snoc _ _ (by rw [be_len]; exact hlt)
        have HID : Hid (((k - 1 - j : Nat) : Int) - 1 = (k : Int) - 1 - ((j + 1 : Nat) : Int)) := by show _ = _; omega
        generalize k - 1 - j = q at *
        clear hidx hlt'
        have hc : ((n / 256 ^ q % 256 : Nat) : Int) = (n : Int) / 2 ^ (8 * q) % 256 := by rw [pow_int8]; omega
        have HSL := hide (one_bsl wr (n / 256 ^ q % 256) (Nat.mod_lt _ (by decide)))
        rw [hc] at HSL
        have HOA := hide (HO.out.alloc (.cells #[.int .u8 ((n : Int) / 2 ^ (8 * q) % 256)] 5))
        clear hc HO
        go_wp2_with (at_builtin; refine append_bsl rfl _ _ rfl B _ (1 + j) _ rfl HOA.out _ [n / 256 ^ q % 256] rfl HSL.out ?b1 ?b2 ?_)
        case b1 => simp; omega
        case b2 => have := HBL.out.size; have := HB.out; simp; omega
        intro v2 w2 hown2 hgr2
        have hlo := fun g (h : _ = some g) => (HOA.out.lt g h).1
        have HB2 : Hid (Below B w1 w2) := (HBL.out.alloc (by have := HBL.out.size; have := HB.out; omega) _).grown hgr2 (by have := HBL.out.size; have := HB.out; simp; omega) (fun g hg => hlo g hg)
        have HO2 : Hid (w2.ownsRow B 5 1 v2 (1 + (j + 1)) (bv ((32 * M + i) :: (be k n).take (j + 1)))) := by
          show World.ownsRow _ _ _ _ _ _ _
          rw [HTK.out]
          have h := hown2
          simpa [Nat.add_assoc] using h
        clear hown2 hgr2 hlo HSL HOA HTK
        go_wp2
        go_roundw
        case rel => exact ⟨j + 1, by omega, by rw [← HID.out], HO2.out, HB2.out⟩
        case measure => simp [intOf]
      · have hjk : j = k := by omega
        subst hjk
        have hlt' : ¬ (0 : Int) ≤ (j : Int) - 1 - j := by omega
        have ho := HO.out
        rw [List.take_of_length_le (by rw [be_len]; exact Nat.le_refl _), ← HL.out] at ho
        have HO2 : Hid _ := hide ho
        clear ho HO
        go_wp2
        go_ret
        have e : (hl M n).length = 1 + j := by rw [HL.out]; simp [be_len]; omega
        rw [e, HB.out]
        exact ⟨_, rfl, HO2.out, HBL.out⟩
  · have e : hlay m n = [] := by unfold hlay; rw [if_neg h0]
    rw [e]
    by_cases hneg : m < 0
    · go_enter Tryz.func25, Tryz.ntmps25
      go_wp2
      go_ret
      exact ⟨_, rfl, World.ownsRow_nil _ _ _ _, Below.refl _ _⟩
    · have h7 : 7 < m := by omega
      have hneg' : ¬ m < 0 := hneg
      go_enter Tryz.func25, Tryz.ntmps25
      go_wp2
      go_ret
      exact ⟨_, rfl, World.ownsRow_nil _ _ _ _, Below.refl _ _⟩
end
section
open Go.RowKit
theorem hsize_small {n : Nat} (h : n < 24) : hsize n = 1 := by
  have := hinfo_cases n
  have e : hinfo n = n := by omega
  unfold hsize
  rw [e, hwide_small h]
end
section
open Go.RowKit
theorem bnum_be : ∀ k n a, bnum a (be k n) = a * 256 ^ k + n % 256 ^ k
  | 0, n, a => by simp [be, bnum, Nat.mod_one]
  | k + 1, n, a => by
    simp only [be, bnum]
    rw [bnum_be k n, Nat.mod_pow_succ]
    have h1 : (256 * a + n / 256 ^ k % 256) * 256 ^ k = a * 256 ^ (k + 1) + 256 ^ k * (n / 256 ^ k % 256) := by
      rw [Nat.add_mul, Nat.pow_succ, Nat.mul_comm (n / 256 ^ k % 256)]
      congr 1
      rw [Nat.mul_comm 256 a, Nat.mul_assoc, Nat.mul_comm 256 (256 ^ k)]
    omega
theorem be_add : ∀ k a q, be k (a * 256 ^ k + q) = be k q
  | 0, _, _ => rfl
  | k + 1, a, q => by
    simp only [be]
    have e : a * 256 ^ (k + 1) + q = (a * 256) * 256 ^ k + q := by rw [Nat.pow_succ, Nat.mul_comm (256 ^ k) 256, Nat.mul_assoc]
    rw [e, be_add k (a * 256) q]
    have hp : 0 < 256 ^ k := Nat.pow_pos (by decide)
    rw [Nat.mul_comm (a * 256), Nat.mul_add_div hp]
    congr 1
    omega
theorem bnum_add : ∀ (l : List Nat) (a : Nat), bnum a l = a * 256 ^ l.length + bnum 0 l
  | [], a => by simp [bnum]
  | y :: l, a => by
    simp only [bnum, List.length_cons]
    rw [bnum_add l (256 * a + y), bnum_add l (256 * 0 + y), Nat.pow_succ, Nat.add_mul]
    have e : 256 * a * 256 ^ l.length = a * (256 ^ l.length * 256) := by rw [Nat.mul_comm 256 a, Nat.mul_assoc, Nat.mul_comm 256]
    rw [e]
    simp only [Nat.mul_zero, Nat.zero_add]
    omega
theorem be_bnum : ∀ (l : List Nat), (∀ x ∈ l, x < 256) → be l.length (bnum 0 l) = l
  | [], _ => rfl
  | y :: l, h => by
    simp only [bnum, List.length_cons, be]
    have e : bnum (256 * 0 + y) l = y * 256 ^ l.length + bnum 0 l := by rw [bnum_add l (256 * 0 + y)]; simp
    have hl : bnum 0 l < 256 ^ l.length := by have := bnum_lt l 0 (fun x hx => h x (List.mem_cons_of_mem _ hx)); simpa using this
    have hp : 0 < 256 ^ l.length := Nat.pow_pos (by decide)
    have hy := h y (by simp)
    rw [e, be_add, be_bnum l (fun x hx => h x (List.mem_cons_of_mem _ hx))]
    congr 1
    rw [Nat.mul_comm y, Nat.mul_add_div hp, Nat.div_eq_of_lt hl]
    omega

theorem wide_cases (i : Nat) (h0 : 24 ≤ i) (h1 : i ≤ 27) : (i = 24 ∧ hwide i = 1) ∨ (i = 25 ∧ hwide i = 2) ∨ (i = 26 ∧ hwide i = 4) ∨ (i = 27 ∧ hwide i = 8) := by
  rcases (by omega : i = 24 ∨ i = 25 ∨ i = 26 ∨ i = 27) with rfl | rfl | rfl | rfl
  · exact .inl ⟨rfl, rfl⟩
  · exact .inr (.inl ⟨rfl, rfl⟩)
  · exact .inr (.inr (.inl ⟨rfl, rfl⟩))
  · exact .inr (.inr (.inr ⟨rfl, rfl⟩))
theorem pow2 : 256 ^ 2 = 65536 := rfl
theorem pow4 : 256 ^ 4 = 4294967296 := rfl
theorem pow8 : 256 ^ 8 = 18446744073709551616 := rfl
/-- What so many bytes hold. -/
theorem fits {n i : Nat} (hn : n < 18446744073709551616) (h0 : 24 ≤ i) (h1 : i ≤ 27) (h : hinfo n ≤ i) : n < 256 ^ hwide i := by
  have hc := hinfo_cases n
  rcases wide_cases i h0 h1 with ⟨rfl, e⟩ | ⟨rfl, e⟩ | ⟨rfl, e⟩ | ⟨rfl, e⟩ <;> rw [e]
  · omega
  · rw [pow2]; omega
  · rw [pow4]; omega
  · rw [pow8]; omega
theorem wide_lt {n i : Nat} (h0 : 24 ≤ i) (h1 : i ≤ 27) : (1 + hwide i > hsize n ↔ hinfo n < i) ∧ (1 + hwide i = hsize n ↔ hinfo n = i) := by
  unfold hsize
  have hl := hinfo_lt n
  by_cases h : hinfo n < 24
  · rw [hwide_small h]
    rcases wide_cases i h0 h1 with ⟨rfl, e⟩ | ⟨rfl, e⟩ | ⟨rfl, e⟩ | ⟨rfl, e⟩ <;> omega
  · rcases wide_cases i h0 h1 with ⟨rfl, e⟩ | ⟨rfl, e⟩ | ⟨rfl, e⟩ | ⟨rfl, e⟩ <;> rcases wide_cases (hinfo n) (by omega) (by omega) with ⟨g, f⟩ | ⟨g, f⟩ | ⟨g, f⟩ | ⟨g, f⟩ <;> omega

/-- A head in so many bytes is read. -/
theorem hrd_be (m i n : Nat) (tl : List Nat) (hm : m ≤ 6) (h0 : 24 ≤ i) (h1 : i ≤ 27) (hn : n < 256 ^ hwide i) :
    hrd ((32 * m + i) :: (be (hwide i) n ++ tl)) = ⟨m, i, n, 1 + hwide i, decide (1 + hwide i = hsize n), 0⟩ := by
  have e1 : (32 * m + i) / 32 = m := by omega
  have e2 : (32 * m + i) % 32 = i := by omega
  have e3 : (be (hwide i) n ++ tl).take (hwide i) = be (hwide i) n := by
    have hl := be_len (hwide i) n
    rw [List.take_append_of_le_length (by omega), List.take_of_length_le (by omega)]
  have h := hrd_long (x := 32 * m + i) (r := be (hwide i) n ++ tl) (by omega) (by omega) (by rw [e2, List.length_append, be_len]; omega) (by omega)
  have e4 : bnum 0 (be (hwide i) n) = n := by rw [bnum_be]; simp [Nat.mod_eq_of_lt hn]
  rw [e1, e2, e3, e4] at h
  have e5 : decide (m = 7) = false := decide_eq_false (by omega)
  rw [e5, Bool.false_or] at h
  exact h
theorem hrd_laid (m n : Nat) (tl : List Nat) (hm : m ≤ 6) (hn : n < 18446744073709551616) : hrd (hl m n ++ tl) = ⟨m, hinfo n, n, hsize n, true, 0⟩ := by
  have hlt := hinfo_lt n
  unfold hl
  rw [List.cons_append]
  by_cases h : hinfo n < 24
  · have hc := hinfo_cases n
    have e : hinfo n = n := by omega
    rw [hrd_small (by omega), e, hsize_small (by omega)]
    have e1 : (32 * m + n) / 32 = m := by omega
    have e2 : (32 * m + n) % 32 = n := by omega
    rw [e1, e2]
  · rw [hrd_be m (hinfo n) n tl hm (by omega) (by omega) (fits hn (by omega) (by omega) (Nat.le_refl _))]
    simp [hsize]
end
section
open Go.RowKit Go
/-! ### The form, plainly -/
/-- A text's form. -/
def kfm (s : ByteArray) : List Nat := hl 3 (sl s).length ++ sl s
mutual
/-- A tree's form, its entries as they stand. -/
def tfm : Tv → List Nat
  | .mk k f g n b s y l ks is =>
    if k = 1 then [246] else if k = 2 then [if f = true then 245 else 244]
    else if k = 3 then hl (if g = true then 1 else 0) n
    else if k = 4 then 251 :: be 8 b
    else if k = 5 then kfm s
    else if k = 6 then hl 2 y.length ++ y
    else if k = 7 then hl 6 42 ++ (hl 2 (1 + (lbytes l).length) ++ 0 :: lbytes l)
    else if k = 8 then hl 4 is.length ++ tfmL is
    else if k = 9 then hl 5 is.length ++ tfmK ks is
    else []
def tfmL : List Tv → List Nat
  | [] => []
  | t :: r => tfm t ++ tfmL r
/-- Entries, one key more at most. -/
def tfmK : List ByteArray → List Tv → List Nat
  | [], _ => []
  | k :: ks, [] => kfm k ++ tfmK ks []
  | k :: ks, t :: r => kfm k ++ (tfm t ++ tfmK ks r)
end
theorem tfmL_app : ∀ (a : List Tv) (v : Tv), tfmL (a ++ [v]) = tfmL a ++ tfm v
  | [], v => by simp [tfmL]
  | t :: r, v => by rw [List.cons_append, tfmL, tfmL, tfmL_app r v, List.append_assoc]
theorem tfmK_key : ∀ {ks : List ByteArray} {is : List Tv} (k : ByteArray), ks.length = is.length → tfmK (ks ++ [k]) is = tfmK ks is ++ kfm k
  | [], [], k, _ => by rw [List.nil_append, tfmK, tfmK, tfmK, List.append_nil, List.nil_append]
  | x :: r, t :: q, k, h => by
    rw [List.cons_append, tfmK, tfmK, tfmK_key k (by simpa using h), List.append_assoc, List.append_assoc]
theorem tfmK_item : ∀ {ks : List ByteArray} {is : List Tv} (v : Tv), ks.length = is.length + 1 → tfmK ks (is ++ [v]) = tfmK ks is ++ tfm v
  | [], _, _, h => by simp at h
  | [x], [], v, _ => by rw [List.nil_append, tfmK, tfmK, tfmK, tfmK, List.append_nil, List.append_nil]
  | x :: y :: r, [], v, h => by simp at h
  | x :: r, t :: q, v, h => by
    rw [List.cons_append, tfmK, tfmK, tfmK_item v (by simpa using h), List.append_assoc, List.append_assoc]

/-! ### What an item's bytes are -/
theorem head_back {r : List Nat} (hb : ∀ x ∈ r, x < 256) {want : Nat} (h : rlook want r = 0) (hs : (hrd r).s = true) :
    r.take (hrd r).u = (if (hrd r).m = 7 then (if (hrd r).i = 27 then 251 :: be 8 (hrd r).n else [224 + (hrd r).i]) else hl (hrd r).m (hrd r).n) := by
  have he := rlook_e h
  have hmay : rmay (hrd r) (rbody r) = true ∧ (hrd r).i ≠ 31 := by
    unfold rlook at h
    by_cases h20 : (hrd r).e = 20
    · rw [if_pos h20] at h; cases h
    rw [if_neg h20] at h
    by_cases h2 : (hrd r).e ≠ 0 ∨ (hrd r).i = 31
    · rw [if_pos h2] at h; cases h
    rw [if_neg h2] at h
    by_cases h3 : ((hrd r).m = 2 ∨ (hrd r).m = 3) ∧ r.length - (hrd r).u < (hrd r).n
    · rw [if_pos h3] at h; cases h
    rw [if_neg h3] at h
    by_cases h4 : rmay (hrd r) (rbody r) = false ∨ rfit want (hrd r) (rbody r) = false
    · rw [if_pos h4] at h; cases h
    refine ⟨?_, fun e => h2 (.inr e)⟩
    rcases Bool.eq_false_or_eq_true (rmay (hrd r) (rbody r)) with e | e
    · exact e
    · exact absurd (.inl e) h4
  cases r with
  | nil => cases he
  | cons x q =>
    have hx := hb x (List.mem_cons_self ..)
    have hq : ∀ z ∈ q, z < 256 := fun z hz => hb z (List.mem_cons_of_mem _ hz)
    by_cases h1 : 27 < x % 32
    · by_cases h2 : x % 32 = 31 ∧ x / 32 ≠ 0 ∧ x / 32 ≠ 1 ∧ x / 32 ≠ 6
      · exact absurd (by rw [hrd_end h2.1 h2.2]) hmay.2
      · rw [hrd_info h1 h2] at he; cases he
    · by_cases h2 : x % 32 < 24
      · have hh := hrd_small (x := x) (r := q) h2
        rw [hh] at hmay ⊢
        have ex : [x] = [32 * (x / 32) + x % 32] := by congr 1; omega
        show (x :: q).take 1 = if x / 32 = 7 then (if x % 32 = 27 then _ else [224 + x % 32]) else hl (x / 32) (x % 32)
        rw [List.take_succ_cons, List.take_zero]
        by_cases h7 : x / 32 = 7
        · rw [if_pos h7, if_neg (by omega), ex, h7]
        · rw [if_neg h7]
          have e1 : hinfo (x % 32) = x % 32 := by unfold hinfo; rw [if_pos h2]
          unfold hl
          rw [e1, hwide_small h2, ex]
          rfl
      · by_cases h3 : q.length < hwide (x % 32)
        · rw [hrd_short (by omega) (by omega) h3] at he; cases he
        · by_cases h4 : x / 32 = 7 ∧ x % 32 = 24 ∧ bnum 0 (q.take (hwide (x % 32))) < 32
          · rw [hrd_low h4.2.1 h3 h4.1 h4.2.2] at he; cases he
          · have hh := hrd_long (x := x) (r := q) (by omega) (by omega) h3 h4
            rw [hh] at hmay hs ⊢
            simp only at hs
            have hbn : be (hwide (x % 32)) (bnum 0 (q.take (hwide (x % 32)))) = q.take (hwide (x % 32)) := by
              have e := be_bnum (q.take (hwide (x % 32))) (fun z hz => hq z (List.mem_of_mem_take hz))
              have el : (q.take (hwide (x % 32))).length = hwide (x % 32) := by rw [List.length_take]; omega
              rw [el] at e
              exact e
            show (x :: q).take (1 + hwide (x % 32)) = if x / 32 = 7 then (if x % 32 = 27 then 251 :: be 8 _ else [224 + x % 32]) else hl (x / 32) _
            rw [Nat.add_comm, List.take_succ_cons]
            by_cases h7 : x / 32 = 7
            · have hkn := hmay.1
              unfold rmay at hkn
              rw [if_neg (by show ¬ x / 32 = 3; omega), if_neg (by show ¬ x / 32 = 6; omega), if_pos h7] at hkn
              have h27 : x % 32 = 27 := by
                unfold rknown at hkn
                simp at hkn
                omega
              rw [if_pos h7, if_pos h27]
              have hw8 : hwide (x % 32) = 8 := by rw [h27]; rfl
              rw [hw8] at hbn ⊢
              rw [hbn]
              congr 1
              omega
            · rw [if_neg h7]
              have e2 : decide (x / 32 = 7) = false := decide_eq_false h7
              rw [e2, Bool.false_or, decide_eq_true_iff] at hs
              have e3 := (wide_lt (n := bnum 0 (q.take (hwide (x % 32)))) (i := x % 32) (by omega) (by omega)).2.1 hs
              unfold hl
              rw [e3, hbn]
              congr 1
              omega
theorem body_len {r : List Nat} {want : Nat} (h : rlook want r = 0) (hm : (hrd r).m = 2 ∨ (hrd r).m = 3) : (rbody r).length = (hrd r).n := by
  unfold rlook at h
  by_cases h20 : (hrd r).e = 20
  · rw [if_pos h20] at h; cases h
  rw [if_neg h20] at h
  by_cases h2 : (hrd r).e ≠ 0 ∨ (hrd r).i = 31
  · rw [if_pos h2] at h; cases h
  rw [if_neg h2] at h
  by_cases h3 : ((hrd r).m = 2 ∨ (hrd r).m = 3) ∧ r.length - (hrd r).u < (hrd r).n
  · rw [if_pos h3] at h; cases h
  have h4 : ¬ r.length - (hrd r).u < (hrd r).n := fun e => h3 ⟨hm, e⟩
  unfold rbody
  rw [if_pos hm, List.length_take, List.length_drop]
  omega
/-- The bytes of an item that is taken. -/
theorem item_back {r : List Nat} (hb : ∀ x ∈ r, x < 256) {want : Nat} {full : Bool} {ks : List ByteArray} (h : rtake want full ks r = 0) :
    r.take (rused r) = (if (hrd r).m = 7 then (if (hrd r).i = 27 then 251 :: be 8 (hrd r).n else [224 + (hrd r).i]) else hl (hrd r).m (hrd r).n) ++ rbody r := by
  obtain ⟨hl, -⟩ := rtake_look h
  have hs : (hrd r).s = true := by
    unfold rtake at h
    by_cases h1 : rnest r = true ∧ full = true
    · rw [if_pos h1] at h; cases h
    rw [if_neg h1, if_neg (fun e => e hl)] at h
    by_cases h2 : (hrd r).s = false ∨ (want = 1 ∧ rrise ks (nstr (rbody r)) = false)
    · rw [if_pos h2] at h; cases h
    rcases Bool.eq_false_or_eq_true (hrd r).s with e | e
    · exact e
    · exact absurd (.inl e) h2
  have hu : rused r = (hrd r).u + (rbody r).length := rfl
  rw [hu, List.take_add, head_back hb hl hs]
  congr 1
  by_cases hm : (hrd r).m = 2 ∨ (hrd r).m = 3
  · rw [body_len hl hm]
    unfold rbody
    rw [if_pos hm]
  · unfold rbody
    rw [if_neg hm]
    rfl
end
section
open Go.RowKit Go
/-! ### What is read is a tree, and its form is what was read -/
/-- The keys of each map rise. -/
inductive Rsn : Tv → Prop
  | mk (t : Tv) (hk : ∀ (i : Nat) (s s' : ByteArray), t.ks[i]? = some s → t.ks[i + 1]? = some s' → bfr (sl s) (sl s') = true) (hi : ∀ u ∈ t.is, Rsn u) : Rsn t
structure Gd (d a : Nat) (t : Tv) : Prop where
  c : chkf t a = 0
  d : tdepth t + a ≤ d
  r : Rsn t
structure Ngd (d a more : Nat) (x : Nst) : Prop where
  lt : a < d
  k : x.k = 8 ∨ x.k = 9
  l : x.k = 8 → x.ks = []
  m : x.k = 9 → x.ks.length = x.is.length + more
  i : ∀ u ∈ x.is, Gd d (a + 1) u
  r : ∀ (i : Nat) (s s' : ByteArray), x.ks[i]? = some s → x.ks[i + 1]? = some s' → bfr (sl s) (sl s') = true
  b : ∀ s ∈ x.ks, badb s = false
def Sgd (d : Nat) : List Nst → Nat → Prop
  | [], _ => True
  | x :: q, m => Ngd d q.length m x ∧ Sgd d q 1
def npre (x : Nst) : List Nat := hl (if x.k = 8 then 4 else 5) (x.is.length + x.n) ++ (if x.k = 8 then tfmL x.is else tfmK x.ks x.is)
def spre : List Nst → List Nat
  | [] => []
  | x :: q => spre q ++ npre x
def lpre : Lab → List Nat
  | .plain => []
  | .name => hl 6 42
  | .done v => tfm v
  | .inside => []
def lmore : Lab → Nat
  | .inside => 0
  | _ => 1
structure Bk8 (b : List Nat) (d : Nat) (s : Mst) : Prop where
  t : b.take s.p = spre s.st ++ lpre s.lab
  g : Sgd d s.st (lmore s.lab)
  v : ∀ v, s.lab = .done v → Gd d s.st.length v
theorem tdepthL_le : ∀ {l : List Tv} {n : Nat}, (∀ u ∈ l, tdepth u ≤ n) → tdepthL l ≤ n
  | [], _, _ => by rw [tdepthL]; exact Nat.zero_le _
  | t :: r, n, h => by
    rw [tdepthL]
    have h1 := h t (List.mem_cons_self ..)
    have h2 := tdepthL_le (l := r) (n := n) (fun u hu => h u (List.mem_cons_of_mem _ hu))
    omega
theorem look_may {want : Nat} {r : List Nat} (h : rlook want r = 0) : rmay (hrd r) (rbody r) = true := by
  unfold rlook at h
  by_cases h20 : (hrd r).e = 20
  · rw [if_pos h20] at h; cases h
  rw [if_neg h20] at h
  by_cases h2 : (hrd r).e ≠ 0 ∨ (hrd r).i = 31
  · rw [if_pos h2] at h; cases h
  rw [if_neg h2] at h
  by_cases h3 : ((hrd r).m = 2 ∨ (hrd r).m = 3) ∧ r.length - (hrd r).u < (hrd r).n
  · rw [if_pos h3] at h; cases h
  rw [if_neg h3] at h
  by_cases h4 : rmay (hrd r) (rbody r) = false ∨ rfit want (hrd r) (rbody r) = false
  · rw [if_pos h4] at h; cases h
  rcases Bool.eq_false_or_eq_true (rmay (hrd r) (rbody r)) with e | e
  · exact e
  · exact absurd (.inl e) h4
theorem body_none {r : List Nat} (h : ¬ ((hrd r).m = 2 ∨ (hrd r).m = 3)) : rbody r = [] := by
  unfold rbody
  rw [if_neg h]
theorem body_byte {r : List Nat} (hb : ∀ x ∈ r, x < 256) : ∀ x ∈ rbody r, x < 256 := by
  intro x hx
  unfold rbody at hx
  split at hx
  · exact hb x (List.mem_of_mem_drop (List.mem_of_mem_take hx))
  · cases hx
theorem bad0 : badb ⟨#[]⟩ = false := by kernel_rfl
theorem fin0 : finb 0 = true := by kernel_rfl
theorem hrd_m7 {r : List Nat} (hb : ∀ x ∈ r, x < 256) : (hrd r).m ≤ 7 := by
  cases r with
  | nil => decide
  | cons x q =>
    have hx := hb x (List.mem_cons_self ..)
    by_cases h1 : 27 < x % 32
    · by_cases h2 : x % 32 = 31 ∧ x / 32 ≠ 0 ∧ x / 32 ≠ 1 ∧ x / 32 ≠ 6
      · rw [hrd_end h2.1 h2.2]; show x / 32 ≤ 7; omega
      · rw [hrd_info h1 h2]; exact Nat.zero_le _
    · by_cases h2 : x % 32 < 24
      · rw [hrd_small h2]; show x / 32 ≤ 7; omega
      · by_cases h3 : q.length < hwide (x % 32)
        · rw [hrd_short (by omega) (by omega) h3]; exact Nat.zero_le _
        · by_cases h4 : x / 32 = 7 ∧ x % 32 = 24 ∧ bnum 0 (q.take (hwide (x % 32))) < 32
          · rw [hrd_low h4.2.1 h3 h4.1 h4.2.2]; exact Nat.zero_le _
          · rw [hrd_long (by omega) (by omega) h3 h4]; show x / 32 ≤ 7; omega
/-- What a leaf is. -/
theorem leaf_kind {r : List Nat} (hb : ∀ x ∈ r, x < 256) (h : rlook 0 r = 0) (h4 : (hrd r).m ≠ 4) (h5 : (hrd r).m ≠ 5) (h6 : (hrd r).m ≠ 6) (a d : Nat) (ha : a ≤ d) :
    tfm (rleaf (hrd r) (rbody r)) = (if (hrd r).m = 7 then (if (hrd r).i = 27 then 251 :: be 8 (hrd r).n else [224 + (hrd r).i]) else hl (hrd r).m (hrd r).n) ++ rbody r ∧ Gd d a (rleaf (hrd r) (rbody r)) := by
  have hmay := look_may h
  have hy := body_byte hb
  have hlen := body_len h
  have hnone := body_none (r := r)
  have h7 := hrd_m7 hb
  generalize rbody r = y at *
  generalize hrd r = hh at *
  obtain ⟨m, i, n, u, s, e⟩ := hh
  simp only at *
  have gd : ∀ t : Tv, onef t a = 0 → t.is = [] → ¬ (t.k = 8 ∨ t.k = 9) → t.ks = [] → Gd d a t := fun t h1 h2 h3 h4 => by
    refine ⟨?_, ?_, Rsn.mk t (fun i s s' hs => by rw [h4] at hs; simp at hs) (fun u hu => by rw [h2] at hu; cases hu)⟩
    · rw [chkf_eq, if_pos h1, h2, chkL]
    · rw [tdepth_eq, if_neg h3]; omega
  unfold rmay at hmay
  unfold rleaf
  by_cases m01 : m = 0 ∨ m = 1
  · simp only [m01, if_true]
    refine ⟨?_, gd _ ?_ rfl (by show ¬ ((3 : Int) = 8 ∨ (3 : Int) = 9); decide) rfl⟩
    · rw [if_neg (by omega), hnone (by omega), List.append_nil]
      unfold tfm
      simp
      rcases m01 with e | e <;> simp [e]
    · unfold onef tidyf Tv.zr Tv.cl
      simp [Tv.k, Tv.f, Tv.g, Tv.n, Tv.b, Tv.s, Tv.y, Tv.l, Tv.ks, Tv.is, fin0, bad0]
  simp only [m01, if_false]
  by_cases m2 : m = 2
  · simp only [m2, if_true]
    refine ⟨?_, gd _ ?_ rfl (by show ¬ ((6 : Int) = 8 ∨ (6 : Int) = 9); decide) rfl⟩
    · rw [if_neg (by decide), ← hlen (.inl m2)]
      unfold tfm
      simp
    · unfold onef tidyf Tv.zr Tv.cl
      simp [Tv.k, Tv.f, Tv.g, Tv.n, Tv.b, Tv.s, Tv.y, Tv.l, Tv.ks, Tv.is, fin0, bad0]
  simp only [m2, if_false]
  by_cases m3 : m = 3
  · simp only [m3, if_true] at hmay ⊢
    have hbad : badb (nstr y) = false := by simpa using hmay
    refine ⟨?_, gd _ ?_ rfl (by show ¬ ((5 : Int) = 8 ∨ (5 : Int) = 9); decide) rfl⟩
    · rw [if_neg (by decide), ← hlen (.inr m3)]
      unfold tfm kfm
      rw [sl_nstr hy]
      simp
    · unfold onef tidyf Tv.zr Tv.cl
      simp [Tv.k, Tv.f, Tv.g, Tv.n, Tv.b, Tv.s, Tv.y, Tv.l, Tv.ks, Tv.is, fin0, hbad]
  simp only [m3, if_false] at hmay ⊢
  have m7 : m = 7 := by omega
  simp only [m7] at hmay ⊢
  rw [hnone (by omega), List.append_nil]
  simp only [if_true]
  simp [rknown] at hmay
  by_cases i27 : i = 27
  · simp only [i27, if_true]
    have hf : finb n = true := by
      rcases hmay with h1 | h1
      · omega
      · exact h1.2
    refine ⟨?_, gd _ ?_ rfl (by show ¬ ((4 : Int) = 8 ∨ (4 : Int) = 9); decide) rfl⟩
    · unfold tfm
      simp
    · unfold onef tidyf Tv.zr Tv.cl
      simp [Tv.k, Tv.f, Tv.g, Tv.n, Tv.b, Tv.s, Tv.y, Tv.l, Tv.ks, Tv.is, hf, bad0]
  simp only [i27, if_false]
  have hi : i = 20 ∨ i = 21 ∨ i = 22 := by
    rcases hmay with h1 | h1
    · exact h1
    · exact absurd h1.1 i27
  by_cases i22 : i = 22
  · simp only [i22, if_true]
    refine ⟨?_, gd _ ?_ rfl (by show ¬ ((1 : Int) = 8 ∨ (1 : Int) = 9); decide) rfl⟩
    · unfold tz8 tfm
      simp
    · unfold onef tidyf Tv.zr Tv.cl tz8
      simp [Tv.k, Tv.f, Tv.g, Tv.n, Tv.b, Tv.s, Tv.y, Tv.l, Tv.ks, Tv.is, fin0, bad0]
  simp only [i22, if_false]
  refine ⟨?_, gd _ ?_ rfl (by show ¬ ((2 : Int) = 8 ∨ (2 : Int) = 9); decide) rfl⟩
  · unfold tfm
    have h20 : i = 20 ∨ i = 21 := by omega
    rcases h20 with e | e <;> simp [e]
  · unfold onef tidyf Tv.zr Tv.cl
    simp [Tv.k, Tv.f, Tv.g, Tv.n, Tv.b, Tv.s, Tv.y, Tv.l, Tv.ks, Tv.is, fin0, bad0]
end
section
open Go.RowKit Go
set_option maxRecDepth 1000000 in
set_option maxHeartbeats 1000000 in
theorem check_any (w : World) (l : Lk) (hl : Lkb l) : Calls Tryz.prog 138 #[lkv l] w fun e w' => e = .returned (.int .i64 (if lok l then 0 else 40)) ∧ Below w.heap.size w w' := by
  generalize hR : (if lok l then (0 : Int) else 40) = R
  have HR := hide hR
  clear hR
  have HL := hide hl
  have HLO : Hid (∀ x ∈ (⟨0, 112, 18, l.d⟩ : Lk).d, x < 256) := hl.d
  have HOL : Hid (lcs ⟨0, 112, 18, l.d⟩ = #[.int .i64 0, .int .u64 112, .int .u64 18, .string (nstr l.d)]) := rfl
  have HT : Hid ((w.alloc (.cells #[.int .i64 l.v, .int .u64 (l.c : Nat), .int .u64 (l.h : Nat), .string (nstr l.d)] 63)).heap[w.heap.size]? = some (.cells (lcs l) 63 (0, 0))) := heap_alloc_new w _
  have HBQ := hide (below_alloc4 w (.cells #[.int .i64 l.v, .int .u64 (l.c : Nat), .int .u64 (l.h : Nat), .string (nstr l.d)] 63))
  simp only [lkv]
  go_enter Tryz.func138, Tryz.ntmps138
  go_wp2_with fail
  generalize w.alloc (.cells #[.int .i64 l.v, .int .u64 (l.c : Nat), .int .u64 (l.h : Nat), .string (nstr l.d)] 63) = w0 at *
  go_cut [3] (fun c wx => c = .bool (decide (l = ⟨0, 112, 18, l.d⟩) && decide (okd l.h l.d)) ∧ Hid (Below w0.heap.size w0 wx))
  case first => as_aux_lemma =>
    have q3 : ∀ t : Ext w0, t.w'.cell? ⟨w.heap.size, 3, none⟩ = some (.string (nstr l.d)) := fun t => Ext.cell (blk_cell HT.out rfl) t
    have HQ : Hid (∀ wx, (∃ t : Ext w0, wx = t.w') → wx.heap[w.heap.size]? = some (.cells (lcs l) 63 (0, 0))) := by
      rintro _ ⟨t, rfl⟩
      exact (t.h.block _ (blk_lt HT.out)).trans HT.out
    have HCO : Hid (∀ t : Ext w0, Calls Tryz.prog 163 #[.string (nstr l.d)] t.w' fun e w'' => e = .returned (.agg (lcs ⟨0, 112, 18, l.d⟩)) ∧ ∃ t' : Ext w0, w'' = t'.w') := fun t => Calls.ext_below (old_any t.w' (nstr l.d))
    have HCF : Hid (∀ t : Ext w0, Calls Tryz.prog 164 #[.agg (lcs l)] t.w' fun e w'' => e = .returned (.bool (decide (okd l.h l.d))) ∧ ∃ t' : Ext w0, w'' = t'.w') := fun t => Calls.ext_below (fits4_any t.w' l HL.out)
    have HEQ : Hid (∀ wx, (∃ t : Ext w0, wx = t.w') → (Op.equalIn 10000 63 (.agg (lcs l)) (.agg (lcs ⟨0, 112, 18, l.d⟩))).run Tryz.prog wx = .ok (decide (l = ⟨0, 112, 18, l.d⟩)) wx) := fun wx _ => eqlk wx HL.out.d HLO.out
    generalize hbb : decide (l = ⟨0, 112, 18, l.d⟩) = bb at *
    generalize lcs ⟨0, 112, 18, l.d⟩ = ol at *
    have HCN : Hid ((lcs l).size = 4) := rfl
    generalize lcs l = cl at *
    clear hbb
    cases bb
    · refine region_ext (by kernel_rfl) (by kernel_rfl) ?_
      repeat (
        refine wpQuiet_step (fun K hK => ?_)
        first
          | (refine qstep_link rfl rfl w.heap.size cl rfl HCN.out HQ.out (hK _ ?_); clear hK K)
          | (refine qstep_eqlk rfl rfl cl ol false rfl rfl HEQ.out (hK _ ?_); clear hK K)
          | (go_simp
             first
               | (refine hK _ ?_; clear hK K)
               | (apply Exists.intro
                  refine ⟨fun _ => ?_, hK _ ?_⟩
                  (first
                    | (go_at_call 163; exact HCO.out _)
                    | (go_at_call 164; exact HCF.out _))
                  clear hK K)))
      refine wpQuiet_nil ?_
      rintro _ ⟨tq, rfl⟩
      go_wp2_with fail
      go_meet
      case rel => exact ⟨rfl, tq.h⟩
    · refine region_ext (by kernel_rfl) (by kernel_rfl) ?_
      repeat (
        refine wpQuiet_step (fun K hK => ?_)
        first
          | (refine qstep_link rfl rfl w.heap.size cl rfl HCN.out HQ.out (hK _ ?_); clear hK K)
          | (refine qstep_eqlk rfl rfl cl ol true rfl rfl HEQ.out (hK _ ?_); clear hK K)
          | (go_simp
             first
               | (refine hK _ ?_; clear hK K)
               | (apply Exists.intro
                  refine ⟨fun _ => ?_, hK _ ?_⟩
                  (first
                    | (go_at_call 163; exact HCO.out _)
                    | (go_at_call 164; exact HCF.out _))
                  clear hK K)))
      refine wpQuiet_nil ?_
      rintro _ ⟨tq, rfl⟩
      go_wp2_with fail
      go_meet
      case rel => exact ⟨rfl, tq.h⟩
  case rest => as_aux_lemma =>
    obtain ⟨rfl, hb1⟩ := hcut
    have HT1 : Hid (wc.heap[w.heap.size]? = some (.cells (lcs l) 63 (0, 0))) := (hb1.out.block _ (blk_lt HT.out)).trans HT.out
    have HB1 : Hid (Below w.heap.size w wc) := HBQ.out.trans (hb1.out.mono HBQ.out.size)
    have HK : Hid (lok l ↔ (l = ⟨0, 112, 18, l.d⟩ ∧ okd l.h l.d) ∨ (l.v = 1 ∧ l.c < 9223372036854775808 ∧ okd l.h l.d)) := by
      show _ ↔ _
      unfold lok
      rw [lk_ext]
      constructor
      · rintro (⟨h1, h2, h3, h4⟩ | h)
        · exact .inl ⟨⟨h1, h2, h3, rfl⟩, .inl ⟨h3, h4⟩⟩
        · exact .inr h
      · rintro (⟨⟨h1, h2, h3, _⟩, h | h⟩ | h)
        · exact .inl ⟨h1, h2, h3, h.2⟩
        · simp only at h1 h2 h3
          omega
        · exact .inr h
    clear hb1 HT HBQ HOL HLO
    by_cases hc1 : l = ⟨0, 112, 18, l.d⟩ ∧ okd l.h l.d
    · as_aux_lemma =>
      have e1 : (decide (l = ⟨0, 112, 18, l.d⟩) && decide (okd l.h l.d)) = true := by rw [decide_eq_true hc1.1, decide_eq_true hc1.2]; rfl
      have HZ : Hid (R = 0) := by show _ = _; rw [← HR.out, if_pos (HK.out.2 (.inl hc1))]
      rw [e1]
      clear e1 hc1 HR HK
      go_wp2_with fail
      go_ret
      exact ⟨by rw [HZ.out]; rfl, HB1.out⟩
    · have e1 : (decide (l = ⟨0, 112, 18, l.d⟩) && decide (okd l.h l.d)) = false := by
        rw [Bool.and_eq_false_iff, decide_eq_false_iff_not, decide_eq_false_iff_not]
        exact Decidable.not_and_iff_or_not.1 hc1
      rw [e1]
      have HE : Hid (lok l ↔ (l.v = 1 ∧ l.c < 9223372036854775808 ∧ okd l.h l.d)) := HK.out.trans ⟨fun h => h.resolve_left hc1, .inr⟩
      have q0 : wc.cell? ⟨w.heap.size, 0, none⟩ = some (.int .i64 l.v) := blk_cell HT1.out rfl
      have q1 : wc.cell? ⟨w.heap.size, 1, none⟩ = some (.int .u64 (l.c : Nat)) := blk_cell HT1.out rfl
      have q2 : wc.cell? ⟨w.heap.size, 2, none⟩ = some (.int .u64 (l.h : Nat)) := blk_cell HT1.out rfl
      have q3 : wc.cell? ⟨w.heap.size, 3, none⟩ = some (.string (nstr l.d)) := blk_cell HT1.out rfl
      have HF := hide (fits4_any wc l HL.out)
      simp only [lkv] at HF
      have HCL := hide HL.out.c
      clear e1 hc1 HK HL hl HT1
      generalize nstr l.d = S at *
      obtain ⟨v, c, h, d⟩ := l
      simp only at *
      by_cases hv : v = 1
      · subst hv
        generalize hn : (c : Int) = n at *
        have HN := hide hn
        clear hn
        by_cases hc63 : n < 9223372036854775808
        · as_aux_lemma =>
          have HZ : Hid (R = if okd h d then 0 else 40) := by
            show _ = _
            rw [← HR.out]
            have := HN.out
            by_cases hk : okd h d
            · rw [if_pos hk, if_pos (HE.out.2 ⟨rfl, by omega, hk⟩)]
            · rw [if_neg hk, if_neg (fun e => hk (HE.out.1 e).2.2)]
          clear HE HR HN
          go_wp2_with fail
          refine HF.out.mono ?_
          rintro e w2 ⟨rfl, hb2⟩
          have HB2 : Hid (Below w.heap.size w w2) := HB1.out.trans (hb2.mono HB1.out.size)
          clear hb2 HF
          by_cases hk : okd h d
          · rw [decide_eq_true hk]
            rw [if_pos hk] at HZ
            go_wp2_with fail
            go_ret
            exact ⟨by rw [HZ.out]; rfl, HB2.out⟩
          · rw [decide_eq_false hk]
            rw [if_neg hk] at HZ
            go_wp2_with fail
            go_ret
            exact ⟨by rw [HZ.out]; rfl, HB2.out⟩
        · as_aux_lemma =>
          have g2' : (9223372036854775808 : Int) ≤ n := by omega
          have HZ : Hid (R = 40) := by show _ = _; rw [← HR.out, if_neg (fun e => hc63 (by have := (HE.out.1 e).2.1; have := HN.out; omega))]
          clear HE HR HN hc63
          go_wp2_with fail
          go_ret
          exact ⟨by rw [HZ.out]; rfl, HB1.out⟩
      · as_aux_lemma =>
        have g1 : (v == 1) = false := beq_eq_false_iff_ne.2 hv
        have HZ : Hid (R = 40) := by show _ = _; rw [← HR.out, if_neg (fun e => hv (HE.out.1 e).1)]
        clear HE HR hv
        go_wp2_with fail
        go_ret
        exact ⟨by rw [HZ.out]; rfl, HB1.out⟩
end
section
open Go.RowKit Go

end
section
open Go.RowKit Go
set_option maxRecDepth 1000000 in
set_option maxHeartbeats 1000000 in
/-- slices.Grow of nil. -/
theorem grow_any (w : World) (n : Nat) (h0 : 0 < n) (hn : n ≤ 1000) :
    Calls Tryz.prog 172 #[.slice none 0 0, .int .i64 (n : Nat)] w fun e w' => ∃ v, e = .returned v ∧ w'.ownsRow w.heap.size 5 1 v 0 (bv []) ∧ Below w.heap.size w w' := by
  obtain ⟨i5, hi, hz0, hz1, hz2⟩ := info5_ex
  have hold : (Builtin.firstCells i5.size 0 (.slice none 0 0)).run Tryz.prog w.drew = .ok ([] : List Value).toArray w.drew := run_firstCells_none w.drew i5.size 0 0 0
  have hrz : ∀ ty, (Builtin.append_ #[23, 3] ty #[.slice none 0 0, .int .i64 (n : Nat)]).run Tryz.prog w = .ok (.slice (some ⟨w.heap.size, 0, none⟩) n (grownCap w n 0 5)) (w.drew.alloc (.cells (Builtin.zeroCells (Value.int .u8 0).cells n ++ Builtin.zeroCells (Value.int .u8 0).cells (grownCap w n 0 5 - n)) 5)) := fun ty => by
    have h := Lib.run_append_grow_zeros w 23 3 ty 5 i5 (.int .u8 0) .i64 .i64 Tryz.underlying23 Tryz.underlying3 hi hz0 none 0 0 [] hold n h0 (by rw [hz1]; omega) (by omega) (by omega) (by rw [hz2]; omega) (growslice_fits (by omega) (by rw [hz2]; omega))
    simpa using h
  have hG := grownCap_ge w n 0 5
  have hM := grownCap_le_maxLen w n 0 5 (by unfold maxLen; omega)
  have HO : Hid ((w.drew.alloc (.cells (Builtin.zeroCells (Value.int .u8 0).cells n ++ Builtin.zeroCells (Value.int .u8 0).cells (grownCap w n 0 5 - n)) 5)).ownsRow w.heap.size 5 1 (.slice (some ⟨w.heap.size, 0, none⟩) 0 (grownCap w n 0 5)) 0 (bv [])) := by
    refine ⟨rfl, .inr ⟨w.heap.size, grownCap w n 0 5, _, rfl, Nat.le_refl _, heap_alloc_new w.drew _, by omega, hM, ?_, by simp [bv]⟩⟩
    simp [Builtin.zeroCells, Value.cells]
    omega
  have HB : Hid (Below w.heap.size w (w.drew.alloc (.cells (Builtin.zeroCells (Value.int .u8 0).cells n ++ Builtin.zeroCells (Value.int .u8 0).cells (grownCap w n 0 5 - n)) 5))) := (Below.refl w.heap.size w).drew.alloc (Nat.le_refl _) _
  clear hold hi hz0 hz1 hz2
  have h1 : ¬ ((n : Int) < 0) := by omega
  have h4 : (n : Int) > 0 := by omega
  have hG63 : (grownCap w n 0 5 : Int) ≤ 9223372036854775807 := by unfold maxLen at hM; omega
  generalize grownCap w n 0 5 = G at *
  go_enter Tryz.func172, Tryz.ntmps172
  go_wp2_with (at_builtin; refine Lib.wpList_append_run _ rfl _ _ _ _ rfl _ _ rfl rfl _ _ (hrz _) ?_)
  go_ret
  exact ⟨_, rfl, HO.out, HB.out⟩
end
section
open Go.RowKit Go
/-- Rows of bytes in a block of slices. -/
structure Rws (w : World) (g : Nat) (vs : List Value) (xss : List (List Nat)) : Prop where
  n : vs.length = xss.length
  c : ∀ i, i < vs.length → w.cell? ⟨g, i, none⟩ = some (vs.getD i undef)
  b : ∀ i, i < vs.length → BSl w (vs.getD i undef) (xss.getD i [])
theorem Rws.below {w w' : World} {g : Nat} {vs : List Value} {xss : List (List Nat)} (h : Rws w g vs xss) (hb : Below w.heap.size w w') : Rws w' g vs xss :=
  ⟨h.n, fun i hi => keep_below hb _ _ (h.c i hi), fun i hi => (h.b i hi).move (keep_below hb)⟩
/-- How many bytes the first k rows have, and all bytes. -/
def fln (xss : List (List Nat)) (k : Nat) : Nat := (xss.take k).flatten.length
def fla (xss : List (List Nat)) (k : Nat) : List Nat := (xss.take k).flatten
theorem fla_len (xss : List (List Nat)) (k : Nat) : (fla xss k).length = fln xss k := rfl
theorem fla_succ (xss : List (List Nat)) (k : Nat) (hk : k < xss.length) : fla xss (k + 1) = fla xss k ++ xss.getD k [] := by
  unfold fla
  rw [List.take_succ_eq_append_getElem hk, List.flatten_append]
  simp [List.getD, hk]
theorem fln_succ (xss : List (List Nat)) (k : Nat) (hk : k < xss.length) : fln xss (k + 1) = fln xss k + (xss.getD k []).length := by
  rw [← fla_len, ← fla_len, fla_succ xss k hk, List.length_append]
theorem fln_le (xss : List (List Nat)) (k : Nat) : fln xss k ≤ fln xss xss.length := by
  unfold fln
  rw [List.take_length]
  conv => rhs; rw [← List.take_append_drop k xss, List.flatten_append, List.length_append]
  omega
end
section
open Go.RowKit Go
/-- What Bytes lays. -/
def lrow (l : Lk) : List Nat := if lok l then lbytes l else []
theorem lrow_byte {l : Lk} (h : ∀ x ∈ l.d, x < 256) : ∀ x ∈ lrow l, x < 256 := by
  unfold lrow
  split
  · exact lbytes_byte (by assumption) h
  · simp
end
section
open Go.RowKit Go
/-- What Much tells. -/
structure Muc (is : List Tv) (most r : Nat) : Prop where
  le : r ≤ most + 1125899906842624
  eq : r ≤ most → r = tmuchL is
  gt : most < r → most < tmuchL is
theorem sum_take_le : ∀ (l : List Nat) (k : Nat), (l.take k).sum ≤ l.sum
  | [], k => by simp
  | x :: l, 0 => by simp
  | x :: l, k + 1 => by
    have := sum_take_le l k
    simp only [List.take_succ_cons, List.sum_cons]
    omega
theorem sum_take_succ (l : List Nat) (k : Nat) (h : k < l.length) : (l.take (k + 1)).sum = (l.take k).sum + l.getD k 0 := by
  rw [List.take_succ_eq_append_getElem h, List.sum_append, List.getD_eq_getElem?_getD, List.getElem?_eq_getElem h]
  simp
theorem tmuchL_take_le (l : List Tv) (i : Nat) : tmuchL (l.take i) ≤ tmuchL l := by
  have h := tmuchL_app (l.take i) (l.drop i)
  rw [List.take_append_drop] at h
  omega
set_option maxRecDepth 1000000 in
set_option maxHeartbeats 2000000 in
theorem much_step (N : Nat) (ih : ∀ is : List Tv, SizeOf.sizeOf is < N → ∀ (w : World) (v : Value) (most : Nat), VSl w v is → most ≤ 100000 → Calls Tryz.prog 26 #[v, .int .i64 (most : Nat)] w fun e w' => ∃ r : Nat, e = .returned (.int .i64 (r : Nat)) ∧ Muc is most r ∧ Below w.heap.size w w')
    (is : List Tv) (hN : SizeOf.sizeOf is = N) (w : World) (v : Value) (most : Nat) (hv : VSl w v is) (hm : most ≤ 100000) : Calls Tryz.prog 26 #[v, .int .i64 (most : Nat)] w fun e w' => ∃ r : Nat, e = .returned (.int .i64 (r : Nat)) ∧ Muc is most r ∧ Below w.heap.size w w' := by
  have HIH := hide ih
  have HNN := hide hN
  obtain ⟨⟨a, cap, rfl, hcap, hform⟩, hmax⟩ := hv
  have HF := hide hform
  clear ih hN hcap hform
  go_enter Tryz.func26, Tryz.ntmps26
  go_wp2_with fail
  go_loopw [5, 6] (fun nn ii wx => ∃ i n : Nat, i ≤ is.length ∧ nn = .int .i64 (n : Nat) ∧ ii = .int .i64 (i : Nat) ∧ Hid (Muc (is.take i) most n) ∧ Hid (Below w.heap.size w wx)) (fun _ ii _ => is.length - (intOf ii).toNat)
  case atStart => exact ⟨0, 0, by omega, rfl, rfl, ⟨by omega, fun _ => by simp [tmuchL], fun h => by omega⟩, Below.refl _ _⟩
  case round =>
    obtain ⟨i, n, hi, rfl, rfl, HM, HBw⟩ := hrel
    by_cases hlt : i < is.length
    · have g1 : (i : Int) < (is.length : Int) := by omega
      by_cases hle : n ≤ most
      · have g2 : (n : Int) ≤ (most : Int) := by omega
        obtain ⟨u, hu⟩ : ∃ u, is[i]? = some u := ⟨is[i], List.getElem?_eq_getElem hlt⟩
        obtain ⟨b, off, rfl, hcells⟩ := HF.out.resolve_left (fun h => by rw [h] at hlt; simp at hlt)
        obtain ⟨cu, hcu, hcc⟩ := hcells i u hu
        have HU := hide hcu
        obtain ⟨vy, vk, vi, rfl, hy, hk, hv, hbd⟩ := hcu.parts
        have HTK := hide (takeT _ _ _ hu)
        have HME := hide (tmuch_eq u)
        have HMT : Hid (tmuchL (is.take (i + 1)) = n + tmuch u) := by
          show _ = _
          rw [HTK.out, tmuchL_app, ← HM.out.eq hle]
          simp [tmuchL]
        have hmem := List.mem_of_getElem? hu
        have HLT : Hid (SizeOf.sizeOf u.is < N) := by
          show _ < _
          rw [← HNN.out]
          have h1 := List.sizeOf_lt_of_mem hmem
          obtain ⟨k, f, g, n, b, s, y, l, ks, is'⟩ := u
          simp only [Tv.is, Tv.mk.sizeOf_spec] at h1 ⊢
          omega
        have HVI := hide hv
        have HKS := hide hk
        obtain ⟨⟨ay, cy, rfl, _, _⟩, _, _⟩ := hy
        obtain ⟨⟨ak, ck, rfl, _, hkform⟩, hkmax, hksize⟩ := hk
        obtain ⟨⟨ai, ci, rfl, _, _⟩, _⟩ := hv
        have HKF := hide hkform
        have HCX : Hid (∀ wx, Below w.heap.size w wx → wx.cell? ⟨b, off + i * 13 + 11, none⟩ = some (.slice ak u.ks.length ck) ∧ wx.cell? ⟨b, off + i * 13 + 6, none⟩ = some (.slice ay u.y.length cy) ∧ wx.cell? ⟨b, off + i * 13 + 5, none⟩ = some (.string u.s) ∧ wx.cell? ⟨b, off + i * 13 + 10, none⟩ = some (.string (nstr u.l.d)) ∧ wx.cell? ⟨b, off + i * 13 + 12, none⟩ = some (.slice ai u.is.length ci)) := fun wx hb => ⟨keep_below hb _ _ (hcc 11 _ rfl), keep_below hb _ _ (hcc 6 _ rfl), keep_below hb _ _ (hcc 5 _ rfl), keep_below hb _ _ (hcc 10 _ rfl), keep_below hb _ _ (hcc 12 _ rfl)⟩
        have hds : (nstr u.l.d).size = u.l.d.length := nstr_size hbd.l.d
        have hbs := hbd.s
        have hby := hbd.y
        have hbl := hbd.d
        obtain ⟨c11, c6, c5, c10, _⟩ := HCX.out _ HBw.out
        clear hcells hcc hu hcu hbd hkform hmem HTK
        have ey : (u.y.length : Int) / 64 = ((u.y.length / 64 : Nat) : Int) := by omega
        have es : (u.s.size : Int) / 64 = ((u.s.size / 64 : Nat) : Int) := by omega
        have ed : (u.l.d.length : Int) / 64 = ((u.l.d.length / 64 : Nat) : Int) := by omega
        have hqy : u.y.length / 64 ≤ 2199023255552 := by omega
        have hqs : u.s.size / 64 ≤ 2199023255552 := by omega
        have hqd : u.l.d.length / 64 ≤ 2199023255552 := by omega
        generalize hqy' : u.y.length / 64 = qy at *
        generalize hqs' : u.s.size / 64 = qs at *
        generalize hqd' : u.l.d.length / 64 = qd at *
        clear hqy' hqs' hqd'
        go_wp2_with fail
        go_region
        go_wp2_with fail
        have HB1 : Hid (Below w.heap.size w wr.drew) := HBw.out.drew
        have HSL : Hid ((u.ks.map fun k => k.size / 64).length = u.ks.length) := List.length_map ..
        have HSS : Hid (∀ k s, u.ks[k]? = some s → (u.ks.map fun k => k.size / 64).getD k 0 = s.size / 64) := fun k s h => by
          rw [List.getD_eq_getElem?_getD, List.getElem?_map, h]
          rfl
        generalize (u.ks.map fun k => k.size / 64) = zs at *
        clear c11 c6 c5 c10 HBw hds ey es ed
        have hn1 : (n : Int) + 1 + (u.ks.length : Int) + (qy : Int) + (qs : Int) + (qd : Int) = ((n + 1 + u.ks.length + qy + qs + qd : Nat) : Int) := by omega
        rw [hn1]
        have hN1b : n + 1 + u.ks.length + qy + qs + qd ≤ most + 562949953421312 := by omega
        have HN1 : Hid (n + 1 + u.ks.length + qy + qs + qd = n + tmuch u - zs.sum - tmuchL u.is ∧ zs.sum + tmuchL u.is ≤ tmuch u) := by
          have := HME.out
          exact ⟨by omega, by omega⟩
        clear hn1
        generalize n + 1 + u.ks.length + qy + qs + qd = N1 at *
        go_loopw [5, 7] (fun nn kk wx => ∃ k m : Nat, k ≤ u.ks.length ∧ m ≤ most + 562949953421312 ∧ nn = .int .i64 (m : Nat) ∧ kk = .int .i64 (k : Nat) ∧ Hid (m = N1 + (zs.take k).sum) ∧ Hid (Below w.heap.size w wx)) (fun _ kk _ => u.ks.length - (intOf kk).toNat)
        case atStart => exact ⟨0, N1, by omega, hN1b, rfl, rfl, by show _ = _; simp, HB1⟩
        case round => as_aux_lemma =>
          rename World => wz
          obtain ⟨k, m, hk, hmb, rfl, rfl, HMS, HBz⟩ := hrel
          clear HB1
          obtain ⟨c11, _, _, _, c12⟩ := HCX.out _ HBz.out
          have HEND : Hid ((k = u.ks.length ∨ most < m) → ∃ wy : World, wy = wz) := fun _ => ⟨wz, rfl⟩
          clear HEND
          by_cases hkl : k < u.ks.length
          · have g3 : (k : Int) < (u.ks.length : Int) := by omega
            by_cases hml : m ≤ most
            · have g4 : (m : Int) ≤ (most : Int) := by omega
              obtain ⟨s, hs⟩ : ∃ s, u.ks[k]? = some s := ⟨u.ks[k], List.getElem?_eq_getElem hkl⟩
              obtain ⟨bk, ok, rfl, hkc⟩ := HKF.out.resolve_left (fun h => by rw [h] at hkl; simp at hkl)
              have ck := keep_below HBz.out _ _ (hkc k s hs)
              have hss := hksize s (List.mem_of_getElem? hs)
              have HSU : Hid ((zs.take (k + 1)).sum = (zs.take k).sum + s.size / 64) := by
                show _ = _
                rw [sum_take_succ zs k (by rw [HSL.out]; exact hkl), HSS.out k s hs]
              have eq : (s.size : Int) / 64 = ((s.size / 64 : Nat) : Int) := by omega
              have hqb : s.size / 64 ≤ 2199023255552 := by omega
              clear hs hkc hksize
              generalize s.size / 64 = q at *
              have HM2 : Hid (m + q = N1 + (zs.take (k + 1)).sum) := by have := HMS.out; have := HSU.out; show _ = _; omega
              go_wp2_with fail
              go_roundw
              case rel => exact ⟨k + 1, m + q, by omega, by omega, by go_num, by go_num, HM2, HBz⟩
              case measure => simp [intOf]; omega
            · have g4 : ¬ (m : Int) ≤ (most : Int) := by omega
              have HMU : Hid (Muc (is.take (i + 1)) most m) := by
                have h1 := HMS.out
                have h2 := HN1.out
                have h3 := HMT.out
                have h4 := sum_take_le zs k
                exact ⟨by omega, fun h => by omega, fun _ => by omega⟩
              go_wp2_with fail
              go_roundw
              case rel => exact ⟨i + 1, m, by omega, rfl, by go_num, HMU, HBz⟩
              case measure => simp [intOf]; omega
          · have g3 : ¬ (k : Int) < (u.ks.length : Int) := by omega
            have HFU : Hid (m = N1 + zs.sum) := by
              have h := HMS.out
              rw [List.take_of_length_le (by rw [HSL.out]; omega)] at h
              exact h
            by_cases hml : m ≤ most
            · have g4 : (m : Int) ≤ (most : Int) := by omega
              have e1 : (most : Int) - (m : Int) = ((most - m : Nat) : Int) := by omega
              have HCA := hide (HIH.out u.is HLT.out wz _ (most - m) (HVI.out.move (keep_below HBz.out)) (by omega))
              have HSUM : Hid (∀ r, Muc u.is (most - m) r → Muc (is.take (i + 1)) most (m + r)) := fun r hr => by
                have h1 := HFU.out
                have h2 := HN1.out
                have h3 := HMT.out
                have h4 := hr.le
                have h5 := hr.eq
                have h6 := hr.gt
                exact ⟨by omega, fun h => by have := h5 (by omega); omega, fun h => by have := h6 (by omega); omega⟩
              have HRL : Hid (∀ r, Muc u.is (most - m) r → r ≤ 1125899906942624) := fun r hr => by have := hr.le; show _ ≤ _; omega
              generalize most - m = rest at *
              go_wp2_with fail
              refine HCA.out.mono ?_
              rintro e w5 ⟨r, rfl, hmu, hb5⟩
              have HB5 : Hid (Below w.heap.size w w5) := HBz.out.trans (hb5.mono HBz.out.size)
              have HM5 := hide (HSUM.out r hmu)
              have hr5 := HRL.out r hmu
              clear hb5 hmu HCA HSUM HRL
              go_wp2_with fail
              go_roundw
              case rel => exact ⟨i + 1, m + r, by omega, by go_num, by go_num, HM5, HB5⟩
              case measure => simp [intOf]; omega
            · have g4 : ¬ (m : Int) ≤ (most : Int) := by omega
              have HMU : Hid (Muc (is.take (i + 1)) most m) := by
                have h1 := HFU.out
                have h2 := HN1.out
                have h3 := HMT.out
                exact ⟨by omega, fun h => by omega, fun _ => by omega⟩
              go_wp2_with fail
              go_roundw
              case rel => exact ⟨i + 1, m, by omega, rfl, by go_num, HMU, HBz⟩
              case measure => simp [intOf]; omega
      · as_aux_lemma =>
        have g2 : ¬ (n : Int) ≤ (most : Int) := by omega
        have HMU : Hid (Muc is most n) := by
          have h1 := HM.out.le
          have h2 := HM.out.gt
          have h3 := tmuchL_take_le is i
          exact ⟨by omega, fun h => by omega, fun h => by have := h2 h; omega⟩
        go_wp2_with fail
        go_ret
        exact ⟨n, rfl, HMU.out, HBw.out⟩
    · as_aux_lemma =>
      have g1 : ¬ (i : Int) < (is.length : Int) := by omega
      have HMU : Hid (Muc is most n) := by
        have h := HM.out
        rw [List.take_of_length_le (by omega)] at h
        exact h
      go_wp2_with fail
      go_ret
      exact ⟨n, rfl, HMU.out, HBw.out⟩
theorem much_any (is : List Tv) (w : World) (v : Value) (most : Nat) (hv : VSl w v is) (hm : most ≤ 100000) : Calls Tryz.prog 26 #[v, .int .i64 (most : Nat)] w fun e w' => ∃ r : Nat, e = .returned (.int .i64 (r : Nat)) ∧ Muc is most r ∧ Below w.heap.size w w' := by
  have h : ∀ N, ∀ is : List Tv, SizeOf.sizeOf is = N → ∀ (w : World) (v : Value) (most : Nat), VSl w v is → most ≤ 100000 → Calls Tryz.prog 26 #[v, .int .i64 (most : Nat)] w fun e w' => ∃ r : Nat, e = .returned (.int .i64 (r : Nat)) ∧ Muc is most r ∧ Below w.heap.size w w' := by
    intro N
    induction N using Nat.strongRecOn with
    | _ N ih => exact fun is hN w v most hv hm => much_step N (fun u hu => ih _ hu u rfl) is hN w v most hv hm
  exact h _ is rfl w v most hv hm
end
section
open Go.RowKit Go
/-- Texts as cells. -/
def sv (ks : List ByteArray) : List Value := ks.map fun s => .string s
theorem sv_len (ks : List ByteArray) : (sv ks).length = ks.length := by simp [sv]
theorem sv_app (a b : List ByteArray) : sv (a ++ b) = sv a ++ sv b := by simp [sv]
theorem sv_get {ks : List ByteArray} {j : Nat} {s : ByteArray} (h : ks[j]? = some s) : (sv ks)[j]? = some (.string s) := by simp [sv, h]
theorem sv_one (ks : List ByteArray) : ∀ u ∈ sv ks, u.oneCell' = true := by
  intro u hu
  simp only [sv, List.mem_map] at hu
  obtain ⟨_, _, rfl⟩ := hu
  rfl
theorem info9_ex : ∃ i, Tryz.prog.info? 9 = some i ∧ i.zero = some (.string ⟨#[]⟩) ∧ i.size = 1 ∧ i.bytes = 16 := by
  have h : (Tryz.prog.info? 9).map (fun i => (i.zero, i.size, i.bytes)) = some (some (.string ⟨#[]⟩), 1, 16) := by kernel_rfl
  cases hi : Tryz.prog.info? 9 with
  | none => rw [hi] at h; cases h
  | some i =>
    rw [hi] at h
    injection h with h
    injection h with h1 h2
    injection h2 with h2 h3
    exact ⟨i, rfl, h1, h2, h3⟩
set_option maxRecDepth 1000000 in
/-- 'append(l, x...)' of texts. -/
theorem append_ssl {ops : Array Oper} {rest : List Oper} {o : Oper} {a : Act} {Q : Exit → Act → World → Prop} {w : World} (hgd : o.guard = none) (s x : Operand)
    (ho : o.op = .call { callee := .builtin .append, args := #[s, x], argTypes := #[53, 53] }) (B : Nat) (v : Value) (n : Nat) (ds : List ByteArray) (hs : a.eval s = v) (hown : w.ownsRow B 9 1 v n (sv ds))
    (u : Value) (es : List ByteArray) (hx : a.eval x = u) (hu : SSl w u es) (hlen : n + es.length < 1099511627776) (hbase : B ≤ w.heap.size)
    (h : ∀ v' w', w'.ownsRow B 9 1 v' (n + es.length) (sv (ds ++ es)) → w.grownBy w' v.ownBlock → wpList Tryz.prog ops Q rest (a.put o.dst v') w') : wpList Tryz.prog ops Q (o :: rest) a w := by
  obtain ⟨i, hi, hz0, hz1, hz2⟩ := info9_ex
  obtain ⟨⟨ad, cap, rfl, hn, hc⟩, hmax, _⟩ := hu
  cases ad with
  | none =>
    have hc0 := hn.2 rfl
    have he : es = [] := List.length_eq_zero_iff.1 (by omega)
    subst hc0
    subst he
    refine wpList_append_own_none hgd s x 53 ho B 9 i 1 Tryz.underlying53 hi v n (sv ds) hs hown hx (h v w ?_ ⟨rfl, rfl, rfl, Nat.le_refl _, fun _ _ _ => rfl⟩)
    simpa using hown
  | some ad =>
    refine wpList_append_own_at w hgd s x 53 ho B 9 i (.string ⟨#[]⟩) 1 16 Tryz.underlying53 hi hz0 hz1 hz2 rfl (by decide) v n (sv ds) hs hown ad es.length cap (sv es) hx (by rw [sv_len, Nat.mul_one]) (fun j u hu => ?_) (sv_one es) (by unfold maxLen; omega) (by omega) hbase fun v' w' h1 h2 _ _ => h v' w' (by rw [sv_app]; exact h1) h2
    have hjl : j < es.length := by
      rcases Nat.lt_or_ge j es.length with h | h
      · exact h
      · rw [List.getElem?_eq_none (by rw [sv_len]; exact h)] at hu
        cases hu
    rcases hc with hc | ⟨b, off, e, hc⟩
    · rw [hc] at hjl
      simp at hjl
    · injection e with e
      subst e
      rw [sv_get (List.getElem?_eq_getElem hjl)] at hu
      injection hu with hu
      rw [addr_add, hc j _ (List.getElem?_eq_getElem hjl), hu]
/-- One text, fresh. -/
theorem one_ssl (w : World) (s : ByteArray) (hs : s.size ≤ 140737488351232) : SSl (w.alloc (.cells #[.string s] 9)) (.slice (some ⟨w.heap.size, 0, none⟩) 1 1) [s] := by
  refine ⟨⟨_, 1, rfl, ⟨by simp, fun h => by cases h⟩, .inr ⟨w.heap.size, 0, rfl, fun j t hj => ?_⟩⟩, by simp, by simpa using hs⟩
  match j, hj with
  | 0, hj =>
    simp at hj
    subst hj
    exact blk_cell (heap_alloc_new w _) rfl
  | j + 1, hj => simp at hj
def mk9 : ByteArray := ⟨#[109, 97, 114, 107]⟩
/-- Texts lent. -/
structure Lts (w : World) (base : Nat) (v : Value) (ks : List ByteArray) : Prop where
  own : ∃ g cap, v = .slice (some ⟨g, 0, none⟩) ks.length cap ∧ w.ownsRow base 9 1 (.slice (some ⟨g, 0, none⟩) (ks.length + 9) cap) (ks.length + 9) (sv (ks ++ List.replicate 9 mk9))
  len : ks.length ≤ 100000
  size : ∀ s ∈ ks, s.size ≤ 140737488351232
theorem Lts.below {w w' : World} {base : Nat} {v : Value} {ks : List ByteArray} (h : Lts w base v ks) (hb : Below w.heap.size w w') : Lts w' base v ks := by
  obtain ⟨⟨g, cap, hv, ho⟩, h1, h2⟩ := h
  exact ⟨⟨g, cap, hv, (Kp.of_below (S := fun _ => False) hb).owns ho (fun _ _ hf => hf)⟩, h1, h2⟩
set_option maxRecDepth 1000000 in
set_option maxHeartbeats 400000 in
theorem lendTexts_any (w : World) (v : Value) (ks : List ByteArray) (hsl : SSl w v ks) (hlen : ks.length ≤ 100000) :
    Calls Tryz.prog 27 #[v] w fun e w' => ∃ v', e = .returned v' ∧ Lts w' w.heap.size v' ks ∧ Below w.heap.size w w' := by
  obtain ⟨i9, hi, hz0, hz1, hz2⟩ := info9_ex
  have HSZ := hide hsl.size
  have HSL := hide hsl
  obtain ⟨⟨a, cap, rfl, hn, hc⟩, hmax, hb⟩ := hsl
  clear hn hc hmax hb
  obtain ⟨w0, hmk, hown0, hgr0⟩ := run_make_own (P := Tryz.prog) w w.heap.size 53 9 i9 (.string ⟨#[]⟩) 1 Tryz.underlying53 hi hz0 hz1 .i64 .i64 (ks.length + 9) (by rw [hz2]; omega) (by unfold maxLen; omega) (Nat.le_refl _)
  have ec : ((ks.length + 9 : Nat) : Int) = (ks.length : Int) + 9 := by omega
  rw [ec] at hmk
  clear ec hi hz0 hz1 hz2
  have hbel0 : Below w.heap.size w w0 := (Below.refl _ _).grown hgr0 (Nat.le_refl _) (fun _ h => by cases h)
  have HSL0 := hide (HSL.out.move (keep_below hbel0))
  generalize hB : w.heap.size = B at *
  have HBe := hide hB
  clear hB hgr0
  have HO0 : Hid (w0.ownsRow B 9 1 _ 0 (sv [])) := hown0
  clear hown0
  have HBL0 := hide hbel0
  clear hbel0
  go_enter Tryz.func27, Tryz.ntmps27
  go_wp2_with (at_builtin; refine append_ssl rfl _ _ rfl B _ 0 [] rfl HO0.out _ ks rfl HSL0.out ?b1 ?b2 ?_)
  case b1 => omega
  case b2 => have := HBL0.out.size; have := HBe.out; omega
  intro v1 w1 hown1 hgr1
  have hbel1 : Below B w w1 := HBL0.out.grown hgr1 (by have := HBL0.out.size; have := HBe.out; omega) (fun q hq => (HO0.out.lt q hq).1)
  clear hgr1 HO0 HBL0 HSL0 hmk
  have HO1 := hide hown1
  clear hown1
  have HBL1 := hide hbel1
  clear hbel1
  go_wp2
  go_loopw [3, 4] (fun v i wr => ∃ k : Nat, k ≤ 9 ∧ i = .int .i64 k ∧ Hid (wr.ownsRow B 9 1 v (ks.length + k) (sv (ks ++ List.replicate k mk9))) ∧ Hid (Below B w wr)) (fun _ i _ => 9 - (intOf i).toNat)
  case atStart => exact ⟨0, by omega, rfl, by simpa using HO1, HBL1⟩
  case round =>
    obtain ⟨k, hk, rfl, HO, HBL⟩ := hrel
    clear HO1 HBL1
    by_cases hlt : k < 9
    · have hlt' : (k : Int) < 9 := by omega
      have HR : Hid (ks ++ List.replicate (k + 1) mk9 = ks ++ (List.replicate k mk9 ++ [mk9])) := by show _ = _; rw [List.replicate_succ']
      go_wp2_with (at_builtin; refine append_ssl rfl _ _ rfl B _ (ks.length + k) (ks ++ List.replicate k mk9) rfl (HO.out.alloc _) _ [mk9] rfl (one_ssl _ mk9 (by decide)) ?b1 ?b2 ?_)
      case b1 => simp; omega
      case b2 => have := HBL.out.size; have := HBe.out; simp; omega
      intro v2 w2 hown2 hgr2
      have hbel2 : Below B w w2 := (HBL.out.alloc (by have := HBL.out.size; have := HBe.out; omega) _).grown hgr2 (by have := HBL.out.size; have := HBe.out; simp; omega) (fun q hq => (HO.out.lt q hq).1)
      have HO2 : Hid (w2.ownsRow B 9 1 v2 (ks.length + (k + 1)) (sv (ks ++ List.replicate (k + 1) mk9))) := by show World.ownsRow _ _ _ _ _ _ _; rw [HR.out]; exact hown2
      have HBL2 := hide hbel2
      clear hgr2 hown2 hbel2
      go_wp2
      go_roundw
      case rel => exact ⟨k + 1, by omega, by go_num, HO2, HBL2⟩
      case measure => simp [intOf]; omega
    · have hlt' : ¬ (k : Int) < 9 := by omega
      have hk70 : k = 9 := by omega
      have ho := HO.out
      rw [hk70] at ho
      rcases ho.2 with ⟨_, h0⟩ | ⟨g, cap', cur, hv, _, hg, h1, h2, h3, h4⟩
      · omega
      subst hv
      have HO2 := hide ho
      have h2' : ks.length ≤ cap' := by omega
      clear ho h3 h4 hg HO hlt cur
      subst hk70
      go_wp2
      go_ret
      exact ⟨_, rfl, ⟨⟨g, cap', rfl, HO2.out⟩, hlen, HSZ.out⟩, HBL.out⟩
end
section
open Go.RowKit Go
theorem Lts.cell {w : World} {base g cap : Nat} {ks : List ByteArray} (h : w.ownsRow base 9 1 (.slice (some ⟨g, 0, none⟩) (ks.length + 9) cap) (ks.length + 9) (sv (ks ++ List.replicate 9 mk9))) : (∀ j s, ks[j]? = some s → w.cell? ⟨g, j, none⟩ = some (.string s)) ∧ (∀ j, j < 9 → w.cell? ⟨g, ks.length + j, none⟩ = some (.string mk9)) ∧ ks.length + 9 ≤ cap := by
  refine ⟨fun j s hj => ?_, fun j hj => ?_, ?_⟩
  · refine (own_cell h (sv_get ?_)).1
    rw [List.getElem?_append_left (List.getElem?_eq_some_iff.1 hj).1]
    exact hj
  · refine (own_cell h (sv_get ?_)).1
    rw [List.getElem?_append_right (by omega), Nat.add_sub_cancel_left, List.getElem?_replicate_of_lt hj]
  · rcases h.2 with ⟨hv, _⟩ | ⟨g', cap', cur, hv, _, _, h1, _⟩
    · cases hv
    · injection hv with _ _ e
      subst e
      exact h1
theorem str_ne (s : ByteArray) : (s.toList != s.toList) = false := by simp
set_option maxRecDepth 1000000 in
set_option maxHeartbeats 400000 in
theorem backTexts_any {w : World} {base : Nat} {v : Value} {ks : List ByteArray} (h : Lts w base v ks) (u : Value) (hu : SSl w u ks) :
    Calls Tryz.prog 33 #[v, u] w fun e w' => e = .returned (.bool true) ∧ Below w.heap.size w w' := by
  obtain ⟨⟨g, cap, rfl, ho⟩, hlen, _⟩ := h
  obtain ⟨hc1, hc2, hcap⟩ := Lts.cell ho
  have HC1 := hide hc1
  have HC2 := hide hc2
  obtain ⟨⟨au, cu, rfl, _, hf⟩, _, _⟩ := hu
  have HF := hide hf
  have hcap2 : (ks.length : Int) + 9 ≤ (cap : Int) := by omega
  clear ho hc1 hc2 hf hcap
  go_enter Tryz.func33, Tryz.ntmps33
  go_wp2_with fail
  go_loopw [5] (fun ii wx => ∃ i : Nat, i ≤ ks.length ∧ ii = .int .i64 (i : Nat) ∧ Hid (Below w.heap.size w wx)) (fun ii _ => ks.length - (intOf ii).toNat)
  case atStart => exact ⟨0, by omega, rfl, Below.refl _ _⟩
  case round =>
    obtain ⟨i, hi, rfl, HBw⟩ := hrel
    by_cases hlt : i < ks.length
    · as_aux_lemma =>
      have g1 : (i : Int) < (ks.length : Int) := by omega
      obtain ⟨s, hs⟩ : ∃ s, ks[i]? = some s := ⟨ks[i], List.getElem?_eq_getElem hlt⟩
      obtain ⟨b, off, rfl, hcc⟩ := HF.out.resolve_left (fun h => by rw [h] at hlt; simp at hlt)
      have c1 := keep_below HBw.out _ _ (HC1.out i s hs)
      have c2 := keep_below HBw.out _ _ (hcc i s hs)
      have hne := str_ne s
      clear hcc hs
      go_wp2_with fail
      go_region
      go_wp2_with fail
      have HB2 : Hid (Below w.heap.size w wr.drew) := HBw.out.drew
      go_roundw
      case rel => exact ⟨i + 1, by omega, by go_num, HB2⟩
      case measure => simp [intOf]; omega
    · have g1 : ¬ (i : Int) < (ks.length : Int) := by omega
      go_wp2_with fail
      go_loopw [7] (fun ii wx => ∃ j : Nat, j ≤ 9 ∧ ii = .int .i64 ((ks.length + j : Nat) : Int) ∧ Hid (Below w.heap.size w wx)) (fun ii _ => ks.length + 9 - (intOf ii).toNat)
      case atStart => exact ⟨0, by omega, by simp, HBw⟩
      case round => as_aux_lemma =>
        rename World => wz
        obtain ⟨j, hj, rfl, HBz⟩ := hrel
        clear HBw
        by_cases hlt2 : j < 9
        · have g2 : ((ks.length + j : Nat) : Int) < (ks.length : Int) + 9 := by omega
          have g3 : (0 : Int) ≤ ((ks.length + j : Nat) : Int) := by omega
          have c1 := keep_below HBz.out _ _ (HC2.out j hlt2)
          have hne := str_ne mk9
          unfold mk9 at c1 hne
          have hkj : ks.length + j + 1 = ks.length + (j + 1) := by omega
          have hm : ks.length + j ≤ 100009 := by omega
          have HK : Hid (∀ x, x = ks.length + j → x + 1 = ks.length + (j + 1)) := fun x e => by rw [e]; exact hkj
          have HLM : Hid (ks.length + j < ks.length + 9) := by show _ < _; omega
          go_wp2_with fail
          go_roundw
          case rel => exact ⟨j + 1, by omega, by go_num, HBz⟩
          case measure => simp [intOf]; omega
        · have g2 : ¬ ((ks.length + j : Nat) : Int) < (ks.length : Int) + 9 := by omega
          go_wp2_with fail
          go_ret
          exact ⟨rfl, HBz.out⟩
end
section
open Go.RowKit Go
/-- The cells of values in a row. -/
def vfl (l : List (Array Value)) : List Value := l.flatMap (·.toList)
theorem vfl_app (a b : List (Array Value)) : vfl (a ++ b) = vfl a ++ vfl b := by simp [vfl]
theorem vfl_len : ∀ {l : List (Array Value)}, (∀ c ∈ l, c.size = 13) → (vfl l).length = l.length * 13
  | [], _ => rfl
  | c :: l, h => by
    have h1 := vfl_len (l := l) (fun d hd => h d (List.mem_cons_of_mem _ hd))
    have h2 := h c (List.mem_cons_self ..)
    have e : vfl (c :: l) = c.toList ++ vfl l := by simp [vfl]
    rw [e, List.length_append, h1, List.length_cons, Array.length_toList, h2]
    omega
theorem vfl_get : ∀ {l : List (Array Value)}, (∀ c ∈ l, c.size = 13) → ∀ (k : Nat) (c : Array Value) (j : Nat) (u : Value), l[k]? = some c → c[j]? = some u → (vfl l)[k * 13 + j]? = some u
  | [], _, k, c, j, u, h, _ => by simp at h
  | d :: l, hs, 0, c, j, u, h, hu => by
    simp at h
    subst h
    have e : vfl (d :: l) = d.toList ++ vfl l := by simp [vfl]
    have hj : j < d.size := (Array.getElem?_eq_some_iff.1 hu).1
    rw [e, List.getElem?_append_left (by simpa using hj)]
    simpa using hu
  | d :: l, hs, k + 1, c, j, u, h, hu => by
    simp at h
    have e : vfl (d :: l) = d.toList ++ vfl l := by simp [vfl]
    have h13 : d.toList.length = 13 := by rw [Array.length_toList]; exact hs d (List.mem_cons_self ..)
    rw [e, List.getElem?_append_right (by omega)]
    have e2 : (k + 1) * 13 + j - d.toList.length = k * 13 + j := by omega
    rw [e2]
    exact vfl_get (fun d hd => hs d (List.mem_cons_of_mem _ hd)) k c j u h hu
/-- The zero value's cells, and those of a mark. -/
def zv : Array Value := #[.int .i64 0, .bool false, .bool false, .int .u64 0, .int .u64 0, .string ⟨#[]⟩, .slice none 0 0, .int .i64 0, .int .u64 0, .int .u64 0, .string ⟨#[]⟩, .slice none 0 0, .slice none 0 0]
def mv : Array Value := #[.int .i64 777, .bool false, .bool false, .int .u64 0, .int .u64 0, .string ⟨#[]⟩, .slice none 0 0, .int .i64 0, .int .u64 0, .int .u64 0, .string ⟨#[]⟩, .slice none 0 0, .slice none 0 0]
theorem infoV_ex : ∃ i, Tryz.prog.info? 65 = some i ∧ i.zero = some (.agg zv) ∧ i.size = 13 ∧ i.bytes = 160 := by
  have h : (Tryz.prog.info? 65).map (fun i => (i.zero, i.size, i.bytes)) = some (some (.agg zv), 13, 160) := by kernel_rfl
  cases hi : Tryz.prog.info? 65 with
  | none => rw [hi] at h; cases h
  | some i =>
    rw [hi] at h
    injection h with h
    injection h with h1 h2
    injection h2 with h2 h3
    exact ⟨i, rfl, h1, h2, h3⟩
/-- Cells that lie in a row of values: each one cell. -/
def one13 (c : Array Value) : Prop := c.size = 13 ∧ ∀ u ∈ c.toList, u.oneCell' = true
theorem fill_one (c cells : Array Value) (h : c.size = 13) (hc : cells.size = 13) : Instr.fill (fun i => some (i * 13, 13)) cells [(0, .agg c)] = some c := by
  obtain ⟨r, hr, hsz, hk⟩ := Great.fill_dense (s := 13) (by decide) [.agg c] 0 cells (by
    intro v hv
    simp only [List.mem_singleton] at hv
    subst hv
    simpa [Value.cells] using h) (by simp; omega)
  have e : r = c := by
    apply Array.ext_getElem?
    intro k
    rw [hk k]
    by_cases h1 : k < 13
    · rw [if_pos ⟨by omega, by simp; omega⟩]
      simp [Value.cells, Nat.div_eq_of_lt h1, Nat.mod_eq_of_lt h1]
    · rw [if_neg (by simp; omega), Array.getElem?_eq_none (by omega), Array.getElem?_eq_none (by omega)]
  rw [e] at hr
  exact hr
theorem wpList_val1 {ops : Array Oper} {rest : List Oper} {o : Oper} {a : Act} {w : World} {Q : Exit → Act → World → Prop} {x0 : Operand} (hg : o.guard = none) (ho : o.op = .buildSlice 22 1 #[(0, x0)]) (c : Array Value) (hc : c.size = 13)
    (h0 : a.eval x0 = .agg c)
    (h : wpList Tryz.prog ops Q rest (a.put o.dst (.slice (some ⟨w.heap.size, 0, none⟩) 1 1)) (w.alloc (.cells c 65))) : wpList Tryz.prog ops Q (o :: rest) a w := by
  obtain ⟨i, hi, hz, hs, _⟩ := infoV_ex
  refine wpList_buildSlice hg 22 65 1 _ ho c i _ Tryz.underlying22 hi hz (by rw [hs]; decide) (by rw [hs]; decide) ?_ h
  rw [hs]
  have e : ((#[(0, x0)] : Array (Nat × Operand)).map fun (i, x) => (i, a.eval x)).toList = [(0, .agg c)] := by simp [h0]
  rw [e]
  exact fill_one c _ hc (by simp)
/-- append of one value. -/
theorem append_val {ops : Array Oper} {rest : List Oper} {o : Oper} {a : Act} {Q : Exit → Act → World → Prop} {w : World} (hgd : o.guard = none) (s x : Operand)
    (ho : o.op = .call { callee := .builtin .append, args := #[s, x], argTypes := #[22, 22] }) (B : Nat) (v : Value) (n : Nat) (ds : List Value) (hs : a.eval s = v) (hown : w.ownsRow B 65 13 v n ds)
    (g : Nat) (c : Array Value) (h13 : one13 c) (hx : a.eval x = .slice (some ⟨g, 0, none⟩) 1 1) (hg : w.heap[g]? = some (.cells c 65 (0, 0))) (hlen : n < 1099511627) (hbase : B ≤ w.heap.size)
    (h : ∀ v' w', w'.ownsRow B 65 13 v' (n + 1) (ds ++ c.toList) → w.grownBy w' v.ownBlock → (v'.ownBlock = v.ownBlock ∨ v'.ownBlock = some w.heap.size) → wpList Tryz.prog ops Q rest (a.put o.dst v') w') : wpList Tryz.prog ops Q (o :: rest) a w := by
  obtain ⟨i, hi, hz0, hz1, hz2⟩ := infoV_ex
  refine wpList_append_own_at w hgd s x 22 ho B 65 i _ 13 160 Tryz.underlying22 hi hz0 hz1 hz2 rfl (by decide) v n ds hs hown ⟨g, 0, none⟩ 1 1 c.toList hx (by rw [Array.length_toList, h13.1]) (fun j u hu => ?_) h13.2 (by unfold maxLen; omega) (by omega) hbase fun v' w' h1 h2 _ h4 => h v' w' h1 h2 ?_
  · have hadd : (⟨g, 0, none⟩ : Addr).add j = ⟨g, j, none⟩ := by unfold Addr.add; split <;> simp_all
    rw [hadd]
    exact blk_cell hg (by simpa using hu)
  · exact h4
/-- A value lent: each of its rows lies in blocks of its own from lo on and below hi, with marks behind it. -/
inductive Ltv (w : World) (lo hi : Nat) : Tv → Array Value → Prop
  | mk (t : Tv) (gy cy gk ck gi ci : Nat) (L : List (Array Value)) (hbd : Tbd t) (hy : Lnt w lo gy cy t.y) (hgy : gy < hi) (hk : w.ownsRow lo 9 1 (.slice (some ⟨gk, 0, none⟩) (t.ks.length + 9) ck) (t.ks.length + 9) (sv (t.ks ++ List.replicate 9 mk9))) (hgk : gk < hi) (hkl : t.ks.length ≤ 100000) (hks : ∀ s ∈ t.ks, s.size ≤ 140737488351232)
      (hv : w.ownsRow lo 65 13 (.slice (some ⟨gi, 0, none⟩) (t.is.length + 9) ci) (t.is.length + 9) (vfl (L ++ List.replicate 9 mv))) (hgi : gi < hi) (hil : t.is.length ≤ 100000) (hL : L.length = t.is.length) (h13 : ∀ c ∈ L, c.size = 13) (hcs : ∀ (i : Nat) (u : Tv) (c : Array Value), t.is[i]? = some u → L[i]? = some c → Ltv w lo hi u c) :
      Ltv w lo hi t (vcs t (.slice (some ⟨gy, 0, none⟩) t.y.length cy) (.slice (some ⟨gk, 0, none⟩) t.ks.length ck) (.slice (some ⟨gi, 0, none⟩) t.is.length ci))
theorem Ltv.size {w : World} {lo hi : Nat} {t : Tv} {c : Array Value} (h : Ltv w lo hi t c) : c.size = 13 := by
  cases h
  rfl
theorem Ltv.one {w : World} {lo hi : Nat} {t : Tv} {c : Array Value} (h : Ltv w lo hi t c) : one13 c := by
  cases h
  refine ⟨rfl, fun u hu => ?_⟩
  simp only [vcs, List.mem_cons, List.not_mem_nil, or_false] at hu
  rcases hu with rfl | rfl | rfl | rfl | rfl | rfl | rfl | rfl | rfl | rfl | rfl | rfl | rfl <;> rfl
theorem Lnt.mono {w : World} {b b' g cap : Nat} {xs : List Nat} (h : Lnt w b g cap xs) (hb : b' ≤ b) : Lnt w b' g cap xs := ⟨own_mono h.own hb, h.byte, h.len⟩
theorem Ltv.kp {w w' : World} {lo hi : Nat} {t : Tv} {c : Array Value} {S : Nat → Prop} (h : Ltv w lo hi t c) (hk : Kp S w w') (hs : ∀ q, lo ≤ q → q < hi → ¬ S q) : Ltv w' lo hi t c := by
  induction h with
  | mk t gy cy gk ck gi ci L hbd hy hgy hkk hgk hkl hks hv hgi hil hL h13 _ ih =>
    have e1 := (hy.own.lt gy rfl).1
    have e2 := (hkk.lt gk rfl).1
    have e3 := (hv.lt gi rfl).1
    exact Ltv.mk t gy cy gk ck gi ci L hbd (hy.kp hk (hs gy e1 hgy)) hgy (hk.owns hkk (fun q hq => by injection hq with hq; subst hq; exact hs _ e2 hgk)) hgk hkl hks (hk.owns hv (fun q hq => by injection hq with hq; subst hq; exact hs _ e3 hgi)) hgi hil hL h13 ih
theorem Ltv.kept {w w' : World} {lo hi : Nat} {t : Tv} {c : Array Value} (h : Ltv w lo hi t c) (hb : Below w.heap.size w w') : Ltv w' lo hi t c := h.kp (Kp.of_below (S := fun _ => False) hb) (fun _ _ _ h => h)
theorem Ltv.mono {w : World} {lo hi lo' hi' : Nat} {t : Tv} {c : Array Value} (h : Ltv w lo hi t c) (h1 : lo' ≤ lo) (h2 : hi ≤ hi') : Ltv w lo' hi' t c := by
  induction h with
  | mk t gy cy gk ck gi ci L hbd hy hgy hkk hgk hkl hks hv hgi hil hL h13 _ ih =>
    exact Ltv.mk t gy cy gk ck gi ci L hbd (hy.mono h1) (by omega) (own_mono hkk h1) (by omega) hkl hks (own_mono hv h1) (by omega) hil hL h13 ih
theorem ssl_lent {w : World} {lo g cap : Nat} {ks : List ByteArray} (h : w.ownsRow lo 9 1 (.slice (some ⟨g, 0, none⟩) (ks.length + 9) cap) (ks.length + 9) (sv (ks ++ List.replicate 9 mk9))) (hl : ks.length ≤ 100000) (hs : ∀ s ∈ ks, s.size ≤ 140737488351232) : SSl w (.slice (some ⟨g, 0, none⟩) ks.length cap) ks := by
  obtain ⟨h1, _, h3⟩ := Lts.cell h
  refine ⟨⟨_, cap, rfl, ⟨by omega, fun h => by cases h⟩, .inr ⟨g, 0, rfl, fun j s hj => ?_⟩⟩, by omega, hs⟩
  rw [Nat.zero_add]
  exact h1 j s hj
/-- A cell of a value in a row of the call's own. -/
theorem own_val {w : World} {B g n m cap k : Nat} {l : List (Array Value)} {c : Array Value} (h : w.ownsRow B 65 13 (.slice (some ⟨g, 0, none⟩) m cap) n (vfl l)) (hl : ∀ c ∈ l, c.size = 13) (hk : l[k]? = some c) : ∀ j u, c[j]? = some u → w.cell? ⟨g, k * 13 + j, none⟩ = some u := fun j u hu => by
  have := h.cells (g := g) rfl (k * 13 + j) u (vfl_get hl k c j u hk hu)
  have hadd : (⟨g, 0, none⟩ : Addr).add (k * 13 + j) = ⟨g, k * 13 + j, none⟩ := by unfold Addr.add; split <;> simp_all
  rw [hadd] at this
  exact this
theorem all13 {L : List (Array Value)} (h : ∀ c ∈ L, c.size = 13) (k : Nat) : ∀ c ∈ L ++ List.replicate k mv, c.size = 13 := fun c hc => by
  rcases List.mem_append.1 hc with hc | hc
  · exact h c hc
  · rw [List.eq_of_mem_replicate hc]
    rfl
theorem Ltv.tin {w : World} {lo hi : Nat} {t : Tv} {c : Array Value} (h : Ltv w lo hi t c) : Tin w t c := by
  induction h with
  | mk t gy cy gk ck gi ci L hbd hy hgy hkk hgk hkl hks hv hgi hil hL h13 _ ih =>
    refine Tin.of hy.bsl (ssl_lent hkk hkl hks) ⟨⟨_, ci, rfl, ⟨?_, fun h => by cases h⟩, .inr ⟨gi, 0, rfl, fun i u hu => ?_⟩⟩, by omega⟩ hbd
    · rcases hv.2 with ⟨e, _⟩ | ⟨g', cap', cur, e, _, _, h1, _⟩
      · cases e
      · injection e with _ _ e
        subst e
        omega
    · have hil2 := (List.getElem?_eq_some_iff.1 hu).1
      have hc : L[i]? = some (L[i]'(by omega)) := List.getElem?_eq_getElem (by omega)
      refine ⟨_, ih i u _ hu hc, fun j v hj => ?_⟩
      rw [Nat.zero_add]
      refine own_val hv (all13 h13 9) ?_ j v hj
      rw [List.getElem?_append_left (by omega)]
      exact hc
end
section
open Go.RowKit Go
/-- A row of texts that lies in blocks of its own reads as these texts, whatever became of the rest. -/
theorem SSl.own {w : World} {base n : Nat} {v : Value} {ks : List ByteArray} (h : w.ownsRow base 9 1 v n (sv ks)) (hn : n = ks.length) (hm : ks.length ≤ 140737488351232) (hs : ∀ s ∈ ks, s.size ≤ 140737488351232) : SSl w v ks := by
  subst hn
  rcases id h.2 with ⟨hv, he⟩ | ⟨g, cap, cur, hv, _, _, h1, _⟩
  · subst hv
    have e : ks = [] := List.length_eq_zero_iff.1 he
    subst e
    exact ⟨⟨none, 0, rfl, ⟨by simp, fun _ => rfl⟩, .inl rfl⟩, hm, hs⟩
  · subst hv
    refine ⟨⟨_, cap, rfl, ⟨by omega, fun h => by cases h⟩, .inr ⟨g, 0, rfl, fun j s hj => ?_⟩⟩, hm, hs⟩
    rw [Nat.zero_add]
    exact (own_cell h (sv_get hj)).1
end
section
open Go.RowKit Go
/-- A value in new memory: each of its rows lies in blocks of its own from lo on and below hi. -/
inductive Ntv (w : World) (lo hi : Nat) : Tv → Array Value → Prop
  | mk (t : Tv) (vy vk vi : Value) (L : List (Array Value)) (hbd : Tbd t) (hyb : ∀ x ∈ t.y, x < 256) (hy : w.ownsRow lo 5 1 vy t.y.length (bv t.y)) (hgy : ∀ q, vy.ownBlock = some q → q < hi) (hk : w.ownsRow lo 9 1 vk t.ks.length (sv t.ks)) (hgk : ∀ q, vk.ownBlock = some q → q < hi) (hkl : t.ks.length ≤ 140737488351232) (hks : ∀ s ∈ t.ks, s.size ≤ 140737488351232)
      (hv : w.ownsRow lo 65 13 vi t.is.length (vfl L)) (hgi : ∀ q, vi.ownBlock = some q → q < hi) (hil : t.is.length ≤ 140737488351232) (hL : L.length = t.is.length) (h13 : ∀ c ∈ L, c.size = 13) (hcs : ∀ (i : Nat) (u : Tv) (c : Array Value), t.is[i]? = some u → L[i]? = some c → Ntv w lo hi u c) :
      Ntv w lo hi t (vcs t vy vk vi)
theorem own_one1 {w : World} {B e s n : Nat} {v : Value} {xs : List Value} (h : w.ownsRow B e s v n xs) : v.oneCell' = true := by
  rcases h.2 with ⟨e, _⟩ | ⟨g, c, cur, e, _⟩ <;> (rw [e]; rfl)
theorem Ntv.size {w : World} {lo hi : Nat} {t : Tv} {c : Array Value} (h : Ntv w lo hi t c) : c.size = 13 := by
  cases h
  rfl
theorem Ntv.one {w : World} {lo hi : Nat} {t : Tv} {c : Array Value} (h : Ntv w lo hi t c) : one13 c := by
  cases h with
  | mk _ vy vk vi L hbd hyb hy hgy hk hgk hkl hks hv hgi hil hL h13 hcs =>
  refine ⟨rfl, fun u hu => ?_⟩
  simp only [vcs, List.mem_cons, List.not_mem_nil, or_false] at hu
  rcases hu with rfl | rfl | rfl | rfl | rfl | rfl | rfl | rfl | rfl | rfl | rfl | rfl | rfl <;> first | rfl | exact own_one1 hy | exact own_one1 hk | exact own_one1 hv
theorem Ntv.kp {w w' : World} {lo hi : Nat} {t : Tv} {c : Array Value} {S : Nat → Prop} (h : Ntv w lo hi t c) (hk : Kp S w w') (hs : ∀ q, lo ≤ q → q < hi → ¬ S q) : Ntv w' lo hi t c := by
  induction h with
  | mk t vy vk vi L hbd hyb hy hgy hkk hgk hkl hks hv hgi hil hL h13 _ ih =>
    exact Ntv.mk t vy vk vi L hbd hyb (hk.owns hy (fun q hq => hs q (hy.lt q hq).1 (hgy q hq))) hgy (hk.owns hkk (fun q hq => hs q (hkk.lt q hq).1 (hgk q hq))) hgk hkl hks (hk.owns hv (fun q hq => hs q (hv.lt q hq).1 (hgi q hq))) hgi hil hL h13 ih
theorem Ntv.kept {w w' : World} {lo hi : Nat} {t : Tv} {c : Array Value} (h : Ntv w lo hi t c) (hb : Below w.heap.size w w') : Ntv w' lo hi t c := h.kp (Kp.of_below (S := fun _ => False) hb) (fun _ _ _ h => h)
theorem Ntv.mono {w : World} {lo hi lo' hi' : Nat} {t : Tv} {c : Array Value} (h : Ntv w lo hi t c) (h1 : lo' ≤ lo) (h2 : hi ≤ hi') : Ntv w lo' hi' t c := by
  induction h with
  | mk t vy vk vi L hbd hyb hy hgy hkk hgk hkl hks hv hgi hil hL h13 _ ih =>
    exact Ntv.mk t vy vk vi L hbd hyb (own_mono hy h1) (fun q hq => Nat.lt_of_lt_of_le (hgy q hq) h2) (own_mono hkk h1) (fun q hq => Nat.lt_of_lt_of_le (hgk q hq) h2) hkl hks (own_mono hv h1) (fun q hq => Nat.lt_of_lt_of_le (hgi q hq) h2) hil hL h13 ih
theorem Ntv.tin {w : World} {lo hi : Nat} {t : Tv} {c : Array Value} (h : Ntv w lo hi t c) : Tin w t c := by
  induction h with
  | mk t vy vk vi L hbd hyb hy hgy hkk hgk hkl hks hv hgi hil hL h13 _ ih =>
    refine Tin.of (BSl.own hy hyb) (SSl.own hkk rfl hkl hks) ?_ hbd
    rcases id hv.2 with ⟨e, h0⟩ | ⟨g, cap, cur, e, _, _, h1, _⟩
    · subst e
      have e2 : t.is = [] := List.length_eq_zero_iff.1 h0
      refine ⟨⟨none, 0, by rw [h0], ⟨by omega, fun _ => rfl⟩, .inl e2⟩, hil⟩
    · subst e
      refine ⟨⟨_, cap, rfl, ⟨by omega, fun h => by cases h⟩, .inr ⟨g, 0, rfl, fun i u hu => ?_⟩⟩, hil⟩
      have hil2 := (List.getElem?_eq_some_iff.1 hu).1
      have hc : L[i]? = some (L[i]'(by omega)) := List.getElem?_eq_getElem (by omega)
      refine ⟨_, ih i u _ hu hc, fun j v hj => ?_⟩
      rw [Nat.zero_add]
      exact own_val hv h13 hc j v hj
end
section
open Go.RowKit Go
theorem one_mv : one13 mv := ⟨rfl, fun u hu => by
  simp only [mv, List.mem_cons, List.not_mem_nil, or_false] at hu
  rcases hu with rfl | rfl | rfl | rfl | rfl | rfl | rfl | rfl | rfl | rfl | rfl | rfl | rfl <;> rfl⟩
theorem tmuchL_mem : ∀ {l : List Tv} {t : Tv}, t ∈ l → tmuch t ≤ tmuchL l
  | [], _, h => by cases h
  | u :: r, t, h => by
    rw [tmuchL]
    rcases List.mem_cons.1 h with h | h
    · subst h
      omega
    · have := tmuchL_mem h
      omega
theorem tmuchL_len : ∀ l : List Tv, l.length ≤ tmuchL l
  | [] => by simp
  | u :: r => by
    have := tmuchL_len r
    have := tmuch_eq u
    rw [tmuchL, List.length_cons]
    omega
end
end Go.Proofs.YtjlknnpgngaooaaGreatDoor

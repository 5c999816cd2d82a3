import Derived.Test.YtfjdpooaipehmaaPa
import Derived.Test.YtfjdpooaipehmaaHf
namespace Go.Proofs.Ytfjdpooaipehmaa
open Go.RowKit

theorem u64_shor (N y : Nat) (hN : N < 72057594037927936) (hy : y < 256) : bits .or .u64 ((N : Int) * 256) (y : Int) = ((256 * N + y : Nat) : Int) := by
  have e : (N : Int) * 256 = ((2 ^ 8 * N : Nat) : Int) := by omega
  rw [e, u64_or_nat _ _ (by omega) (by omega), ← Nat.two_pow_add_eq_or_of_lt (i := 8) hy]
theorem i64_or_nat (a b : Nat) (ha : a < 9223372036854775808) (hb : b < 9223372036854775808) : bits .or .i64 (a : Int) (b : Int) = ((a ||| b : Nat) : Int) := by
  have hx : a ||| b < 2 ^ 63 := Nat.or_lt_two_pow (by omega) (by omega)
  show IntKind.i64.wrap ((BitVec.ofInt 64 (a : Int) ||| BitVec.ofInt 64 (b : Int)).toNat : Int) = _
  rw [BitVec.toNat_or, ofInt_u64 a (by omega), ofInt_u64 b (by omega), IntKind.wrap_i64]
  omega
theorem first_byte (M i : Nat) (hM : M ≤ 7) (hi : i < 32) : bits .or .i64 ((M : Int) * 32) (i : Int) % 256 = ((32 * M + i : Nat) : Int) := by
  have e : (M : Int) * 32 = ((2 ^ 5 * M : Nat) : Int) := by omega
  rw [e, i64_or_nat _ _ (by omega) (by omega), ← Nat.two_pow_add_eq_or_of_lt (i := 5) (by omega)]
  omega
theorem own_nine (w : World) (x : Nat) (o : Obj) : ((w.alloc (.cells #[.int .u8 ((x : Nat) : Int), .int .u8 0, .int .u8 0, .int .u8 0, .int .u8 0, .int .u8 0, .int .u8 0, .int .u8 0, .int .u8 0] 5)).alloc o).ownsRow w.heap.size 5 1 (.slice (some ⟨w.heap.size, 0, none⟩) 1 9) 1 (bv [x]) :=
  ⟨rfl, .inr ⟨w.heap.size, 9, _, rfl, Nat.le_refl _, blk_alloc o (heap_alloc_new w _), by decide, by decide, rfl, rfl⟩⟩
theorem be_get : ∀ k n j, j < k → (be k n).getD j 0 = n / 256 ^ (k - 1 - j) % 256
  | 0, _, _, h => by omega
  | k + 1, n, 0, _ => by simp [be]
  | k + 1, n, j + 1, h => by
    have e : k + 1 - 1 - (j + 1) = k - 1 - j := by omega
    rw [e, ← be_get k n j (by omega)]
    simp [be]
theorem pow_int8 (k : Nat) : (2 : Int) ^ (8 * k) = ((256 ^ k : Nat) : Int) := by
  rw [Int.pow_mul, Int.natCast_pow]; rfl

set_option maxRecDepth 1000000 in
set_option maxHeartbeats 400000 in
theorem argument_any (i : Nat) (w : World) (v : Value) (xs : List Nat) (hi : i ≤ 31) (hsl : BSl w v xs) (h8 : xs.length ≤ 8) :
    Calls Try.prog 34 #[.int .i64 (i : Nat), v] w fun e w' => e = .returned (.int .u64 (if i < 24 then i else bnum 0 xs : Nat)) ∧ w' = w := by
  by_cases h24 : i < 24
  · rw [if_pos h24]
    have g : (i : Int) < 24 := by omega
    obtain ⟨⟨a, cap, rfl, hn, hc⟩, hmax, hb⟩ := hsl
    clear hn hc hb
    go_enter Try.func34, Try.ntmps34
    go_wp2
    go_ret
    exact ⟨rfl, rfl⟩
  · rw [if_neg h24]
    have g : ¬ (i : Int) < 24 := by omega
    have HS := hide hsl
    obtain ⟨⟨a, cap, rfl, hn, hc⟩, hmax, hb⟩ := hsl
    clear hn hc hb
    go_enter Try.func34, Try.ntmps34
    go_wp2
    go_loopw [5, 14] (fun nn k wr => ∃ j : Nat, j ≤ xs.length ∧ k = .int .i64 (j : Nat) ∧ nn = .int .u64 (bnum 0 (xs.take j) : Nat) ∧ wr = w) (fun _ k _ => (xs.length : Int).toNat - (intOf k).toNat)
    case atStart => exact ⟨0, Nat.zero_le _, rfl, rfl, rfl⟩
    case round =>
      obtain ⟨j, hj, rfl, rfl, rfl⟩ := hrel
      by_cases hlt : j < xs.length
      · have hlt' : (j : Int) < (xs.length : Int) := by omega
        obtain ⟨⟨a', cap', hv, hn, hc⟩, hm2, hb⟩ := HS.out
        injection hv with hv1 hv2 hv3
        subst hv1
        subst hv3
        rcases hc with hc | ⟨b, off, rfl, hc⟩
        · subst hc; simp at hlt
        have c := hc j hlt
        have hy : xs.getD j 0 < 256 := getD_lt hb j
        have hN : bnum 0 (xs.take j) < 72057594037927936 := by
          have h1 := bnum_lt (xs.take j) 0 (fun z hz => hb z (List.mem_of_mem_take hz))
          have h2 : (xs.take j).length ≤ 7 := by rw [List.length_take]; omega
          have h3 : 256 ^ (xs.take j).length ≤ 256 ^ 7 := Nat.pow_le_pow_right (by decide) h2
          simp at h1 h3; omega
        have HST : Hid (bnum 0 (xs.take (j + 1)) = 256 * bnum 0 (xs.take j) + xs.getD j 0) := by
          show _ = _
          rw [take_snoc xs j hlt, bnum_snoc]
        have HU := hide (u64_shor _ _ hN hy)
        clear hc hb hn hm2 HS
        generalize bnum 0 (xs.take j) = N at *
        generalize xs.getD j 0 = y at *
        go_wp2
        go_roundw
        case rel => exact ⟨j + 1, by omega, by go_num, by rw [HST.out, ← HU.out], trivial⟩
        case measure => simp [intOf]; omega
      · have hlt' : ¬ (j : Int) < (xs.length : Int) := by omega
        have e : xs.take j = xs := List.take_of_length_le (by omega)
        rw [e]
        go_wp2
        go_ret
        exact ⟨rfl, rfl⟩

theorem make9 (w : World) : (Instr.makeSlice 53 (.int .i64 0) (.int .i64 9)).run Try.prog w = .ok (.slice (some ⟨w.heap.size, 0, none⟩) 0 9) (w.alloc (.cells #[.int .u8 0, .int .u8 0, .int .u8 0, .int .u8 0, .int .u8 0, .int .u8 0, .int .u8 0, .int .u8 0, .int .u8 0] 5)) := by kernel_rfl

set_option maxRecDepth 1000000 in
set_option maxHeartbeats 400000 in
theorem lay_any (m : Int) (n : Nat) (w : World) (hm : -9223372036854775808 ≤ m ∧ m ≤ 9223372036854775807) (hn : n < 18446744073709551616) :
    Calls Try.prog 6 #[.int .i64 m, .int .u64 (n : Nat)] w fun e w' => ∃ v, e = .returned v ∧ w'.ownsRow w.heap.size 5 1 v (hlay m n).length (bv (hlay m n)) ∧ Below w.heap.size w w' := by
  by_cases h0 : 0 ≤ m ∧ m ≤ 7
  · have e : hlay m n = hl m.toNat n := by unfold hlay; rw [if_pos h0]
    rw [e]
    obtain ⟨M, rfl⟩ := Int.eq_ofNat_of_zero_le h0.1
    rw [Int.toNat_natCast]
    have h1 := h0.1
    have h2 := h0.2
    have hM : M ≤ 7 := by omega
    clear e h0 hm
    have HN := hide hn
    clear hn
    have hmk := make9
    go_enter Try.func6, Try.ntmps6
    go_wp2_with fail
    refine (shortest_any n _ HN.out).mono ?_
    rintro e w1 ⟨rfl, rfl⟩
    have hi28 := hinfo_lt n
    have HL : Hid (hl M n = (32 * M + hinfo n) :: be (hwide (hinfo n)) n) := rfl
    generalize hinfo n = i at *
    go_wp2_with fail
    refine (behind_any _ _ (by omega)).mono ?_
    rintro e w2 ⟨rfl, rfl⟩
    rw [first_byte M i hM (by omega)]
    have HO := hide (own_nine w1 (32 * M + i) (.cells #[.int .u8 ((32 * M + i : Nat) : Int)] 5))
    have HBW : Hid (Below w1.heap.size w1 ((w1.alloc (.cells #[.int .u8 ((32 * M + i : Nat) : Int), .int .u8 0, .int .u8 0, .int .u8 0, .int .u8 0, .int .u8 0, .int .u8 0, .int .u8 0, .int .u8 0] 5)).alloc (.cells #[.int .u8 ((32 * M + i : Nat) : Int)] 5))) := ((Below.refl _ _).alloc (Nat.le_refl _) _).alloc (by simp) _
    generalize ((w1.alloc (.cells #[.int .u8 ((32 * M + i : Nat) : Int), .int .u8 0, .int .u8 0, .int .u8 0, .int .u8 0, .int .u8 0, .int .u8 0, .int .u8 0, .int .u8 0] 5)).alloc (.cells #[.int .u8 ((32 * M + i : Nat) : Int)] 5)) = w3 at *
    have hk8 := hwide_le i
    generalize hwide i = k at *
    generalize hB : w1.heap.size = B at *
    have HB := hide hB
    clear hB hmk
    go_wp2
    go_loopw [6, 7] (fun bb q wr => ∃ j : Nat, j ≤ k ∧ q = .int .i64 ((k : Int) - 1 - j) ∧ wr.ownsRow B 5 1 bb (1 + j) (bv ((32 * M + i) :: (be k n).take j)) ∧ Below B w1 wr) (fun _ q _ => (intOf q + 1).toNat)
    case atStart => exact ⟨0, Nat.zero_le _, by simp, by simpa using HO.out, HBW.out⟩
    case round =>
      obtain ⟨j, hj, rfl, hown, hbel⟩ := hrel
      clear HO HBW
      have HO := hide hown
      have HBL := hide hbel
      clear hown hbel
      by_cases hlt : j < k
      · have hlt' : (0 : Int) ≤ (k : Int) - 1 - j := by omega
        have hidx : ((k : Int) - 1 - j) = ((k - 1 - j : Nat) : Int) := by omega
        rw [hidx]
        have hq8 : k - 1 - j < 8 := by omega
        have HTK : Hid ((be k n).take (j + 1) = (be k n).take j ++ [n / 256 ^ (k - 1 - j) % 256]) := by
          show _ = _
          rw [← be_get k n j hlt]
          exact take_snoc _ _ (by rw [be_len]; exact hlt)
        have HID : Hid (((k - 1 - j : Nat) : Int) - 1 = (k : Int) - 1 - ((j + 1 : Nat) : Int)) := by show _ = _; omega
        generalize k - 1 - j = q at *
        clear hidx hlt'
        have hc : ((n / 256 ^ q % 256 : Nat) : Int) = (n : Int) / 2 ^ (8 * q) % 256 := by rw [pow_int8]; omega
        have HSL := hide (one_bsl wr (n / 256 ^ q % 256) (Nat.mod_lt _ (by decide)))
        rw [hc] at HSL
        have HOA := hide (HO.out.alloc (.cells #[.int .u8 ((n : Int) / 2 ^ (8 * q) % 256)] 5))
        clear hc HO
        go_wp2_with (at_builtin; refine append_bsl rfl _ _ rfl B _ (1 + j) _ rfl HOA.out _ [n / 256 ^ q % 256] rfl HSL.out ?b1 ?b2 ?_)
        case b1 => simp; omega
        case b2 => have := HBL.out.size; have := HB.out; simp; omega
        intro v2 w2 hown2 hgr2
        have hlo := fun g (h : _ = some g) => (HOA.out.lt g h).1
        have HB2 : Hid (Below B w1 w2) := (HBL.out.alloc (by have := HBL.out.size; have := HB.out; omega) _).grown hgr2 (by have := HBL.out.size; have := HB.out; simp; omega) (fun g hg => hlo g hg)
        have HO2 : Hid (w2.ownsRow B 5 1 v2 (1 + (j + 1)) (bv ((32 * M + i) :: (be k n).take (j + 1)))) := by
          show World.ownsRow _ _ _ _ _ _ _
          rw [HTK.out]
          have h := hown2
          simpa [Nat.add_assoc] using h
        clear hown2 hgr2 hlo HSL HOA HTK
        go_wp2
        go_roundw
        case rel => exact ⟨j + 1, by omega, by rw [← HID.out], HO2.out, HB2.out⟩
        case measure => simp [intOf]
      · have hjk : j = k := by omega
        subst hjk
        have hlt' : ¬ (0 : Int) ≤ (j : Int) - 1 - j := by omega
        have ho := HO.out
        rw [List.take_of_length_le (by rw [be_len]; exact Nat.le_refl _), ← HL.out] at ho
        have HO2 : Hid _ := hide ho
        clear ho HO
        go_wp2
        go_ret
        have e : (hl M n).length = 1 + j := by rw [HL.out]; simp [be_len]; omega
        rw [e, HB.out]
        exact ⟨_, rfl, HO2.out, HBL.out⟩
  · have e : hlay m n = [] := by unfold hlay; rw [if_neg h0]
    rw [e]
    by_cases hneg : m < 0
    · go_enter Try.func6, Try.ntmps6
      go_wp2
      go_ret
      exact ⟨_, rfl, World.ownsRow_nil _ _ _ _, Below.refl _ _⟩
    · have h7 : 7 < m := by omega
      have hneg' : ¬ m < 0 := hneg
      go_enter Try.func6, Try.ntmps6
      go_wp2
      go_ret
      exact ⟨_, rfl, World.ownsRow_nil _ _ _ _, Below.refl _ _⟩
end Go.Proofs.Ytfjdpooaipehmaa

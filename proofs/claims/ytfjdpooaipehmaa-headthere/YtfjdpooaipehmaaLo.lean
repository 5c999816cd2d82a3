import Derived.Test.YtfjdpooaipehmaaPd
import Derived.Test.YtfjdpooaipehmaaMh
import Derived.Test.YtfjdpooaipehmaaStp
namespace Go.Proofs.Ytfjdpooaipehmaa
open Go.RowKit

set_option maxRecDepth 1000000 in
set_option maxHeartbeats 4000000 in
theorem longer_any (m n : Nat) (w : World) (v : Value) (tl : List Nat) (hm : m ≤ 6) (hn : n < 18446744073709551616) (hsl : BSl w v tl) (htl : tl.length ≤ 1048576) :
    Calls Try.prog 23 #[.int .i64 (m : Nat), .int .u64 (n : Nat), .int .i64 (hsize n : Nat), v] w fun e w' => e = .returned (.bool true) ∧ Below w.heap.size w w' := by
  have HT := hide hsl
  have HN := hide hn
  have hs9 : hsize n ≤ 9 := by have := hwide_le (hinfo n); unfold hsize; omega
  have HWL := hide (fun i h0 h1 => wide_lt (n := n) (i := i) h0 h1)
  have HIL := hide (hinfo_lt n)
  clear hsl hn
  generalize hB : w.heap.size = B
  have HB := hide hB
  clear hB
  go_enter Try.func23, Try.ntmps23
  go_wp2
  go_loopw [9, 10] (fun sz ii wr => ∃ i s : Nat, 24 ≤ i ∧ i ≤ 28 ∧ Hid (s = 2 ^ (i - 24)) ∧ s ≤ 16 ∧ 1 ≤ s ∧ ii = .int .i64 (i : Nat) ∧ sz = .int .i64 (s : Nat) ∧ Below B w wr) (fun _ ii _ => (28 - intOf ii).toNat)
  case atStart => exact ⟨24, 1, by omega, by omega, rfl, by omega, by omega, rfl, rfl, Below.refl _ _⟩
  case round =>
    obtain ⟨i, s, hi24, hi28, HS, hs16, hs1, rfl, rfl, hbel⟩ := hrel
    have HBL := hide hbel
    clear hbel
    by_cases hlt : i < 28
    · have hlt' : (i : Int) < 28 := by omega
      have HW : Hid (hwide i = s) := by
        show _ = _
        rw [HS.out]
        rcases wide_cases i hi24 (by omega) with ⟨rfl, e⟩ | ⟨rfl, e⟩ | ⟨rfl, e⟩ | ⟨rfl, e⟩ <;> rw [e] <;> rfl
      have HS2 : Hid (2 * s = 2 ^ (i + 1 - 24)) := by
        show _ = _
        have e : i + 1 - 24 = (i - 24) + 1 := by omega
        rw [e, Nat.pow_succ, ← HS.out]; omega
      have hs8 : s ≤ 8 := by have := hwide_le i; have := HW.out; omega
      have hwl := HWL.out i hi24 (by omega)
      rw [HW.out] at hwl
      by_cases hbig : hsize n < s + 1
      · have hbig' : (hsize n : Int) < (s : Int) + 1 := by omega
        have HIN : Hid (n < 256 ^ s) := by
          have := hwl.1.1 (by omega)
          have h := fits (i := i) HN.out hi24 (by omega) (by omega)
          rw [HW.out] at h
          exact h
        have HNE : Hid (¬ 1 + s = hsize n) := by show ¬ _; omega
        clear hwl
        have HOW := hide (own_one wr (32 * m + i))
        have hc : (((32 * m + i : Nat)) : Int) = 32 * (m : Int) + (i : Int) := by omega
        rw [hc] at HOW
        have hszr : B ≤ wr.heap.size := by have := HBL.out.size; have := HB.out; omega
        have HBA := hide (HBL.out.alloc hszr (.cells #[.int .u8 (32 * (m : Int) + (i : Int))] 5))
        go_wp2
        generalize hw1 : wr.alloc (.cells #[.int .u8 (32 * (m : Int) + (i : Int))] 5) = w1 at *
        have HO1 : Hid (w1.ownsRow B 5 1 (.slice (some ⟨wr.heap.size, 0, none⟩) 1 1) 1 (bv [32 * m + i])) := own_mono HOW.out hszr
        clear hw1 HOW
        go_loopw [11, 12] (fun bb q wx => ∃ t : Nat, t ≤ s ∧ q = .int .i64 ((s : Int) - 1 - t) ∧ wx.ownsRow B 5 1 bb (1 + t) (bv ((32 * m + i) :: (be s n).take t)) ∧ Below B w wx) (fun _ q _ => (intOf q + 1).toNat)
        case atStart => exact ⟨0, Nat.zero_le _, by simp, by simpa using HO1.out, HBA.out⟩
        case round =>
          obtain ⟨t, ht, rfl, hown, hbel⟩ := hrel
          clear HO1 HBA HBL hszr
          rename World => wz
          have HO := hide hown
          have HBL := hide hbel
          have hszr : B ≤ wz.heap.size := by have := hbel.size; have := HB.out; omega
          clear hown hbel
          by_cases hlt2 : t < s
          · have hlt2' : (0 : Int) ≤ (s : Int) - 1 - t := by omega
            have hidx : ((s : Int) - 1 - t) = ((s - 1 - t : Nat) : Int) := by omega
            rw [hidx]
            have hq8 : s - 1 - t < 8 := by omega
            have HTK : Hid ((be s n).take (t + 1) = (be s n).take t ++ [n / 256 ^ (s - 1 - t) % 256]) := by
              show _ = _
              rw [← be_get s n t hlt2]
              exact take_snoc _ _ (by rw [be_len]; exact hlt2)
            have HID : Hid (((s - 1 - t : Nat) : Int) - 1 = (s : Int) - 1 - ((t + 1 : Nat) : Int)) := by show _ = _; omega
            generalize s - 1 - t = q at *
            clear hidx hlt2'
            have hc : ((n / 256 ^ q % 256 : Nat) : Int) = (n : Int) / 2 ^ (8 * q) % 256 := by rw [pow_int8]; omega
            have HSL := hide (one_bsl wz (n / 256 ^ q % 256) (Nat.mod_lt _ (by decide)))
            rw [hc] at HSL
            have HOA := hide (HO.out.alloc (.cells #[.int .u8 ((n : Int) / 2 ^ (8 * q) % 256)] 5))
            clear hc HO
            go_wp2_with (at_builtin; refine append_bsl rfl _ _ rfl B _ (1 + t) _ rfl HOA.out _ [n / 256 ^ q % 256] rfl HSL.out ?b1 ?b2 ?_)
            case b1 => simp; omega
            case b2 => simp; omega
            intro v2 w2 hown2 hgr2
            have hlo := fun g (h : _ = some g) => (HOA.out.lt g h).1
            have HB2 : Hid (Below B w w2) := (HBL.out.alloc hszr _).grown hgr2 (by simp; omega) (fun g hg => hlo g hg)
            have HO2 : Hid (w2.ownsRow B 5 1 v2 (1 + (t + 1)) (bv ((32 * m + i) :: (be s n).take (t + 1)))) := by
              show World.ownsRow _ _ _ _ _ _ _
              rw [HTK.out]
              have h := hown2
              simpa [Nat.add_assoc] using h
            clear hown2 hgr2 hlo HSL HOA HTK
            go_wp2
            go_roundw
            case rel => exact ⟨t + 1, by omega, by rw [← HID.out], HO2.out, HB2.out⟩
            case measure => simp [intOf]
          · have hjk : t = s := by omega
            subst hjk
            have hlt2' : ¬ (0 : Int) ≤ (t : Int) - 1 - t := by omega
            have ho := HO.out
            rw [List.take_of_length_le (by rw [be_len]; exact Nat.le_refl _)] at ho
            have HO2 : Hid _ := hide ho
            clear ho HO
            have HTZ : Hid (BSl wz v tl) := HT.out.move (keep_below (by rw [HB.out]; exact HBL.out))
            have HTB : Hid (∀ y ∈ ((32 * m + i) :: be t n) ++ tl, y < 256) := by
              intro y hy
              rcases List.mem_append.1 hy with hy | hy
              · rcases List.mem_cons.1 hy with hy | hy
                · omega
                · exact be_byte _ _ _ hy
              · exact HT.out.byte y hy
            have HRD : Hid (hrd (((32 * m + i) :: be t n) ++ tl) = ⟨m, i, n, 1 + t, false, 0⟩) := by
              have h := hrd_be m i n tl hm hi24 (by omega) (by rw [HW.out]; exact HIN.out)
              rw [HW.out, decide_eq_false HNE.out] at h
              exact h
            generalize ((32 * m + i) :: be t n) = D at *
            go_wp2_with (at_builtin; refine append_bsl rfl _ _ rfl B _ (1 + t) D rfl HO2.out _ tl rfl HTZ.out ?b1 ?b2 ?_)
            case b1 => omega
            intro v3 w3 hown3 hgr3
            have HSR := hide (BSl.own hown3 HTB.out)
            have hlo := fun g (h : _ = some g) => (HO2.out.lt g h).1
            have HB3 : Hid (Below B w w3) := HBL.out.grown hgr3 hszr (fun g hg => hlo g hg)
            clear hown3 hgr3 hlo HO2 HTZ HBL hszr
            go_wp2_with fail
            refine (read_any _ _ _ HSR.out).mono ?_
            rintro e w4 ⟨rfl, hb4⟩
            rw [HRD.out]
            simp only [HR.val]
            have HB4 : Hid (Below B w w4) := HB3.out.trans (hb4.mono (by have := HB3.out.size; have := HB.out; omega))
            have hsz4 : B ≤ w4.heap.size := by have := HB4.out.size; have := HB.out; omega
            clear hb4 HSR HB3 HRD
            go_wp2_with fail
            refine (num_any _ _).mono ?_
            rintro e w5 ⟨rfl, rfl⟩
            go_wp2
            go_roundw
            case rel => exact ⟨i + 1, 2 * t, by omega, by omega, HS2, by omega, by omega, by go_num, by go_num, HB4.out.alloc hsz4 _⟩
            case measure => simp [intOf]; omega
      · have hbig' : ¬ (hsize n : Int) < (s : Int) + 1 := by omega
        go_wp2
        go_roundw
        case rel => exact ⟨i + 1, 2 * s, by omega, by omega, HS2, by omega, by omega, by go_num, by go_num, HBL.out⟩
        case measure => simp [intOf]; omega
    · have hlt' : ¬ (i : Int) < 28 := by omega
      go_wp2
      go_ret
      exact ⟨rfl, HBL.out⟩
end Go.Proofs.Ytfjdpooaipehmaa

import Derived.Test.YtfjdpooaipehmaaHf
namespace Go.Proofs.Ytfjdpooaipehmaa
open Go.RowKit

theorem hstep_yes {n j s : Nat} (h24 : 24 ≤ n) (hj : j ≤ 3) (hs : s = 2 ^ j) (hi : 24 + j ≤ hinfo n) (h : n < 256 ^ s) : hinfo n = 24 + j ∧ hwide (24 + j) = s := by
  match j, hj with
  | 0, _ => subst hs; refine ⟨?_, rfl⟩; simp at h; have := hinfo_cases n; omega
  | 1, _ => subst hs; refine ⟨?_, rfl⟩; simp at h; have := hinfo_cases n; omega
  | 2, _ => subst hs; refine ⟨?_, rfl⟩; simp at h; have := hinfo_cases n; omega
  | 3, _ => subst hs; refine ⟨?_, rfl⟩; simp at h; have := hinfo_cases n; omega
theorem hstep_no {n j s : Nat} (h24 : 24 ≤ n) (hn : n < 18446744073709551616) (hj : j ≤ 3) (hs : s = 2 ^ j) (hi : 24 + j ≤ hinfo n) (h : ¬ n < 256 ^ s) : j < 3 ∧ 24 + (j + 1) ≤ hinfo n := by
  match j, hj with
  | 0, _ => subst hs; refine ⟨by omega, ?_⟩; simp at h; have := hinfo_cases n; omega
  | 1, _ => subst hs; refine ⟨by omega, ?_⟩; simp at h; have := hinfo_cases n; omega
  | 2, _ => subst hs; refine ⟨by omega, ?_⟩; simp at h; have := hinfo_cases n; omega
  | 3, _ => subst hs; simp at h; omega
theorem pow_le8 {j s : Nat} (hj : j ≤ 3) (hs : s = 2 ^ j) : s ≤ 8 := by
  subst hs
  exact Nat.pow_le_pow_right (by decide) hj

set_option maxRecDepth 1000000 in
set_option maxHeartbeats 400000 in
theorem refLay_any (m : Int) (n : Nat) (w : World) (hm : -9223372036854775808 ≤ m ∧ m ≤ 9223372036854775807) (hn : n < 18446744073709551616) :
    Calls Try.prog 7 #[.int .i64 m, .int .u64 (n : Nat)] w fun e w' => ∃ v, e = .returned v ∧ w'.ownsRow w.heap.size 5 1 v (hlay m n).length (bv (hlay m n)) ∧ Below w.heap.size w w' := by
  by_cases h0 : 0 ≤ m ∧ m ≤ 7
  · have e : hlay m n = hl m.toNat n := by unfold hlay; rw [if_pos h0]
    rw [e]
    obtain ⟨M, rfl⟩ := Int.eq_ofNat_of_zero_le h0.1
    rw [Int.toNat_natCast]
    have h1 := h0.1
    have h2 := h0.2
    have hM : M ≤ 7 := by omega
    clear e h0 hm
    by_cases h24 : n < 24
    · have h24' : (n : Int) < 24 := by omega
      go_enter Try.func7, Try.ntmps7
      go_wp2
      go_ret
      have e : hl M n = [32 * M + n] := by simp [hl, hinfo, h24, hwide_small h24, be]
      rw [e]
      refine ⟨_, rfl, ?_, (Below.refl _ _).alloc (Nat.le_refl _) _⟩
      have := own_one w (32 * M + n)
      simpa using this
    · have h24' : ¬ (n : Int) < 24 := by omega
      have HN := hide hn
      generalize hB : w.heap.size = B
      have HB := hide hB
      clear hn hB
      go_enter Try.func7, Try.ntmps7
      go_wp2
      go_loopw [6, 7] (fun sz i wr => ∃ j s : Nat, j ≤ 3 ∧ Hid (s = 2 ^ j) ∧ i = .int .i64 (24 + (j : Int)) ∧ sz = .int .i64 (s : Int) ∧ Hid (24 + j ≤ hinfo n) ∧ Below B w wr) (fun _ i _ => (28 - intOf i).toNat)
      case atStart => exact ⟨0, 1, by omega, rfl, rfl, rfl, by show _ ≤ _; have := hinfo_cases n; omega, Below.refl _ _⟩
      case round =>
        obtain ⟨j, s, hj, hs, rfl, rfl, hi, hbel⟩ := hrel
        have HBL := hide hbel
        clear hbel
        have hs8 := pow_le8 hj hs.out
        go_wp2_with fail
        refine (fixed_any n s _ HN.out hs8).mono ?_
        rintro e w1 ⟨v, rfl, hown, hb1⟩
        have HO := hide hown
        have HB1 := hide hb1
        clear hown hb1
        by_cases hok : n < 256 ^ s
        · rw [decide_eq_true hok]
          obtain ⟨hx1, hx2⟩ := hstep_yes (by omega) hj hs.out hi.out hok
          have HX : Hid (hl M n = [32 * M + (24 + j)] ++ be s n) := by show _ = _; unfold hl; rw [hx1, hx2]; rfl
          have HSL := hide ((BSl.own HO.out (be_byte s n)).move (keep_alloc w1 (.cells #[.int .u8 (((32 * M + (24 + j) : Nat)) : Int)] 5)))
          have hc : (((32 * M + (24 + j) : Nat)) : Int) = 32 * (M : Int) + (24 + (j : Int)) := by omega
          rw [hc] at HSL
          have HOW := hide (own_one w1 (32 * M + (24 + j)))
          rw [hc] at HOW
          clear hc hx1 hx2 hok
          go_wp2_with (at_builtin; refine append_bsl rfl _ _ rfl w1.heap.size _ 1 [32 * M + (24 + j)] rfl HOW.out _ (be s n) rfl HSL.out ?b1 ?b2 ?_)
          case b1 => rw [be_len]; omega
          case b2 => simp
          intro v2 w2 hown2 hgr2
          go_wp2
          go_ret
          have hsz := HBL.out.size
          have hsz1 := HB1.out.size
          rw [HB.out] at hsz
          refine ⟨_, rfl, ?_, ((HBL.out.trans (HB1.out.mono hsz)).alloc (by omega) _).grown hgr2 (by simp; omega) (fun q hq => by simp [Value.ownBlock] at hq; omega)⟩
          rw [HX.out]
          have e : ([32 * M + (24 + j)] ++ be s n).length = 1 + (be s n).length := by simp; omega
          rw [e]
          exact own_mono hown2 (by omega)
        · rw [decide_eq_false hok]
          obtain ⟨hj3, hi3⟩ := hstep_no (by omega) HN.out hj hs.out hi.out hok
          have HS2 : Hid (2 * s = 2 ^ (j + 1)) := by show _ = _; rw [hs.out, Nat.pow_succ]; omega
          have HI3 := hide hi3
          clear hok hi3 HO
          go_wp2
          go_roundw
          case rel => exact ⟨j + 1, 2 * s, by omega, HS2, by go_num, by go_num, HI3, HBL.out.trans (HB1.out.mono (by have := HBL.out.size; have := HB.out; omega))⟩
          case measure => simp [intOf]; omega
  · have e : hlay m n = [] := by unfold hlay; rw [if_neg h0]
    rw [e]
    by_cases hneg : m < 0
    · go_enter Try.func7, Try.ntmps7
      go_wp2
      go_ret
      exact ⟨_, rfl, World.ownsRow_nil _ _ _ _, Below.refl _ _⟩
    · have h7 : 7 < m := by omega
      have hneg' : ¬ m < 0 := hneg
      go_enter Try.func7, Try.ntmps7
      go_wp2
      go_ret
      exact ⟨_, rfl, World.ownsRow_nil _ _ _ _, Below.refl _ _⟩

set_option maxRecDepth 1000000 in
theorem refSize_any (n : Nat) (w : World) (hn : n < 18446744073709551616) :
    Calls Try.prog 9 #[.int .u64 (n : Nat)] w fun e w' => e = .returned (.int .i64 (hsize n : Nat)) ∧ Below w.heap.size w w' := by
  have HN := hide hn
  clear hn
  go_enter Try.func9, Try.ntmps9
  go_wp2_with fail
  refine (refLay_any 0 n _ (by decide) HN.out).mono ?_
  rintro e w1 ⟨v, rfl, hown, hb1⟩
  have e : hlay 0 n = hl 0 n := rfl
  rw [e, hl_len] at hown
  obtain ⟨av, cv, hv, hq1, hq2, hq3⟩ := own_form hown
  subst hv
  have HB1 := hide hb1
  clear hown hb1 e hq1 hq2 hq3
  go_wp2
  go_ret
  exact ⟨rfl, HB1.out⟩
end Go.Proofs.Ytfjdpooaipehmaa

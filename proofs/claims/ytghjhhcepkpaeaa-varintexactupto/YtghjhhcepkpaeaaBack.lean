import Derived.Test.YtghjhhcepkpaeaaMath
import Derived.Test.YtghjhhcepkpaeaaLend
import Derived.Test.YtghjhhcepkpaeaaLays
import Derived.Deep.QuietTactic
import Derived.BigQuiet
namespace Go.Proofs.Ytghjhhcepkpaeaa
open Go.RowKit

/-- What Lend gives reads as what was lent. -/
theorem BSl.lent {w : World} {B g n cap : Nat} {xs : List Nat} (h : w.ownsRow B 5 1 (.slice (some ⟨g, 0, none⟩) (n + 70) cap) (n + 70) (bv (xs ++ marks))) (hn : n = xs.length) (hb : ∀ x ∈ xs, x < 256) :
    BSl w (.slice (some ⟨g, 0, none⟩) xs.length cap) xs := by
  have hm : ∀ x ∈ xs ++ marks, x < 256 := by
    intro x hx
    rcases List.mem_append.1 hx with hx | hx
    · exact hb x hx
    · simp [marks] at hx; omega
  have hall := BSl.own h hm
  obtain ⟨⟨a, cap', e, hcp, hc⟩, hmax, _⟩ := hall
  injection e with e1 e2 e3
  subst e1
  subst e3
  refine ⟨⟨_, cap, rfl, ⟨by have := hcp.1; simp at this; omega, fun h => by (cases h)⟩, ?_⟩, ?_, hb⟩
  · rcases hc with hc | ⟨b, off, e, hc⟩
    · simp [marks] at hc
    · refine .inr ⟨b, off, e, fun j hj => ?_⟩
      rw [hc j (by simp; omega)]
      simp [List.getD, List.getElem?_append_left hj]
  · simp at hmax; omega

set_option maxRecDepth 1000000 in
set_option maxHeartbeats 400000 in
theorem back_any (b off len cap : Nat) (w : World) (hmax : len ≤ 9223372036854775807)
    (hrow : ∀ i, i < len → ∃ v xs, w.cell? ⟨b, off + i, none⟩ = some v ∧ BSl w v xs ∧ xs.length ≤ 140737488351232) :
    Calls Try.prog 5 #[.slice (some ⟨b, off, none⟩) len cap] w fun e w' => e = .returned (.bool true) ∧ Below w.heap.size w w' := by
  have HR := hide hrow
  clear hrow
  go_enter Try.func5, Try.ntmps5
  go_wp2
  go_loopw [3] (fun i wr => ∃ k : Nat, k ≤ len ∧ i = .int .i64 k ∧ Below w.heap.size w wr) (fun i _ => len - (intOf i).toNat)
  case atStart => exact ⟨0, Nat.zero_le _, rfl, Below.refl _ _⟩
  case round =>
    obtain ⟨k, hk, rfl, hbel⟩ := hrel
    have HBL := hide hbel
    clear hbel
    by_cases hlt : k < len
    · obtain ⟨v, xs, hcell0, hsl0, hl0⟩ := HR.out k hlt
      have hcell : wr.cell? ⟨b, off + k, none⟩ = some v := keep_below HBL.out _ _ hcell0
      have HSL := hide (hsl0.move (keep_below HBL.out))
      clear hcell0 hsl0
      go_wp2_with fail
      refine (lend_any _ v xs HSL.out hl0).mono ?_
      rintro e w1 ⟨g, cap1, rfl, hown1, hbel1⟩
      have HSL1 := hide (BSl.lent hown1 rfl HSL.out.byte)
      have HSLV := hide (HSL.out.move (keep_below hbel1))
      have HBL1 := hide (HBL.out.trans (hbel1.mono HBL.out.size))
      clear hown1 hbel1 hcell HSL HBL
      go_wp2_with fail
      refine HSL1.out.read.mono ?_
      rintro e w2 ⟨rfl, rfl⟩
      clear HSL1
      have HX := hide (Eq.refl (rd 0 0 xs))
      generalize hR : rd 0 0 xs = R
      clear HX
      have HRD := hide hR
      clear hR
      obtain ⟨⟨ad, capv, rfl, hn, hc⟩, hmx, hby⟩ := HSLV.out
      have HC := hide hc
      have HBY := hide hby
      clear hn hc hby
      go_wp2
      go_loop [8] (fun h => ∃ q : Nat, h = .int .i64 q ∧ q ≤ 9 ∧ q ≤ xs.length ∧ ∀ j, j < q → 128 ≤ xs.getD j 0) (fun h => 9 - (intOf h).toNat)
      case atStart => exact ⟨0, rfl, by omega, by omega, fun j hj => by omega⟩
      case round =>
        obtain ⟨q, rfl, hq9, hql, hqh⟩ := hrel
        have HQ := hide hqh
        clear hqh
        have hgo : Hid (q < xs.length → q < 9 → 128 ≤ xs.getD q 0 → ∀ j, j < q + 1 → 128 ≤ xs.getD j 0) := fun _ _ h j hj => by
          rcases Nat.lt_or_ge j q with h1 | h1
          · exact HQ.out j h1
          · have : j = q := by omega
            rw [this]; exact h
        by_cases hll : q < xs.length
        · have hll' : (q : Int) < (xs.length : Int) := by omega
          by_cases h99 : q < 9
          · have h99' : (q : Int) < 9 := by omega
            rcases HC.out with h | ⟨bb, oo, rfl, hcc⟩
            · rw [h] at hll; simp at hll
            have hcq := hcc q hll
            have hx := getD_lt HBY.out q
            clear hcc
            by_cases hxb : 128 ≤ xs.getD q 0
            · have ha : (bits .and .u8 ((xs.getD q 0 : Nat) : Int) 128 != 0) = true := by rw [and128 _ hx, if_pos hxb]; rfl
              have HGO := hide (hgo.out hll h99 hxb)
              clear hgo hxb
              generalize xs.getD q 0 = x at *
              go_wp2
              go_round
              case rel => exact ⟨q + 1, by go_num, by omega, by omega, HGO.out⟩
              case measure => simp [intOf]; omega
            · have ha : (bits .and .u8 ((xs.getD q 0 : Nat) : Int) 128 != 0) = false := by rw [and128 _ hx, if_neg hxb]; rfl
              have hlead := lead_unique (f := 9) hq9 hql HQ.out (.inr (.inr (by omega)))
              have hq9' : ((q : Int) == 9) = false := beq_eq_false_iff_ne.2 (by omega)
              have hql' : ((q : Int) == (xs.length : Int)) = false := beq_eq_false_iff_ne.2 (by omega)
              by_cases hz : 0 < q ∧ xs.getD q 0 = 0
              · have hend : R = (0, 0, 12) := by
                  rw [← HRD.out]; exact rd_form xs 0 0 (by rw [hlead]; omega) (by rw [hlead]; omega) (by rw [hlead]; omega) (by rw [hlead]; exact hz.2)
                subst hend
                obtain ⟨hz1, hz2⟩ := hz
                have hz1' : (0 : Int) < (q : Int) := by omega
                rw [hz2] at hcq ha
                have hcq' : w2.cell? ⟨bb, oo + q, none⟩ = some (.int .u8 0) := hcq
                have ha0 : bits .and .u8 0 128 = 0 := by decide
                clear hlead hxb hz2 hx hcq ha hgo HC
                go_wp2_with fail
                refine (num_any _ _).mono ?_
                rintro e w3 ⟨rfl, rfl⟩
                go_wp2
                go_roundw
                case rel => exact ⟨k + 1, by omega, by go_num, HBL1.out⟩
                case measure => simp [intOf]; omega
              · have hok := rd_ok xs 0 0 HBY.out (by rw [hlead]; omega) (by rw [hlead]; omega) (by rw [hlead]; omega)
                rw [hlead] at hok
                obtain ⟨val, e1, e2, e3, _⟩ := hok
                have hval : val < 9223372036854775808 := e2
                have hend : R = (val, q + 1, 0) := by
                  rw [← HRD.out, e1]; simp
                subst hend
                clear e1 e2 hlead
                have HE3 : Hid (digs 9 val = xs.take (q + 1)) := e3
                clear e3
                have HZ := hide hz
                clear hz
                have hcp : xs.length ≤ capv := by
                  obtain ⟨⟨a', c', e, h, _⟩, _, _⟩ := HSLV.out
                  injection e with _ _ e
                  subst e
                  exact h.1
                have hcp' : (q : Int) + 1 ≤ (capv : Int) := by omega
                have hcase : ((0 : Int) < (q : Int) ∧ (((xs.getD q 0 : Nat) : Int) == 0) = false) ∨ ¬ (0 : Int) < (q : Int) := by
                  by_cases h : 0 < q
                  · exact .inl ⟨by omega, beq_eq_false_iff_ne.2 (by have := HZ.out; omega)⟩
                  · exact .inr (by omega)
                clear hgo hcp
                have hvI : (val : Int) < 9223372036854775808 := by omega
                have HLC : Hid (∀ W, Calls Try.prog 9 #[.int .u64 (val : Int)] W fun e w' => e = .returned (.int .i64 ((q : Int) + 1)) ∧ w' = W) := by
                  intro W
                  refine (len_any (val : Int) W (by omega) hvI).mono ?_
                  rintro e w' ⟨rfl, rfl⟩
                  refine ⟨?_, rfl⟩
                  rw [Int.toNat_natCast, HE3.out, List.length_take]
                  congr 2
                  omega
                have HTK : Hid (∀ W, BSl W (.slice (some ⟨bb, oo, none⟩) xs.length capv) xs → BSl W (.slice (some ⟨bb, oo, none⟩) (q + 1) capv) (xs.take (q + 1))) := fun W h => h.take (q + 1) (by omega)
                clear hvI
                generalize xs.getD q 0 = x at *
                rcases hcase with ⟨hq0, hx0⟩ | hq0
                · go_wp2_with fail
                  refine (num_any _ _).mono ?_
                  rintro e w3 ⟨rfl, rfl⟩
                  go_wp2_with fail
                  refine (lay_any (val : Int) _ (by omega) (by omega)).mono ?_
                  rintro e w4 ⟨vx, rfl, hown4, hbel4⟩
                  rw [Int.toNat_natCast, HE3.out] at hown4
                  have hsl4 := BSl.own hown4 (fun y hy => HBY.out y (List.mem_of_mem_take hy))
                  have hsl5 := HTK.out _ (HSLV.out.move (keep_below hbel4))
                  have hcv1 : ∀ nq, Sem.run Try.prog (convert 50 9 vx) (w4.drewN nq) = .ok (.string (nstr (xs.take (q + 1)))) (w4.drewN nq) := fun nq => (hsl4.move (w' := w4.drewN nq) (fun _ _ h => h)).text
                  have hcv2 : ∀ nq, Sem.run Try.prog (convert 50 9 (.slice (some ⟨bb, oo, none⟩) (q + 1) capv)) (w4.drewN nq) = .ok (.string (nstr (xs.take (q + 1)))) (w4.drewN nq) := fun nq => (hsl5.move (w' := w4.drewN nq) (fun _ _ h => h)).text
                  have HBL4 := hide (HBL1.out.trans (hbel4.mono HBL1.out.size))
                  clear hown4 hsl4 hsl5 hbel4 HRD HE3 HTK HC HSLV HBL1 HQ
                  generalize nstr (xs.take (q + 1)) = S at *
                  go_wp2
                  go_quiet (first | (go_at_call 8; exact Calls.quiet_of_same (num_any _ _)) | (go_at_call 9; exact Calls.quiet_of_same (HLC.out _)))
                  go_wp2
                  go_roundw
                  case rel => exact ⟨k + 1, by omega, by go_num, below_drewN HBL4.out _⟩
                  case measure => simp [intOf]; omega
                · go_wp2_with fail
                  refine (num_any _ _).mono ?_
                  rintro e w3 ⟨rfl, rfl⟩
                  go_wp2_with fail
                  refine (lay_any (val : Int) _ (by omega) (by omega)).mono ?_
                  rintro e w4 ⟨vx, rfl, hown4, hbel4⟩
                  rw [Int.toNat_natCast, HE3.out] at hown4
                  have hsl4 := BSl.own hown4 (fun y hy => HBY.out y (List.mem_of_mem_take hy))
                  have hsl5 := HTK.out _ (HSLV.out.move (keep_below hbel4))
                  have hcv1 : ∀ nq, Sem.run Try.prog (convert 50 9 vx) (w4.drewN nq) = .ok (.string (nstr (xs.take (q + 1)))) (w4.drewN nq) := fun nq => (hsl4.move (w' := w4.drewN nq) (fun _ _ h => h)).text
                  have hcv2 : ∀ nq, Sem.run Try.prog (convert 50 9 (.slice (some ⟨bb, oo, none⟩) (q + 1) capv)) (w4.drewN nq) = .ok (.string (nstr (xs.take (q + 1)))) (w4.drewN nq) := fun nq => (hsl5.move (w' := w4.drewN nq) (fun _ _ h => h)).text
                  have HBL4 := hide (HBL1.out.trans (hbel4.mono HBL1.out.size))
                  clear hown4 hsl4 hsl5 hbel4 HRD HE3 HTK HC HSLV HBL1 HQ
                  generalize nstr (xs.take (q + 1)) = S at *
                  go_wp2
                  go_quiet (first | (go_at_call 8; exact Calls.quiet_of_same (num_any _ _)) | (go_at_call 9; exact Calls.quiet_of_same (HLC.out _)))
                  go_wp2
                  go_roundw
                  case rel => exact ⟨k + 1, by omega, by go_num, below_drewN HBL4.out _⟩
                  case measure => simp [intOf]; omega
          · have h99' : ¬ (q : Int) < 9 := by omega
            have hq9' : ((q : Int) == 9) = true := beq_iff_eq.2 (by omega)
            have hend : R = (0, 0, 11) := by
              rw [← HRD.out]
              have hlead := lead_unique (f := 9) hq9 hql HQ.out (.inl (by omega))
              exact rd_long xs 0 0 (by omega) (by rw [hlead]; omega)
            subst hend
            clear hgo HC
            go_wp2_with fail
            refine (num_any _ _).mono ?_
            rintro e w3 ⟨rfl, rfl⟩
            go_wp2
            go_roundw
            case rel => exact ⟨k + 1, by omega, by go_num, HBL1.out⟩
            case measure => simp [intOf]; omega
        · have hll' : ¬ (q : Int) < (xs.length : Int) := by omega
          have hlead := lead_unique (f := 9) hq9 hql HQ.out (.inr (.inl (by omega)))
          by_cases h99 : q = 9
          · have hq9' : ((q : Int) == 9) = true := beq_iff_eq.2 (by omega)
            have hend : R = (0, 0, 11) := by
              rw [← HRD.out]
              exact rd_long xs 0 0 (by omega) (by rw [hlead]; omega)
            subst hend
            clear hlead
            have h99x := hide h99
            clear h99
            clear hgo HC
            go_wp2_with fail
            refine (num_any _ _).mono ?_
            rintro e w3 ⟨rfl, rfl⟩
            go_wp2
            go_roundw
            case rel => exact ⟨k + 1, by omega, by go_num, HBL1.out⟩
            case measure => simp [intOf]; omega
          · have hq9' : ((q : Int) == 9) = false := beq_eq_false_iff_ne.2 (by omega)
            have hql' : ((q : Int) == (xs.length : Int)) = true := beq_iff_eq.2 (by omega)
            have hend : R = (0, 0, 10) := by
              rw [← HRD.out]
              exact rd_short xs 0 0 (by omega) (by rw [hlead]; omega) (by rw [hlead]; omega)
            subst hend
            clear hlead
            clear hgo HC
            go_wp2_with fail
            refine (num_any _ _).mono ?_
            rintro e w3 ⟨rfl, rfl⟩
            go_wp2
            go_roundw
            case rel => exact ⟨k + 1, by omega, by go_num, HBL1.out⟩
            case measure => simp [intOf]; omega
    · have hlt' : ¬ (k : Int) < (len : Int) := by omega
      go_wp2_with fail
      refine (lays_any _).mono ?_
      rintro e w3 ⟨rfl, hbel3⟩
      have HBL3 := hide (HBL.out.trans (hbel3.mono HBL.out.size))
      clear hbel3
      go_wp2
      go_ret
      exact ⟨rfl, HBL3.out⟩
end Go.Proofs.Ytghjhhcepkpaeaa

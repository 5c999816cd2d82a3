import Derived.Test.YtfjdpooaipehmaaPd
import Derived.Test.YtfjdpooaipehmaaMh
import Derived.Test.YtfjdpooaipehmaaLend
import Derived.Test.YtfjdpooaipehmaaStp
namespace Go.Proofs.Ytfjdpooaipehmaa
open Go.RowKit

set_option maxRecDepth 1000000 in
set_option maxHeartbeats 4000000 in
theorem back_any (b off len cap : Nat) (w : World) (hmax : len ≤ 9223372036854775807)
    (hrow : ∀ i, i < len → ∃ v xs, w.cell? ⟨b, off + i, none⟩ = some v ∧ BSl w v xs ∧ xs.length ≤ 140737488351232) :
    Calls Try.prog 5 #[.slice (some ⟨b, off, none⟩) len cap] w fun e w' => e = .returned (.bool true) ∧ Below w.heap.size w w' := by
  have HRW := hide hrow
  clear hrow
  go_enter Try.func5, Try.ntmps5
  go_wp2
  go_loopw [3] (fun i wr => ∃ k : Nat, k ≤ len ∧ i = .int .i64 k ∧ Below w.heap.size w wr) (fun i _ => len - (intOf i).toNat)
  case atStart => exact ⟨0, Nat.zero_le _, rfl, Below.refl _ _⟩
  case round =>
    obtain ⟨k, hk, rfl, hbel⟩ := hrel
    have HBL := hide hbel
    clear hbel
    by_cases hlt : k < len
    · obtain ⟨v, xs, hcell0, hsl0, hl0⟩ := HRW.out k hlt
      have hcell : wr.cell? ⟨b, off + k, none⟩ = some v := keep_below HBL.out _ _ hcell0
      have HSL := hide (hsl0.move (keep_below HBL.out))
      clear hcell0 hsl0
      go_wp2_with fail
      refine (lend_any _ v xs HSL.out hl0).mono ?_
      rintro e w1 ⟨g, cap1, rfl, hown1, hbel1⟩
      have HSL1 := hide (BSl.lent hown1 rfl HSL.out.byte)
      have HSLV := hide (HSL.out.move (keep_below hbel1))
      have HBL1 := hide (HBL.out.trans (hbel1.mono HBL.out.size))
      have hcell1 := keep_below hbel1 _ _ hcell
      clear hown1 hbel1 hcell HSL HBL
      go_wp2_with fail
      refine (read_any _ _ _ HSL1.out).mono ?_
      rintro e w2 ⟨rfl, hbel2⟩
      have HBL2 := hide (HBL1.out.trans (hbel2.mono HBL1.out.size))
      have HSLW := hide (HSLV.out.move (keep_below hbel2))
      have hcell2 := keep_below hbel2 _ _ hcell1
      clear HSL1 hbel2 hcell1 HSLV HBL1
      obtain ⟨⟨ad, capv, rfl, hn, hc⟩, hmx, hby⟩ := HSLW.out
      have HC := hide hc
      have HBY := hide hby
      have hcap := hn.1
      clear hn hc hby
      have HAW : Hid (∀ o, Below w.heap.size w (w2.alloc o)) := fun o => HBL2.out.alloc HBL2.out.size o
      have hb2 : b < w2.heap.size := World.block_lt_of_cell? w2 _ hcell2
      rcases hrd_back xs HBY.out with ⟨he, h8⟩ | he | ⟨x, r, m, i, N, U, S, rfl, hm7, hi31, hN, hU1, hU9, hUr, hx, hxm, hxi, he, hown, hless, hsame, h31⟩
      · as_aux_lemma =>
        rw [he]
        simp only [HR.bad, HR.val]
        have h8' : ¬ (8 : Int) < (xs.length : Int) := by omega
        go_wp2_with fail
        refine (num_any _ _).mono ?_
        rintro e w3 ⟨rfl, rfl⟩
        go_wp2_with fail
        refine (num_any _ _).mono ?_
        rintro e w3 ⟨rfl, rfl⟩
        go_wp2
        go_roundw
        case rel => exact ⟨k + 1, by omega, by go_num, HAW.out _⟩
        case measure => simp [intOf]; omega
      · as_aux_lemma =>
        rw [he]
        simp only [HR.bad, HR.val]
        go_wp2_with fail
        refine (num_any _ _).mono ?_
        rintro e w3 ⟨rfl, rfl⟩
        go_wp2_with fail
        refine (num_any _ _).mono ?_
        rintro e w3 ⟨rfl, rfl⟩
        go_wp2
        go_roundw
        case rel => exact ⟨k + 1, by omega, by go_num, HAW.out _⟩
        case measure => simp [intOf]; omega
      · as_aux_lemma =>
        rw [he]
        simp only [HR.val]
        have HOWN := hide hown
        have HLESS := hide hless
        have HSAME := hide hsame
        have H31 := hide h31
        have HNN := hide hN
        have HXM := hide hxm
        have HXI := hide hxi
        have hlen : (x :: r).length = r.length + 1 := rfl
        rcases HC.out with hc | ⟨bb, oo, rfl, hcc⟩
        · cases hc
        have c0 : w2.cell? ⟨bb, oo, none⟩ = some (.int .u8 (x : Nat)) := hcc 0 (by simp)
        have hbb : bb < w2.heap.size := World.block_lt_of_cell? w2 _ c0
        clear he hown hless hsame h31 hcc HC hN hxm hxi
        have HP0 : Hid (PH (w2.alloc (.cells #[.int .i64 (m : Nat), .int .i64 (i : Nat), .int .u64 (N : Nat), .int .i64 (U : Nat), .bool S] 66)) w2.heap.size m i N U S) := heap_alloc_new w2 _
        go_wp2_with fail
        refine (num_any _ _).mono ?_
        rintro e w3 ⟨rfl, rfl⟩
        go_wp2_with fail
        have c1 := keep_alloc w2 (.cells #[.int .i64 (m : Nat), .int .i64 (i : Nat), .int .u64 (N : Nat), .int .i64 (U : Int), .bool S] 66) _ _ c0
        have hcell3 := keep_alloc w2 (.cells #[.int .i64 (m : Nat), .int .i64 (i : Nat), .int .u64 (N : Nat), .int .i64 (U : Int), .bool S] 66) _ _ hcell2
        have HSL3 := hide (HSLW.out.move (keep_alloc w2 (.cells #[.int .i64 (m : Nat), .int .i64 (i : Nat), .int .u64 (N : Nat), .int .i64 (U : Int), .bool S] 66)))
        have HBL3 := hide (HAW.out (.cells #[.int .i64 (m : Nat), .int .i64 (i : Nat), .int .u64 (N : Nat), .int .i64 (U : Int), .bool S] 66))
        generalize w2.alloc (.cells #[.int .i64 (m : Nat), .int .i64 (i : Nat), .int .u64 (N : Nat), .int .i64 (U : Int), .bool S] 66) = w3 at *
        generalize w2.heap.size = P at *
        clear hcell2 HSLW HBL2 c0
        have q0 : w3.cell? ⟨P, 0, none⟩ = some (.int .i64 (m : Nat)) := blk_cell HP0.out rfl
        have q1 : w3.cell? ⟨P, 1, none⟩ = some (.int .i64 (i : Nat)) := blk_cell HP0.out rfl
        have q3 : w3.cell? ⟨P, 3, none⟩ = some (.int .i64 (U : Nat)) := blk_cell HP0.out rfl
        have d1 : decide ((U : Int) < 1) = false := decide_eq_false (by omega)
        have d2 : decide ((9 : Int) < (U : Int)) = false := decide_eq_false (by omega)
        have d3 : decide ((r.length : Int) + 1 < (U : Int)) = false := decide_eq_false (by omega)
        have d4 : ((m : Int) != (x : Int) / 32) = false := bne_eq_false_iff_eq.2 (by have := HXM.out; omega)
        have d5 : ((i : Int) != (x : Int) % 32) = false := bne_eq_false_iff_eq.2 (by have := HXI.out; omega)
        have d6 : ((m : Int) == (x : Int) / 32) = true := beq_iff_eq.2 (by have := HXM.out; omega)
        have d7 : ((i : Int) == (x : Int) % 32) = true := beq_iff_eq.2 (by have := HXI.out; omega)
        go_quiet (fail)
        go_wp2_with fail
        have HP1 : Hid (PH (w3.drewN nq) P m i N U S) := HP0.out
        have HSL4 : Hid (BSl (w3.drewN nq) (.slice (some ⟨bb, oo, none⟩) (x :: r).length capv) (x :: r)) := HSL3.out.move (fun _ _ h => h)
        have hcell4 : (w3.drewN nq).cell? ⟨b, off + k, none⟩ = some (.slice (some ⟨bb, oo, none⟩) (x :: r).length capv) := hcell3
        have HBL4 : Hid (Below w.heap.size w (w3.drewN nq)) := below_drewN HBL3.out _
        clear q0 q1 q3 HP0 HSL3 hcell3 HBL3 c1 hb2 hbb
        generalize w3.drewN nq = w4 at *
        have q3 : w4.cell? ⟨P, 3, none⟩ = some (.int .i64 (U : Nat)) := blk_cell HP1.out rfl
        have hPlt : P < w4.heap.size := blk_lt HP1.out
        have hb4 : b < w4.heap.size := World.block_lt_of_cell? w4 _ hcell4
        have hWc : (U : Int) ≤ (capv : Int) := by omega
        have hc0 : ¬ capv = 0 := by omega
        go_cut [6] (fun v wx => wx.ownsRow w4.heap.size 5 1 v U (bv ((x :: r).take U)) ∧ Below w4.heap.size w4 wx)
        case first => as_aux_lemma =>
          have HSA : Hid (BSl ((w4.alloc (.cells #[] 5)).drew) (.slice (some ⟨bb, oo, none⟩) U capv) ((x :: r).take U)) := (HSL4.out.take U (by omega)).move (w' := (w4.alloc (.cells #[] 5)).drew) (keep_alloc w4 _)
          have HTL : Hid (((x :: r).take U).length = U) := by show _ = _; rw [List.length_take]; omega
          generalize (x :: r).take U = D at *
          go_region_law (first
            | (refine step_append_bsl rfl (.tmp 91) (.tmp 98) rfl w4.heap.size _ 0 [] rfl (own_empty w4) _ D rfl HSA.out (by rw [HTL.out]; omega) (by simp) ?_
               intro v2 w5 ho2 hg2
               have HBL5 := hide (below_first hg2)
               have HO5 := hide ho2
               clear ho2 hg2))
          all_goals
            go_wp2_with fail
            go_meet
            case rel => exact ⟨by have h := HO5.out; rw [HTL.out, List.nil_append, Nat.zero_add] at h; exact h, HBL5.out⟩
        case rest => as_aux_lemma =>
          obtain ⟨hownc, hbelc⟩ := hcut
          have HSC := hide (BSl.own hownc (fun y hy => HBY.out y (List.mem_of_mem_take hy)))
          have HPC : Hid (PH wc P m i N U S) := (hbelc.block P hPlt).trans HP1.out
          have HBLC : Hid (Below w.heap.size w wc) := HBL4.out.trans (hbelc.mono HBL4.out.size)
          obtain ⟨av, cv, hv, hv1, hv2, hv3⟩ := own_form hownc
          subst hv
          clear hv2 hv3 hownc hbelc hcell4 HP1 HSL4 HBL4 q3 hPlt hb4 hWc hc0
          go_wp2_with fail
          refine (read_any _ _ _ HSC.out).mono ?_
          rintro e w6 ⟨rfl, hb6⟩
          rw [HOWN.out]
          simp only [HR.val]
          have HS6 := hide (HSC.out.move (keep_below hb6))
          have HP6 : Hid (PH w6 P m i N U S) := (hb6.block P (blk_lt HPC.out)).trans HPC.out
          have HBL6 := hide (HBLC.out.trans (hb6.mono HBLC.out.size))
          clear hb6 HSC HPC HBLC HOWN
          have q0 : w6.cell? ⟨P, 0, none⟩ = some (.int .i64 (m : Nat)) := blk_cell HP6.out rfl
          have q1 : w6.cell? ⟨P, 1, none⟩ = some (.int .i64 (i : Nat)) := blk_cell HP6.out rfl
          have q2 : w6.cell? ⟨P, 2, none⟩ = some (.int .u64 (N : Nat)) := blk_cell HP6.out rfl
          have q3 : w6.cell? ⟨P, 3, none⟩ = some (.int .i64 (U : Nat)) := blk_cell HP6.out rfl
          have q4 : w6.cell? ⟨P, 4, none⟩ = some (.bool S) := blk_cell HP6.out rfl
          have hP6 : P < w6.heap.size := blk_lt HP6.out
          go_wp2_with fail
          refine (num_any _ _).mono ?_
          rintro e w7 ⟨rfl, rfl⟩
          have HP7 : Hid (PH (w6.alloc (.cells #[.int .i64 (m : Nat), .int .i64 (i : Nat), .int .u64 (N : Nat), .int .i64 (U : Nat), .bool S] 66)) P m i N U S) := blk_alloc _ HP6.out
          have HS7 := hide (HS6.out.move (keep_alloc w6 (.cells #[.int .i64 (m : Nat), .int .i64 (i : Nat), .int .u64 (N : Nat), .int .i64 (U : Nat), .bool S] 66)))
          have HBL7 := hide (HBL6.out.alloc HBL6.out.size (.cells #[.int .i64 (m : Nat), .int .i64 (i : Nat), .int .u64 (N : Nat), .int .i64 (U : Nat), .bool S] 66))
          go_wp2_with fail
          clear q0 q1 q2 q3 q4 hP6 HP6 HS6 HBL6
          generalize w6.alloc (.cells #[.int .i64 (m : Nat), .int .i64 (i : Nat), .int .u64 (N : Nat), .int .i64 (U : Nat), .bool S] 66) = w8 at *
          go_loopw [9] (fun j wx => ∃ q : Nat, q ≤ U ∧ j = .int .i64 (q : Nat) ∧ Hid (PH wx P m i N U S) ∧ Hid (BSl wx (.slice av U cv) ((x :: r).take U)) ∧ Hid (Below w.heap.size w wx)) (fun j _ => U - (intOf j).toNat)
          case atStart => exact ⟨0, Nat.zero_le _, rfl, HP7, HS7, HBL7⟩
          case round =>
            obtain ⟨q, hq, rfl, HP8, HS8, HBL8⟩ := hrel
            clear HP7 HS7 HBL7
            rename World => wz
            have q3 : wz.cell? ⟨P, 3, none⟩ = some (.int .i64 (U : Nat)) := blk_cell HP8.out rfl
            by_cases hqU : q < U
            · as_aux_lemma =>
              have hqU' : (q : Int) < (U : Int) := by omega
              have HTK := hide (HS8.out.take3 q (by rw [List.length_take]; omega))
              rw [List.take_take, Nat.min_eq_left hq] at HTK
              have hqc : (q : Int) ≤ (cv : Int) := by omega
              go_wp2_with fail
              refine (read_any _ _ _ HTK.out).mono ?_
              rintro e w9 ⟨rfl, hb9⟩
              rw [HLESS.out q hqU]
              simp only [HR.bad, HR.val]
              have HP9 : Hid (PH w9 P m i N U S) := (hb9.block P (blk_lt HP8.out)).trans HP8.out
              have HS9 := hide (HS8.out.move (keep_below hb9))
              have HBL9 := hide (HBL8.out.trans (hb9.mono HBL8.out.size))
              clear hb9 HTK
              go_wp2_with fail
              refine (num_any _ _).mono ?_
              rintro e w10 ⟨rfl, rfl⟩
              go_wp2
              go_roundw
              case rel => exact ⟨q + 1, by omega, by go_num, blk_alloc _ HP9.out, HS9.out.move (keep_alloc w9 _), HBL9.out.alloc HBL9.out.size _⟩
              case measure => simp [intOf]; omega
            · as_aux_lemma =>
              have hqU' : ¬ (q : Int) < (U : Int) := by omega
              have q0 : wz.cell? ⟨P, 0, none⟩ = some (.int .i64 (m : Nat)) := blk_cell HP8.out rfl
              have q2 : wz.cell? ⟨P, 2, none⟩ = some (.int .u64 (N : Nat)) := blk_cell HP8.out rfl
              go_wp2_with fail
              go_cut [12] (fun c wx => ∃ C : Bool, c = .bool C ∧ Hid (m ≠ 7 → i < 28 → C = S) ∧ Hid (PH wx P m i N U S) ∧ Hid (Below w.heap.size w wx))
              case first => as_aux_lemma =>
                have HD8 : Hid (BSl wz.drew (.slice av U cv) ((x :: r).take U)) := HS8.out.move (fun _ _ h => h)
                have hcv0 := HD8.out.text
                have HPD : Hid (PH wz.drew P m i N U S) := HP8.out
                have HBD : Hid (Below w.heap.size w wz.drew) := HBL8.out.drew
                have HDB : Hid (∀ y ∈ (x :: r).take U, y < 256) := fun y hy => HBY.out y (List.mem_of_mem_take hy)
                generalize (x :: r).take U = D at *
                clear HP8 HS8 HBL8 HBY hlen
                have HCC : Hid (m ≠ 7 → i < 28 → ((nstr (hlay (m : Int) N)).toList == (nstr D).toList) = S) := fun h7 h28 => by
                  have h := HSAME.out h7 h28
                  by_cases hsm : hlay (m : Int) N = D
                  · rw [hsm, h.1 hsm]; exact beq_self_eq_true _
                  · have hne : ((nstr (hlay (m : Int) N)).toList == (nstr D).toList) = false := beq_eq_false_iff_ne.2 (fun h => hsm (nstr_inj (hlay_byte _ _) HDB.out h))
                    rw [hne]
                    cases S with
                    | false => rfl
                    | true => exact absurd (h.2 rfl) hsm
                have HLB := hide (hlay_byte (m : Int) N)
                have HLA : Hid (∀ W, Calls Try.prog 6 #[.int .i64 (m : Int), .int .u64 (N : Int)] W fun e w' => ∃ v, e = .returned v ∧ w'.ownsRow W.heap.size 5 1 v (hlay (m : Int) N).length (bv (hlay (m : Int) N)) ∧ Below W.heap.size W w') := fun W => lay_any (m : Int) N W (by omega) HNN.out
                clear HSAME
                generalize hlay (m : Int) N = L at *
                go_region_with (first
                  | (go_at_call 6
                     refine (HLA.out _).mono ?_
                     rintro e w9 ⟨vx, rfl, hown9, hb9⟩
                     have hcv1 := (BSl.own hown9 HLB.out).text
                     have hcv2 := (HD8.out.move (keep_below hb9)).text
                     have HP9 : Hid (PH w9 P m i N U S) := (hb9.block P (blk_lt HPD.out)).trans HPD.out
                     have HBL9 := hide (HBD.out.trans (hb9.mono HBD.out.size))
                     clear hown9 hb9))
                all_goals
                  go_wp2_with fail
                  go_meet
                  case rel => exact ⟨_, rfl, HCC, HP9, HBL9⟩
              case rest => as_aux_lemma =>
                obtain ⟨C, rfl, HCS, HPX, HBX⟩ := hcut
                clear q0 q2 q3 HP8 HS8 HBL8
                have q0 : wc.cell? ⟨P, 0, none⟩ = some (.int .i64 (m : Nat)) := blk_cell HPX.out rfl
                have q1 : wc.cell? ⟨P, 1, none⟩ = some (.int .i64 (i : Nat)) := blk_cell HPX.out rfl
                have q2 : wc.cell? ⟨P, 2, none⟩ = some (.int .u64 (N : Nat)) := blk_cell HPX.out rfl
                have q3 : wc.cell? ⟨P, 3, none⟩ = some (.int .i64 (U : Nat)) := blk_cell HPX.out rfl
                have q4 : wc.cell? ⟨P, 4, none⟩ = some (.bool S) := blk_cell HPX.out rfl
                by_cases h7 : m = 7
                · subst h7
                  by_cases hi1 : i = 31
                  · obtain ⟨rfl, rfl⟩ := H31.out hi1
                    subst hi1
                    go_wp2
                    go_roundw
                    case rel => exact ⟨k + 1, by omega, by go_num, HBX.out⟩
                    case measure => simp [intOf]; omega
                  · have hi1' : ((i : Int) == 31) = false := beq_eq_false_iff_ne.2 (by omega)
                    go_wp2
                    go_roundw
                    case rel => exact ⟨k + 1, by omega, by go_num, HBX.out⟩
                    case measure => simp [intOf]; omega
                · have h7' : ((m : Int) != 7) = true := bne_iff_ne.2 (by omega)
                  by_cases h28 : i < 28
                  · have h28' : (i : Int) < 28 := by omega
                    obtain rfl := HCS.out h7 h28
                    have hcc : (C != C) = false := by cases C <;> rfl
                    have hi1' : ((i : Int) == 31) = false := beq_eq_false_iff_ne.2 (by omega)
                    go_wp2
                    go_roundw
                    case rel => exact ⟨k + 1, by omega, by go_num, HBX.out⟩
                    case measure => simp [intOf]; omega
                  · have h28' : ¬ (i : Int) < 28 := by omega
                    by_cases hi1 : i = 31
                    · obtain ⟨rfl, rfl⟩ := H31.out hi1
                      subst hi1
                      go_wp2
                      go_roundw
                      case rel => exact ⟨k + 1, by omega, by go_num, HBX.out⟩
                      case measure => simp [intOf]; omega
                    · have hi1' : ((i : Int) == 31) = false := beq_eq_false_iff_ne.2 (by omega)
                      go_wp2
                      go_roundw
                      case rel => exact ⟨k + 1, by omega, by go_num, HBX.out⟩
                      case measure => simp [intOf]; omega
    · have hlt' : ¬ (k : Int) < (len : Int) := by omega
      go_wp2_with fail
      refine (lays_any _).mono ?_
      rintro e w3 ⟨rfl, hbel3⟩
      have HBL3 := hide (HBL.out.trans (hbel3.mono HBL.out.size))
      clear hbel3
      go_wp2
      go_ret
      exact ⟨rfl, HBL3.out⟩
end Go.Proofs.Ytfjdpooaipehmaa

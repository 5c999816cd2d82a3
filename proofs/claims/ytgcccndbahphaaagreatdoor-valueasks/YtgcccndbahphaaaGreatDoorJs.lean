import Derived.Test.YtgcccndbahphaaaGreatDoorJq
import Derived.Test.YtgcccndbahphaaaGreatDoorJr
import Derived.Test.YtgcccndbahphaaaGreatDoorJl
import Derived.Test.YtgcccndbahphaaaGreatDoorJc
import Derived.Test.YtgcccndbahphaaaGreatDoorJn
import Derived.Test.YtgcccndbahphaaaGreatDoorJh
import Derived.Test.YtgcccndbahphaaaGreatDoorJd
import Derived.Test.YtgcccndbahphaaaGreatDoorJp
namespace Go.Proofs.YtgcccndbahphaaaGreatDoor
section
open Go.RowKit Go
theorem tidy_4 {t : Tv} (h : tidyf t = true) (h4 : t.k ≠ 4) : finb t.b = true := by
  have h1 := (cl_all (tidy_k h).2.2).2.2.2.1
  have e : t.zr.b = t.b := by
    unfold Tv.zr
    repeat' split
    all_goals first | rfl | (exfalso; omega)
  rw [e] at h1
  rw [h1]
  decide
theorem tidy_spare (t : Tv) : tidyf t = (decide (1 ≤ t.k ∧ t.k ≤ 9) && sparef t) := by
  unfold tidyf
  by_cases h : 1 ≤ t.k ∧ t.k ≤ 9
  · rw [sparef_eq h]
  · rw [decide_eq_false h]
    rfl
theorem nest_b (k : Int) (a : Nat) : (((k == 8) || (k == 9)) && decide (1024 ≤ (a : Int))) = decide ((k = 8 ∨ k = 9) ∧ 1024 ≤ a) := by
  rw [Bool.eq_iff_iff]
  simp
  omega
set_option maxRecDepth 1000000 in
set_option maxHeartbeats 4000000 in
theorem one_any (t : Tv) (a : Nat) (w : World) (cs : Array Value) (ht : Tin w t cs) (hm : tmuch t ≤ 100000) : Calls Tryz.prog 89 #[.agg cs, .int .i64 (a : Nat)] w fun e w' => e = .returned (.int .i64 (onef t a : Nat)) ∧ Below w.heap.size w w' := by
  have HTN := hide ht
  have HSZ := hide ht.size13
  have hme := tmuch_eq t
  have HKL : Hid (t.ks.length ≤ 100000) := by show _ ≤ _; omega
  have HOE : Hid (onef t a = if (t.k = 8 ∨ t.k = 9) ∧ 1024 ≤ a then 60 else if tidyf t = false then 61 else if finb t.b = false then 62 else if (badb t.s || t.ks.any badb) = true then 63 else if t.k = 7 ∧ ¬ lok t.l then 64 else if t.k = 9 ∧ ¬ (t.ks.length = t.is.length ∧ t.ks.Nodup) then 65 else 0) := rfl
  generalize onef t a = E at *
  obtain ⟨vy, vk, vi, rfl, hy, hk, hv, hb⟩ := ht.parts
  have HKS := hide hk
  have HBD := hide hb
  obtain ⟨⟨ay, cy, rfl, _, _⟩, _⟩ := hy
  obtain ⟨⟨ak, ck, rfl, _, hkf⟩, hkm, hks⟩ := hk
  obtain ⟨⟨ai, ci, rfl, _, _⟩, _⟩ := hv
  have HKF := hide hkf
  have HKZ := hide hks
  clear ht hb hm hme hkf hks
  have HQ0 : Hid (Aln w (w.alloc (.cells (vcs t (.slice ay t.y.length cy) (.slice ak t.ks.length ck) (.slice ai t.is.length ci)) 55)) (vcs t (.slice ay t.y.length cy) (.slice ak t.ks.length ck) (.slice ai t.is.length ci))) := box_mk0 w _
  have HLK : Hid (∀ wx, Aln w wx (vcs t (.slice ay t.y.length cy) (.slice ak t.ks.length ck) (.slice ai t.is.length ci)) → ∀ j x, (lcs t.l)[j]? = some x → wx.cell? ⟨w.heap.size, 7 + j, none⟩ = some x) := fun wx h => h.lk
  have HC0 : Hid ((vcs t (.slice ay t.y.length cy) (.slice ak t.ks.length ck) (.slice ai t.is.length ci))[0]? = some (.int .i64 t.k)) := rfl
  have HC4 : Hid ((vcs t (.slice ay t.y.length cy) (.slice ak t.ks.length ck) (.slice ai t.is.length ci))[4]? = some (.int .u64 (t.b : Nat))) := rfl
  have HC5 : Hid ((vcs t (.slice ay t.y.length cy) (.slice ak t.ks.length ck) (.slice ai t.is.length ci))[5]? = some (.string t.s)) := rfl
  have HC11 : Hid ((vcs t (.slice ay t.y.length cy) (.slice ak t.ks.length ck) (.slice ai t.is.length ci))[11]? = some (.slice ak t.ks.length ck)) := rfl
  generalize vcs t (.slice ay t.y.length cy) (.slice ak t.ks.length ck) (.slice ai t.is.length ci) = cs at *
  have q0 : (w.alloc (.cells cs 55)).cell? ⟨w.heap.size, 0, none⟩ = some (.int .i64 t.k) := blk_cell HQ0.out.2 HC0.out
  have HB8 : Hid (t.k = 8 ↔ (t.k == 8) = true) := beq_iff_eq.symm
  have HB9 : Hid (t.k = 9 ↔ (t.k == 9) = true) := beq_iff_eq.symm
  go_enter Tryz.func89, Tryz.ntmps89
  go_upto_region 1 with fail
  generalize w.alloc (.cells cs 55) = w1 at *
  go_cut [17] from 6 to 16 (fun xx wx => xx = .bool (((t.k == 8) || (t.k == 9)) && decide (1024 ≤ (a : Int))) ∧ wx = w1)
  case first => as_aux_lemma =>
    rcases Bool.eq_false_or_eq_true (t.k == 8) with g8 | g8
    · as_aux_lemma =>
      go_wp2_with fail
      go_meet
      case rel => exact ⟨by rw [g8]; rfl, rfl⟩
    · rcases Bool.eq_false_or_eq_true (t.k == 9) with g9 | g9
      · as_aux_lemma =>
        go_wp2_with fail
        go_meet
        case rel => exact ⟨by rw [g8, g9]; rfl, rfl⟩
      · as_aux_lemma =>
        go_wp2_with fail
        go_meet
        case rel => exact ⟨by rw [g8, g9]; rfl, rfl⟩
  case rest =>
    obtain ⟨rfl, hww⟩ := hcut
    have hww := hww.symm
    subst hww
    rw [nest_b]
    by_cases h1 : (t.k = 8 ∨ t.k = 9) ∧ 1024 ≤ a
    · as_aux_lemma =>
      have HE : Hid (E = 60) := by show _ = _; rw [HOE.out, if_pos h1]
      rw [decide_eq_true h1]
      clear h1
      go_wp2_with fail
      go_ret
      exact ⟨by rw [HE.out]; rfl, HQ0.out.1⟩
    rw [if_neg h1] at HOE
    rw [decide_eq_false h1]
    clear h1 HB8 HB9
    go_upto_region 3 with fail
    go_cut [30] from 18 to 29 (fun xx wx => xx = .bool (!tidyf t) ∧ Hid (Aln w wx cs))
    case first => as_aux_lemma =>
      have HTS := hide (tidy_spare t)
      by_cases gk1 : t.k < 1
      · as_aux_lemma =>
        rw [decide_eq_false (show ¬ (1 ≤ t.k ∧ t.k ≤ 9) by omega)] at HTS
        go_wp2_with fail
        go_meet
        case rel => exact ⟨by rw [HTS.out]; rfl, HQ0⟩
      · by_cases gk9 : 9 < t.k
        · as_aux_lemma =>
          rw [decide_eq_false (show ¬ (1 ≤ t.k ∧ t.k ≤ 9) by omega)] at HTS
          go_wp2_with fail
          go_meet
          case rel => exact ⟨by rw [HTS.out]; rfl, HQ0⟩
        · as_aux_lemma =>
          rw [decide_eq_true (show (1 ≤ t.k ∧ t.k ≤ 9) by omega)] at HTS
          have HV0 := hide HQ0.out.va
          go_wp2_with (refine wpList_valAt rfl rfl w.heap.size 0 cs rfl HSZ.out HV0.out ?_)
          refine (spare_any t _ cs (HTN.out.move (keep_below HQ0.out.1))).mono ?_
          rintro e w2 ⟨rfl, hb2⟩
          have HQ2 := hide (HQ0.out.next hb2)
          clear hb2
          go_wp2_with fail
          go_meet
          case rel => exact ⟨by rw [HTS.out]; rfl, HQ2⟩
    case rest =>
      obtain ⟨rfl, hcw⟩ := hcut
      obtain ⟨w2, hw2⟩ : ∃ x, x = wc := ⟨_, rfl⟩
      subst hw2
      have HQ2 := hcw
      clear hcw
      clear HQ0 q0
      rcases Bool.eq_false_or_eq_true (tidyf t) with h2 | h2
      case inr => as_aux_lemma =>
        have HE : Hid (E = 61) := by show _ = _; rw [HOE.out, if_pos h2]
        rw [h2]
        clear h2
        go_wp2_with fail
        go_ret
        exact ⟨by rw [HE.out]; rfl, HQ2.out.1⟩
      rw [if_neg (by rw [h2]; simp)] at HOE
      have HTD := hide h2
      rw [h2]
      clear h2
      have p0 : w2.cell? ⟨w.heap.size, 0, none⟩ = some (.int .i64 t.k) := blk_cell HQ2.out.2 HC0.out
      have p4 : w2.cell? ⟨w.heap.size, 4, none⟩ = some (.int .u64 (t.b : Nat)) := blk_cell HQ2.out.2 HC4.out
      go_upto_region 5 with fail
      go_cut [39] from 31 to 38 (fun xx wx => xx = .bool (!finb t.b) ∧ Hid (Aln w wx cs))
      case first => as_aux_lemma =>
        rcases Bool.eq_false_or_eq_true (t.k == 4) with g4 | g4
        · as_aux_lemma =>
          go_wp2_with fail
          refine (isFinite_any t.b HBD.out.b _).mono ?_
          rintro e w3 ⟨rfl, hb3⟩
          have HQ3 := hide (HQ2.out.next hb3)
          clear hb3
          go_wp2_with fail
          go_meet
          case rel => exact ⟨rfl, HQ3⟩
        · as_aux_lemma =>
          have HF : Hid (finb t.b = true) := tidy_4 HTD.out (beq_eq_false_iff_ne.1 g4)
          go_wp2_with fail
          go_meet
          case rel => exact ⟨by rw [HF.out]; rfl, HQ2⟩
      case rest =>
        obtain ⟨rfl, hcw⟩ := hcut
        obtain ⟨w3, hw2⟩ : ∃ x, x = wc := ⟨_, rfl⟩
        subst hw2
        have HQ3 := hcw
        clear hcw
        clear HQ2 p0 p4
        rcases Bool.eq_false_or_eq_true (finb t.b) with h3 | h3
        case inr => as_aux_lemma =>
          have HE : Hid (E = 62) := by show _ = _; rw [HOE.out, if_pos h3]
          rw [h3]
          clear h3
          go_wp2_with fail
          go_ret
          exact ⟨by rw [HE.out]; rfl, HQ3.out.1⟩
        rw [if_neg (by rw [h3]; simp)] at HOE
        rw [h3]
        clear h3
        have p5 : w3.cell? ⟨w.heap.size, 5, none⟩ = some (.string t.s) := blk_cell HQ3.out.2 HC5.out
        go_wp2_with fail
        refine (good6_any w3 t.s (by have := HBD.out.s; omega)).mono ?_
        rintro e w4 ⟨rfl, hw4⟩
        have hw4 := hw4.symm
        subst hw4
        rw [bad_good] at HOE
        rcases Bool.eq_false_or_eq_true (ugood (sl t.s)) with h4 | h4
        case inr => as_aux_lemma =>
          have HE : Hid (E = 63) := by show _ = _; rw [HOE.out, h4]; exact if_pos (by simp)
          rw [h4]
          clear h4
          go_wp2_with fail
          go_ret
          exact ⟨by rw [HE.out]; rfl, HQ3.out.1⟩
        rw [h4, Bool.not_true, Bool.false_or] at HOE
        rw [h4]
        clear h4
        go_wp2_with fail
        go_loopw [5] (fun ii wx => ∃ i : Nat, i ≤ t.ks.length ∧ ii = .int .i64 (i : Nat) ∧ Hid (∀ (j : Nat) (x : ByteArray), j < i → t.ks[j]? = some x → badb x = false) ∧ wx = w3) (fun ii _ => t.ks.length - (intOf ii).toNat)
        case atStart => exact ⟨0, by omega, rfl, fun j x hj => absurd hj (by omega), rfl⟩
        case round =>
          obtain ⟨i, hi, rfl, HI, hwr⟩ := hrel
          have hwr := hwr.symm
          subst hwr
          have p11 : w3.cell? ⟨w.heap.size, 11, none⟩ = some (.slice ak t.ks.length ck) := blk_cell HQ3.out.2 HC11.out
          by_cases hlt : i < t.ks.length
          · have g1 : (i : Int) < (t.ks.length : Int) := by omega
            obtain ⟨x, hx⟩ : ∃ x, t.ks[i]? = some x := ⟨t.ks[i], List.getElem?_eq_getElem hlt⟩
            obtain ⟨b, off, rfl, hcc⟩ := HKF.out.resolve_left (fun h => by rw [h] at hlt; simp at hlt)
            have c1 : w3.cell? ⟨b, off + i, none⟩ = some (.string x) := keep_below HQ3.out.1 _ _ (hcc i x hx)
            have HSX := hide (HKZ.out x (List.mem_of_getElem? hx))
            have HBX := hide (bad_good x)
            clear hcc
            rcases Bool.eq_false_or_eq_true (ugood (sl x)) with h5 | h5
            · as_aux_lemma =>
              have HI2 : Hid (∀ (j : Nat) (x : ByteArray), j < i + 1 → t.ks[j]? = some x → badb x = false) := fun j y hj hy => by
                by_cases hji : j = i
                · subst hji
                  rw [hx] at hy
                  injection hy with hy
                  rw [← hy, HBX.out, h5]
                  rfl
                · exact HI.out j y (by omega) hy
              clear hx HI
              go_wp2_with fail
              refine (good6_any w3 x (by have := HSX.out; omega)).mono ?_
              rintro e w4 ⟨rfl, hw4⟩
              have hw4 := hw4.symm
              subst hw4
              rw [h5]
              clear h5
              go_wp2_with fail
              go_roundw
              case rel => exact ⟨i + 1, by omega, by go_num, HI2, by first | rfl | trivial⟩
              case measure => simp [intOf]; omega
            · as_aux_lemma =>
              have HE : Hid (E = 63) := by
                show _ = _
                rw [HOE.out, if_pos (List.any_eq_true.2 ⟨x, List.mem_of_getElem? hx, by rw [HBX.out, h5]; rfl⟩)]
              clear hx HI
              go_wp2_with fail
              refine (good6_any w3 x (by have := HSX.out; omega)).mono ?_
              rintro e w4 ⟨rfl, hw4⟩
              have hw4 := hw4.symm
              subst hw4
              rw [h5]
              clear h5
              go_wp2_with fail
              go_ret
              exact ⟨by rw [HE.out]; rfl, HQ3.out.1⟩
          · have g1 : ¬ (i : Int) < (t.ks.length : Int) := by omega
            have hany : ¬ t.ks.any badb = true := fun h => by
              obtain ⟨x, hx, hbx⟩ := List.any_eq_true.1 h
              obtain ⟨j, hj⟩ := List.getElem?_of_mem hx
              have := HI.out j x (by have := (List.getElem?_eq_some_iff.1 hj).1; omega) hj
              rw [this] at hbx
              cases hbx
            rw [if_neg hany] at HOE
            clear hany HI
            have p0 : w3.cell? ⟨w.heap.size, 0, none⟩ = some (.int .i64 t.k) := blk_cell HQ3.out.2 HC0.out
            have HL3 := hide (HLK.out w3 HQ3.out)
            by_cases hk7 : t.k = 7
            · have g7 : (t.k == 7) = true := beq_iff_eq.2 hk7
              have g9 : (t.k == 9) = false := beq_eq_false_iff_ne.2 (by omega)
              have hk9 : ¬ t.k = 9 := by omega
              have HCK : Hid (Calls Tryz.prog 119 #[.agg (lcs t.l)] w3 fun e w' => e = .returned (.int .i64 (if lok t.l then 0 else 40)) ∧ Below w3.heap.size w3 w') := by
                have h := refCheck_any w3 t.l.v t.l.c t.l.h (nstr t.l.d) HBD.out.l.h (by rw [HBD.out.l.size]; exact HBD.out.l.n)
                rw [sl_nstr HBD.out.l.d] at h
                exact h
              by_cases hlo : lok t.l
              · as_aux_lemma =>
                have HE : Hid (E = 0) := by show _ = _; rw [HOE.out, if_neg (fun h => h.2 hlo), if_neg (fun h => hk9 h.1)]
                rw [if_pos hlo] at HCK
                clear hk7 hk9 hlo
                go_wp2_with (refine wpList_lkAt rfl rfl w.heap.size 7 t.l rfl HL3.out ?_)
                refine (Hid.out HCK).mono ?_
                rintro e w5 ⟨rfl, hb5⟩
                have HQ5 := hide (HQ3.out.next hb5)
                have r0 : w5.cell? ⟨w.heap.size, 0, none⟩ = some (.int .i64 t.k) := blk_cell HQ5.out.2 HC0.out
                clear hb5
                go_wp2_with fail
                go_ret
                exact ⟨by rw [HE.out]; rfl, HQ5.out.1⟩
              · as_aux_lemma =>
                have HE : Hid (E = 64) := by show _ = _; rw [HOE.out, if_pos ⟨hk7, hlo⟩]
                rw [if_neg hlo] at HCK
                clear hk7 hk9 hlo
                go_wp2_with (refine wpList_lkAt rfl rfl w.heap.size 7 t.l rfl HL3.out ?_)
                refine (Hid.out HCK).mono ?_
                rintro e w5 ⟨rfl, hb5⟩
                have HQ5 := hide (HQ3.out.next hb5)
                clear hb5
                go_wp2_with fail
                go_ret
                exact ⟨by rw [HE.out]; rfl, HQ5.out.1⟩
            · have g7 : (t.k == 7) = false := beq_eq_false_iff_ne.2 hk7
              rw [if_neg (fun h => hk7 h.1)] at HOE
              by_cases hk9 : t.k = 9
              · have g9 : (t.k == 9) = true := beq_iff_eq.2 hk9
                have HV3 := hide HQ3.out.va
                by_cases hP : t.ks.length = t.is.length ∧ t.ks.Nodup
                · as_aux_lemma =>
                  have HE : Hid (E = 0) := by show _ = _; rw [HOE.out, if_neg (fun h => h.2 hP)]
                  have HKC := hide (keys_any t true (by simp [hP]) w3 cs (HTN.out.move (keep_below HQ3.out.1)) HKL.out)
                  clear hk7 hk9 hP
                  go_wp2_with (refine wpList_valAt rfl rfl w.heap.size 0 cs rfl HSZ.out HV3.out ?_)
                  refine (Hid.out HKC).mono ?_
                  rintro e w5 ⟨rfl, hb5⟩
                  have HQ5 := hide (HQ3.out.next hb5)
                  clear hb5
                  go_wp2_with fail
                  go_ret
                  exact ⟨by rw [HE.out]; rfl, HQ5.out.1⟩
                · as_aux_lemma =>
                  have HE : Hid (E = 65) := by show _ = _; rw [HOE.out, if_pos ⟨hk9, hP⟩]
                  have HKC := hide (keys_any t false (by simp only [Bool.false_eq_true, false_iff]; exact hP) w3 cs (HTN.out.move (keep_below HQ3.out.1)) HKL.out)
                  clear hk7 hk9 hP
                  go_wp2_with (refine wpList_valAt rfl rfl w.heap.size 0 cs rfl HSZ.out HV3.out ?_)
                  refine (Hid.out HKC).mono ?_
                  rintro e w5 ⟨rfl, hb5⟩
                  have HQ5 := hide (HQ3.out.next hb5)
                  clear hb5
                  go_wp2_with fail
                  go_ret
                  exact ⟨by rw [HE.out]; rfl, HQ5.out.1⟩
              · as_aux_lemma =>
                have g9 : (t.k == 9) = false := beq_eq_false_iff_ne.2 hk9
                have HE : Hid (E = 0) := by show _ = _; rw [HOE.out, if_neg (fun h => hk9 h.1)]
                clear hk7 hk9
                go_wp2_with fail
                go_ret
                exact ⟨by rw [HE.out]; rfl, HQ3.out.1⟩
end
section
open Go.RowKit Go
/-- What the reference's check does. -/
def ChkR (t : Tv) : Prop := ∀ (a : Nat) (w : World) (cs : Array Value), Tin w t cs → a + tmuch t ≤ 200000 → tmuch t ≤ 100000 → Calls Tryz.prog 41 #[.agg cs, .int .i64 (a : Nat)] w fun e w' => e = .returned (.int .i64 (chkf t a : Nat)) ∧ Below w.heap.size w w'
set_option maxRecDepth 1000000 in
set_option maxHeartbeats 2000000 in
theorem checkR_step (t : Tv) (ih : ∀ u ∈ t.is, ChkR u) : ChkR t := by
  intro a w cs ht hat hm
  have HIH := hide ih
  have HTN := hide ht
  have HSZ := hide ht.size13
  have hme := tmuch_eq t
  have HML : Hid (a + 1 + tmuchL t.is ≤ 200000 ∧ tmuchL t.is ≤ 100000) := ⟨by omega, by omega⟩
  have HMM := hide hm
  have haa : a ≤ 200000 := by omega
  have HCE := hide (chkf_eq t a)
  clear ih hat hm hme
  obtain ⟨vy, vk, vi, rfl, hy, hk, hv, hb⟩ := ht.parts
  obtain ⟨⟨ai, ci, rfl, _, hform⟩, hmax⟩ := hv
  have HF := hide hform
  have HCI : Hid ((vcs t vy vk (.slice ai t.is.length ci))[12]? = some (.slice ai t.is.length ci)) := rfl
  generalize vcs t vy vk (.slice ai t.is.length ci) = cs at *
  clear ht hy hk hb hform
  generalize chkf t a = E at *
  have HQ0 : Hid (Aln w (w.alloc (.cells cs 55)) cs) := box_mk0 w _
  have HV0 := hide HQ0.out.va
  go_enter Tryz.func41, Tryz.ntmps41
  go_wp2_with (refine wpList_valAt rfl rfl w.heap.size 0 cs rfl HSZ.out HV0.out ?_)
  refine (one_any t a _ cs (HTN.out.move (keep_below HQ0.out.1)) HMM.out).mono ?_
  rintro e w1 ⟨rfl, hb1⟩
  have HQ1 := hide (HQ0.out.next hb1)
  have HO : Hid ((onef t a = 0 ∧ onef t a = 0 ∧ ∀ (j : Nat) (v : Tv), j < 0 → t.is[j]? = some v → chkf v (a + 1) = 0) ∨ (onef t a ≠ 0 ∧ E = onef t a)) := by
    by_cases h : onef t a = 0
    · exact .inl ⟨h, h, fun j v hj => absurd hj (by omega)⟩
    · exact .inr ⟨h, by rw [HCE.out, if_neg h]⟩
  have HO1 := HO
  clear hb1 HQ0 HV0 HO
  go_wp2_with fail
  go_loopw [5, 6] (fun ee ii wx => ∃ (i e : Nat), i ≤ t.is.length ∧ ii = .int .i64 (i : Nat) ∧ ee = .int .i64 (e : Nat) ∧ Hid ((e = 0 ∧ onef t a = 0 ∧ ∀ (j : Nat) (v : Tv), j < i → t.is[j]? = some v → chkf v (a + 1) = 0) ∨ (e ≠ 0 ∧ E = e)) ∧ Hid (Aln w wx cs)) (fun _ ii _ => t.is.length - (intOf ii).toNat)
  case atStart => exact ⟨0, _, by omega, rfl, rfl, HO1, HQ1⟩
  case round =>
    clear HQ1 HO1
    obtain ⟨i, e, hi, rfl, rfl, HI, HQ⟩ := hrel
    have q12 := blk_cell HQ.out.2 HCI.out
    by_cases hlt : i < t.is.length
    · have g1 : (i : Int) < (t.is.length : Int) := by omega
      by_cases he : e = 0
      · as_aux_lemma =>
        subst he
        obtain ⟨u, hu⟩ : ∃ u, t.is[i]? = some u := ⟨t.is[i], List.getElem?_eq_getElem hlt⟩
        obtain ⟨b, off, rfl, hcells⟩ := HF.out.resolve_left (fun h => by rw [h] at hlt; simp at hlt)
        obtain ⟨cu, hcu, hcc⟩ := hcells i u hu
        have HCC : Hid (∀ j v, cu[j]? = some v → wr.cell? ⟨b, off + i * 13 + j, none⟩ = some v) := fun j v hv => keep_below HQ.out.1 _ _ (hcc j v hv)
        have hmem := List.mem_of_getElem? hu
        have HZ1 := hide hcu.size13
        have hmu := tmuchL_mem hmem
        have HCA := hide (HIH.out u hmem (a + 1) _ cu (hcu.move (keep_below HQ.out.1)) (by have := HML.out; omega) (by have := HML.out; omega))
        have ec : ((a + 1 : Nat) : Int) = (a : Int) + 1 := by omega
        rw [ec] at HCA
        have HI2 : Hid ((chkf u (a + 1) = 0 ∧ onef t a = 0 ∧ ∀ (j : Nat) (v : Tv), j < i + 1 → t.is[j]? = some v → chkf v (a + 1) = 0) ∨ (chkf u (a + 1) ≠ 0 ∧ E = chkf u (a + 1))) := by
          rcases HI.out with ⟨_, h1, h2⟩ | ⟨h1, _⟩
          · by_cases h3 : chkf u (a + 1) = 0
            · refine .inl ⟨h3, h1, fun j v hj hv => ?_⟩
              by_cases hji : j = i
              · subst hji
                rw [hu] at hv
                injection hv with hv
                rw [← hv]
                exact h3
              · exact h2 j v (by omega) hv
            · exact .inr ⟨h3, by rw [HCE.out, if_pos h1, chkL_at h2 hu h3]⟩
          · exact absurd rfl h1
        clear hu hcells hcu hcc hmem hmu ec HI
        go_wp2_with (refine wpList_valAt rfl rfl b (off + i * 13) cu rfl HZ1.out HCC.out ?_)
        refine HCA.out.mono ?_
        rintro e w5 ⟨rfl, hb5⟩
        have HQ5 := hide (HQ.out.next hb5)
        clear hb5 HQ HCC HCA q12
        go_wp2_with fail
        go_roundw
        case rel => exact ⟨i + 1, _, by omega, by go_num, rfl, HI2, HQ5⟩
        case measure => simp [intOf]; omega
      · as_aux_lemma =>
        have HE : Hid (E = e) := by
          rcases HI.out with ⟨h, _⟩ | ⟨_, h⟩
          · exact absurd h he
          · exact h
        have g2 : ((e : Int) == 0) = false := beq_eq_false_iff_ne.2 (by omega)
        clear he HI
        go_wp2_with fail
        go_ret
        exact ⟨by rw [HE.out]; rfl, HQ.out.1⟩
    · as_aux_lemma =>
      have g1 : ¬ (i : Int) < (t.is.length : Int) := by omega
      have HE : Hid (E = e) := by
        rcases HI.out with ⟨h0, h1, h2⟩ | ⟨_, h⟩
        · show _ = _
          rw [HCE.out, if_pos h1, h0]
          refine chkL_none (fun u hu => ?_)
          obtain ⟨j, hj, e⟩ := List.getElem_of_mem hu
          exact h2 j u (by omega) (by rw [List.getElem?_eq_getElem hj, e])
        · exact h
      clear HI
      go_wp2_with fail
      go_ret
      exact ⟨by rw [HE.out]; rfl, HQ.out.1⟩
theorem checkR_any (t : Tv) : ChkR t := by
  have h : ∀ N, ∀ t : Tv, SizeOf.sizeOf t = N → ChkR t := by
    intro N
    induction N using Nat.strongRecOn with
    | _ N ih => exact fun t hN => checkR_step t (fun u hu => ih _ (by rw [← hN]; exact Tv.is_lt hu) u rfl)
  exact h _ t rfl
set_option maxRecDepth 1000000 in
theorem rcheck_any (t : Tv) (w : World) (cs : Array Value) (ht : Tin w t cs) (hm : tmuch t ≤ 100000) : Calls Tryz.prog 15 #[.agg cs] w fun e w' => e = .returned (.int .i64 (chkf t 0 : Nat)) ∧ Below w.heap.size w w' := by
  have HTN := hide ht
  have HSZ := hide ht.size13
  have HQ0 : Hid (Aln w (w.alloc (.cells cs 55)) cs) := box_mk0 w _
  have HV0 := hide HQ0.out.va
  have HMM := hide hm
  clear ht hm
  have HCA := hide (checkR_any t 0 _ cs (HTN.out.move (keep_below HQ0.out.1)) (by have := HMM.out; omega) HMM.out)
  generalize chkf t 0 = E at *
  go_enter Tryz.func15, Tryz.ntmps15
  go_wp2_with (refine wpList_valAt rfl rfl w.heap.size 0 cs rfl HSZ.out HV0.out ?_)
  refine HCA.out.mono ?_
  rintro e w1 ⟨rfl, hb1⟩
  have HQ1 := hide (HQ0.out.next hb1)
  clear hb1
  go_wp2_with fail
  go_ret
  exact ⟨rfl, HQ1.out.1⟩
end
section
open Go.RowKit Go
/-- Values in a row of their own, what they point to elsewhere. -/
structure Trw (w0 wx : World) (B : Nat) (v : Value) (ms : List Tv) (L : List (Array Value)) : Prop where
  o : wx.ownsRow B 55 13 v L.length (vfl L)
  n : L.length = ms.length
  h : ∀ c ∈ L, c.size = 13
  t : ∀ (i : Nat) (u : Tv) (c : Array Value), ms[i]? = some u → L[i]? = some c → Tin w0 u c
theorem Trw.next {w0 wx wy : World} {B : Nat} {v : Value} {ms : List Tv} {L : List (Array Value)} (h : Trw w0 wx B v ms L) (hb : Below wx.heap.size wx wy) : Trw w0 wy B v ms L :=
  ⟨(Kp.of_below (S := fun _ => False) hb).owns h.o (fun _ _ e => e), h.n, h.h, h.t⟩
theorem Trw.snoc {w0 wx wy : World} {B : Nat} {v v2 : Value} {ms : List Tv} {L : List (Array Value)} {u : Tv} {c : Array Value} (h : Trw w0 wx B v ms L) (ho : wy.ownsRow B 55 13 v2 (L.length + 1) (vfl L ++ c.toList)) (hc : c.size = 13) (hu : Tin w0 u c) : Trw w0 wy B v2 (ms ++ [u]) (L ++ [c]) := by
  refine ⟨?_, by simp [h.n], ?_, ?_⟩
  · rw [List.length_append, vfl_app]
    have e : vfl [c] = c.toList := by simp [vfl]
    rw [e]
    exact ho
  · intro d hd
    rcases List.mem_append.1 hd with hd | hd
    · exact h.h d hd
    · rw [List.mem_singleton.1 hd]
      exact hc
  · intro i x d hx hd
    have hn := h.n
    rcases Nat.lt_or_ge i ms.length with h1 | h1
    · rw [List.getElem?_append_left h1] at hx
      rw [List.getElem?_append_left (by omega)] at hd
      exact h.t i x d hx hd
    · rw [List.getElem?_append_right h1] at hx
      rw [List.getElem?_append_right (by omega)] at hd
      have e1 := (List.getElem?_eq_some_iff.1 hx).1
      simp at e1
      have e2 : i - ms.length = 0 := by omega
      have e3 : i - L.length = 0 := by omega
      rw [e2] at hx
      rw [e3] at hd
      simp at hx hd
      rw [← hx, ← hd]
      exact hu
end
section
open Go.RowKit Go
/-- The values that pass. -/
def tre (is : List Tv) : List Tv := is.filter fun u => chkf u 0 == 0
theorem tre_take {is : List Tv} {i : Nat} {u : Tv} (hu : is[i]? = some u) : tre (is.take (i + 1)) = tre (is.take i) ++ (if chkf u 0 = 0 then [u] else []) := by
  rw [takeT _ _ _ hu]
  unfold tre
  rw [List.filter_append]
  congr 1
  by_cases h : chkf u 0 = 0
  · simp [h]
  · simp [h]
end
section
open Go.RowKit Go
set_option maxRecDepth 1000000 in
set_option maxHeartbeats 2000000 in
theorem treesB_any (w0 w : World) (hb0 : Below w0.heap.size w0 w) (vL : Value) (is : List Tv) (hv : VSl w0 vL is) (hm : tmuchL is ≤ 100000) : Calls Tryz.prog 5 #[vL] w fun e w' => ∃ v' L, e = .returned v' ∧ Trw w0 w' w.heap.size v' (tre is) L ∧ Below w.heap.size w w' := by
  obtain ⟨⟨a, cap, rfl, _, hform⟩, hmax⟩ := hv
  have HF := hide hform
  have HK0 : Hid (∀ wx, Below w.heap.size w wx → ∀ p x, w0.cell? p = some x → wx.cell? p = some x) := fun wx h => keep_below (hb0.trans (h.mono hb0.size))
  clear hb0
  have HM := hide hm
  have HLI : Hid (is.length ≤ 100000) := by
    have h := tmuchL_len is
    show _ ≤ _
    omega
  clear hform hm
  go_enter Tryz.func5, Tryz.ntmps5
  go_wp2_with fail
  go_loopw [3, 4] (fun vv ii wx => ∃ (i : Nat) (L : List (Array Value)), i ≤ is.length ∧ ii = .int .i64 (i : Nat) ∧ Hid (Trw w0 wx w.heap.size vv (tre (is.take i)) L) ∧ Hid (Below w.heap.size w wx)) (fun _ ii _ => is.length - (intOf ii).toNat)
  case atStart => exact ⟨0, [], by omega, rfl, ⟨World.ownsRow_nil _ _ _ _, by simp [tre], by simp, by simp⟩, Below.refl _ _⟩
  case round =>
    rename World => wa
    obtain ⟨i, L, hi, rfl, HL, HWa⟩ := hrel
    obtain ⟨ax, cx, hvx⟩ := own_slice HL.out.o
    subst hvx
    have HLL : Hid (L.length ≤ 100000) := by
      have h1 := HL.out.n
      have h2 : (tre (is.take i)).length ≤ (is.take i).length := List.length_filter_le _ _
      rw [List.length_take] at h2
      have := HLI.out
      show _ ≤ _
      omega
    by_cases hlt : i < is.length
    · have g1 : (i : Int) < (is.length : Int) := by omega
      obtain ⟨u, hu⟩ : ∃ u, is[i]? = some u := ⟨is[i], List.getElem?_eq_getElem hlt⟩
      obtain ⟨b, off, rfl, hcells⟩ := HF.out.resolve_left (fun h => by rw [h] at hlt; simp at hlt)
      obtain ⟨cu, hcu, hcc⟩ := hcells i u hu
      have HTU := hide hcu
      have HCU := hide hcc
      have HMu : Hid (tmuch u ≤ 100000) := Nat.le_trans (tmuchL_mem (List.mem_of_getElem? hu)) HM.out
      have HTT := hide (tre_take hu)
      clear hcells hcu hcc hu HF
      have HSU := hide HTU.out.size13
      have HCA : Hid (∀ k x, cu[k]? = some x → wa.cell? ⟨b, off + i * 13 + k, none⟩ = some x) := fun k x hx => HK0.out _ HWa.out _ _ (HCU.out k x hx)
      go_wp2_with (refine wpList_valAt rfl rfl b (off + i * 13) cu rfl HSU.out HCA.out ?_)
      refine (rcheck_any u wa cu (HTU.out.move (HK0.out _ HWa.out)) HMu.out).mono ?_
      rintro e wb ⟨rfl, hbb⟩
      have HWb : Hid (Below w.heap.size w wb) := HWa.out.trans (hbb.mono HWa.out.size)
      have HLb := hide (HL.out.next hbb)
      clear hbb HL HWa HCA
      by_cases hz : chkf u 0 = 0
      · as_aux_lemma =>
        rw [if_pos hz] at HTT
        rw [hz]
        have HCB : Hid (∀ k x, cu[k]? = some x → wb.cell? ⟨b, off + i * 13 + k, none⟩ = some x) := fun k x hx => HK0.out _ HWb.out _ _ (HCU.out k x hx)
        have HON : Hid (one13 cu) := ⟨HSU.out, fun x hx => by have h := HTU.out.all1; rw [Array.all_eq_true_iff_forall_mem] at h; exact h x (by simpa using hx)⟩
        have HG6 : Hid ((wb.alloc (.cells cu 55)).heap[wb.heap.size]? = some (.cells cu 55 (0, 0))) := heap_alloc_new wb _
        clear hz
        go_wp2_with (first
          | (refine wpList_valAt rfl rfl b (off + i * 13) cu rfl HSU.out HCB.out ?_)
          | (refine wpList_val1 rfl rfl cu HSU.out rfl ?_)
          | (at_builtin; refine append_val rfl _ _ rfl w.heap.size _ L.length (vfl L) rfl (HLb.out.o.alloc _) wb.heap.size cu HON.out rfl HG6.out ?b1 ?b2 ?_))
        case b1 => have := HLL.out; omega
        case b2 => have := HWb.out.size; simp; omega
        intro v2 w2 ho2 hg2 _
        have hb2 : Below w.heap.size w w2 := (HWb.out.alloc (by have := HWb.out.size; omega) _).grown hg2 (by have := HWb.out.size; simp; omega) (fun q hq => (HLb.out.o.lt q hq).1)
        have HL2 : Hid (Trw w0 w2 w.heap.size v2 (tre (is.take (i + 1))) (L ++ [cu])) := by
          show Trw _ _ _ _ _ _
          rw [HTT.out]
          exact HLb.out.snoc ho2 HSU.out HTU.out
        have HB2 := hide hb2
        clear hg2 ho2 hb2 HCB
        go_wp2_with fail
        go_roundw
        case rel => exact ⟨i + 1, _, by omega, by go_num, HL2, HB2⟩
        case measure => simp [intOf]; omega
      · as_aux_lemma =>
        rw [if_neg hz, List.append_nil] at HTT
        have g2 : ((chkf u 0 : Int) == 0) = false := beq_eq_false_iff_ne.2 (by omega)
        have HL2 : Hid (Trw w0 wb w.heap.size (.slice ax L.length cx) (tre (is.take (i + 1))) L) := by
          show Trw _ _ _ _ _ _
          rw [HTT.out]
          exact HLb.out
        clear hz
        generalize chkf u 0 = n at *
        go_wp2_with fail
        go_roundw
        case rel => exact ⟨i + 1, L, by omega, by go_num, HL2, HWb⟩
        case measure => simp [intOf]; omega
    · as_aux_lemma =>
      have g1 : ¬ (i : Int) < (is.length : Int) := by omega
      have e1 : i = is.length := by omega
      have HV : Hid (Trw w0 wa w.heap.size (.slice ax L.length cx) (tre is) L) := by
        have h := HL.out
        rw [e1, List.take_length] at h
        exact h
      clear e1
      go_wp2_with fail
      go_ret
      exact ⟨_, rfl, ⟨_, HV.out⟩, HWa.out⟩
end
section
open Go.RowKit Go
/-- What ValueAsks' walk stands on: the argument's own copy, the trees' row, the book. -/
structure Aw (w : World) (cs : Array Value) (B N tt : Nat) (vl : Value) (L : List (Array Value)) (wx : World) : Prop where
  p : wx.heap[w.heap.size]? = some (.cells cs 25 (0, 0))
  b : Below w.heap.size w wx
  o : wx.ownsRow (B + 1) 55 13 vl L.length (vfl L)
  n : ∀ q, vl.ownBlock = some q → q < N
  hB : w.heap.size < B
  hN : B < N
  hz : N ≤ wx.heap.size
  k : ∃ C f d u, Bkq wx B B C f tt d u ∧ ∀ q, Ft4 B f q → q = B ∨ N ≤ q
theorem Aw.next {w wx wy : World} {cs : Array Value} {B N tt : Nat} {vl : Value} {L : List (Array Value)} (h : Aw w cs B N tt vl L wx) (hb : Below wx.heap.size wx wy) : Aw w cs B N tt vl L wy := by
  obtain ⟨C, f, d, u, hk, hf⟩ := h.k
  exact ⟨(hb.block _ (blk_lt h.p)).trans h.p, h.b.trans (hb.mono h.b.size), (Kp.of_below (S := fun _ => False) hb).owns h.o (fun _ _ e => e), h.n, h.hB, h.hN, Nat.le_trans h.hz hb.size, C, f, d, u, hk.next hb, hf⟩
/-- Besides: a lent value in a variable. -/
structure Ay (w : World) (cs : Array Value) (B N tt : Nat) (vl : Value) (L : List (Array Value)) (gx lo hi : Nat) (c : Array Value) (v : Tv) (wx : World) : Prop where
  a : Aw w cs B N tt vl L wx
  x : wx.heap[gx]? = some (.cells c 55 (0, 0))
  l : Ltv wx lo hi v c
  h1 : N ≤ lo
  h2 : hi ≤ gx
  h3 : lo ≤ gx
  k : ∃ C f d u, Bkq wx B B C f tt d u ∧ ∀ q, Ft4 B f q → (q = B ∨ N ≤ q) ∧ (lo ≤ q → gx < q)
theorem Ay.next {w wx wy : World} {cs : Array Value} {B N tt : Nat} {vl : Value} {L : List (Array Value)} {gx lo hi : Nat} {c : Array Value} {v : Tv} (h : Ay w cs B N tt vl L gx lo hi c v wx) (hb : Below wx.heap.size wx wy) : Ay w cs B N tt vl L gx lo hi c v wy := by
  obtain ⟨C, f, d, u, hk, hf⟩ := h.k
  exact ⟨h.a.next hb, (hb.block _ (blk_lt h.x)).trans h.x, h.l.kept hb, h.h1, h.h2, h.h3, C, f, d, u, hk.next hb, hf⟩
theorem Ay.put {w wx wy : World} {cs : Array Value} {B N tt n : Nat} {vl : Value} {L : List (Array Value)} {gx lo hi : Nat} {c : Array Value} {v : Tv} (h : Ay w cs B N tt vl L gx lo hi c v wx) {f : Fin 4 → Fs} {d : Nat} (hf : ∀ q, Ft4 B f q → (q = B ∨ N ≤ q) ∧ (lo ≤ q → gx < q)) (hP : Ps wx B B f tt d n wy) : Ay w cs B N (tt + n) vl L gx lo hi c v wy := by
  obtain ⟨C2, f2, u2, g1, g2, g3⟩ := hP
  have hB := h.a.hB
  have hN := h.a.hN
  have hz := h.a.hz
  have hgx := blk_lt h.x
  have i1 := h.h1
  have i2 := h.h2
  have i3 := h.h3
  have hf2 : ∀ q, Ft4 B f2 q → (q = B ∨ N ≤ q) ∧ (lo ≤ q → gx < q) := fun q e => by
    rcases g3 q e with e | e | e
    · exact hf q e
    · exact e.elim
    · exact ⟨.inr (by omega), fun _ => by omega⟩
  refine ⟨⟨(g2.block _ (blk_lt h.a.p) ?_).trans h.a.p, h.a.b.trans (g2.below h.a.b.size ?_), g2.owns h.a.o ?_, h.a.n, hB, hN, Nat.le_trans hz g2.size, C2, f2, d, u2, g1, fun q e => (hf2 q e).1⟩, (g2.block _ hgx ?_).trans h.x, h.l.kp g2 ?_, i1, i2, i3, C2, f2, d, u2, g1, hf2⟩
  · intro e
    rcases e with e | e
    · have := (hf _ e).1
      omega
    · exact e
  · intro q e
    rcases e with e | e
    · have := (hf _ e).1
      omega
    · exact e.elim
  · intro q e1 e
    have j1 := h.a.n q e1
    have j2 := (h.a.o.lt q e1).1
    rcases e with e | e
    · have := (hf _ e).1
      omega
    · exact e
  · intro e
    rcases e with e | e
    · have := (hf _ e).2 i3
      omega
    · exact e
  · intro q e1 e2 e
    rcases e with e | e
    · have := (hf _ e).2 e1
      omega
    · exact e
theorem Ay.start {w wx : World} {cs : Array Value} {B N tt : Nat} {vl : Value} {L : List (Array Value)} {c : Array Value} {v : Tv} {wa : World} (h : Aw w cs B N tt vl L wa) (hb : Below wa.heap.size wa wx) (hl : Ltv wx wa.heap.size wx.heap.size v c) : Ay w cs B N tt vl L wx.heap.size wa.heap.size wx.heap.size c v ((wx.alloc (.cells zv 55)).setRow wx.heap.size c) := by
  obtain ⟨C, f, d, u, hk, hf⟩ := h.k
  have hi := itm_mk wx c
  exact ⟨(h.next hb).next hi.b, hi.r, hl.kept hi.b, h.hz, Nat.le_refl _, hb.size, C, f, d, u, (hk.next hb).next hi.b, fun q e => ⟨hf q e, fun e2 => by have := (hk.lt q e).2; omega⟩⟩
theorem Ay.tin {w wx : World} {cs : Array Value} {B N tt : Nat} {vl : Value} {L : List (Array Value)} {gx lo hi : Nat} {c : Array Value} {v : Tv} (h : Ay w cs B N tt vl L gx lo hi c v wx) : Tin wx v c := h.l.tin
theorem Ay.cells {w wx : World} {cs : Array Value} {B N tt : Nat} {vl : Value} {L : List (Array Value)} {gx lo hi : Nat} {c : Array Value} {v : Tv} (h : Ay w cs B N tt vl L gx lo hi c v wx) : ∀ j x, c[j]? = some x → wx.cell? ⟨gx, 0 + j, none⟩ = some x := fun j x hx => by rw [Nat.zero_add]; exact blk_cell h.x hx
/-- The start: a new book, the trees told. -/
theorem Aw.start {w w1 w2 w3 : World} {cs : Array Value} {vl : Value} {L : List (Array Value)} {ms : List Tv} (hp : w1.heap[w.heap.size]? = some (.cells cs 25 (0, 0))) (hb : Below w.heap.size w w1) (h2 : w2 = w1.alloc (.cells (bookCells (.slice none 0 0) (.slice none 0 0) 0 0 0 0) 48)) (ht : Trw w w3 w2.heap.size vl ms L) (hb3 : Below w2.heap.size w2 w3) : Aw w cs w1.heap.size w3.heap.size 0 vl L w3 := by
  have e2 : w2.heap.size = w1.heap.size + 1 := by rw [h2]; simp
  have hb2 : Below w1.heap.size w1 w2 := by rw [h2]; exact below_alloc4 w1 _
  obtain ⟨C, f, d, u, hk, hf⟩ := bk4_new w1
  rw [← h2] at hk
  have hlt := blk_lt hp
  have hs3 := hb3.size
  have hp2 := (hb2.block _ hlt).trans hp
  refine ⟨(hb3.block _ (blk_lt hp2)).trans hp2, (hb.trans (hb2.mono hb.size)).trans (hb3.mono (by omega)), ?_, fun q e => (ht.o.lt q e).2, hlt, by omega, Nat.le_refl _, C, f, d, u, hk.next hb3, fun q e => .inl (hf q e)⟩
  rw [← e2]
  exact ht.o
/-- A tree's cells in the row. -/
theorem Aw.cells {w wx : World} {cs : Array Value} {B N tt g cap : Nat} {L : List (Array Value)} (h : Aw w cs B N tt (.slice (some ⟨g, 0, none⟩) L.length cap) L wx) (h13 : ∀ c ∈ L, c.size = 13) {i : Nat} {c : Array Value} (hc : L[i]? = some c) : ∀ j x, c[j]? = some x → wx.cell? ⟨g, 0 + i * 13 + j, none⟩ = some x := fun j x hx => by
  rw [Nat.zero_add]
  exact own_val h.o h13 hc j x hx
theorem tre_mem {is : List Tv} {u : Tv} (h : u ∈ tre is) : chkf u 0 = 0 := by
  unfold tre at h
  have := (List.mem_filter.1 h).2
  simpa using this
theorem tre_much : ∀ (is : List Tv), tmuchL (tre is) ≤ tmuchL is
  | [] => by simp [tre]
  | t :: r => by
    have h := tre_much r
    unfold tre at h ⊢
    rw [List.filter_cons]
    split
    · rw [tmuchL, tmuchL]
      omega
    · rw [tmuchL]
      omega
theorem much_pos (t : Tv) : 1 ≤ tmuch t := by
  have := tmuch_eq t
  omega
end
end Go.Proofs.YtgcccndbahphaaaGreatDoor

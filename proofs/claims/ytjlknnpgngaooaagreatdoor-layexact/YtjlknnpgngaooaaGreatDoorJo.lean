import Derived.Test.YtjlknnpgngaooaaGreatDoorJm
import Derived.Test.YtjlknnpgngaooaaGreatDoorJn
import Derived.Test.YtjlknnpgngaooaaGreatDoorJj
import Derived.Test.YtjlknnpgngaooaaGreatDoorJb
import Derived.Test.YtjlknnpgngaooaaGreatDoorJl
import Derived.Test.YtjlknnpgngaooaaGreatDoorJa
import Derived.Laws.IdiomStrings
import Derived.Deep.RegionLaw
import Derived.Test.YtjlknnpgngaooaaGreatDoorJd
import Derived.Test.YtjlknnpgngaooaaGreatDoorJc
import Derived.Test.YtjlknnpgngaooaaGreatDoorJf
namespace Go.Proofs.YtjlknnpgngaooaaGreatDoor
section
open Go.RowKit Go
theorem tidy_4 {t : Tv} (h : tidyf t = true) (h4 : t.k ≠ 4) : finb t.b = true := by
  have h1 := (cl_all (tidy_k h).2.2).2.2.2.1
  have e : t.zr.b = t.b := by
    unfold Tv.zr
    repeat' split
    all_goals first | rfl | (exfalso; omega)
  rw [e] at h1
  rw [h1]
  decide
theorem tidy_spare (t : Tv) : tidyf t = (decide (1 ≤ t.k ∧ t.k ≤ 9) && sparef t) := by
  unfold tidyf
  by_cases h : 1 ≤ t.k ∧ t.k ≤ 9
  · rw [sparef_eq h]
  · rw [decide_eq_false h]
    rfl
theorem nest_b (k : Int) (a : Nat) : (((k == 8) || (k == 9)) && decide (1024 ≤ (a : Int))) = decide ((k = 8 ∨ k = 9) ∧ 1024 ≤ a) := by
  rw [Bool.eq_iff_iff]
  simp
  omega
set_option maxRecDepth 1000000 in
set_option maxHeartbeats 4000000 in
theorem one_any (t : Tv) (a : Nat) (w : World) (cs : Array Value) (ht : Tin w t cs) (hm : tmuch t ≤ 100000) : Calls Tryz.prog 126 #[.agg cs, .int .i64 (a : Nat)] w fun e w' => e = .returned (.int .i64 (onef t a : Nat)) ∧ Below w.heap.size w w' := by
  have HTN := hide ht
  have HSZ := hide ht.size13
  have hme := tmuch_eq t
  have HKL : Hid (t.ks.length ≤ 100000) := by show _ ≤ _; omega
  have HOE : Hid (onef t a = if (t.k = 8 ∨ t.k = 9) ∧ 1024 ≤ a then 60 else if tidyf t = false then 61 else if finb t.b = false then 62 else if (badb t.s || t.ks.any badb) = true then 63 else if t.k = 7 ∧ ¬ lok t.l then 64 else if t.k = 9 ∧ ¬ (t.ks.length = t.is.length ∧ t.ks.Nodup) then 65 else 0) := rfl
  generalize onef t a = E at *
  obtain ⟨vy, vk, vi, rfl, hy, hk, hv, hb⟩ := ht.parts
  have HKS := hide hk
  have HBD := hide hb
  obtain ⟨⟨ay, cy, rfl, _, _⟩, _⟩ := hy
  obtain ⟨⟨ak, ck, rfl, _, hkf⟩, hkm, hks⟩ := hk
  obtain ⟨⟨ai, ci, rfl, _, _⟩, _⟩ := hv
  have HKF := hide hkf
  have HKZ := hide hks
  clear ht hb hm hme hkf hks
  have HQ0 : Hid (Aln w (w.alloc (.cells (vcs t (.slice ay t.y.length cy) (.slice ak t.ks.length ck) (.slice ai t.is.length ci)) 65)) (vcs t (.slice ay t.y.length cy) (.slice ak t.ks.length ck) (.slice ai t.is.length ci))) := box_mk0 w _
  have HLK : Hid (∀ wx, Aln w wx (vcs t (.slice ay t.y.length cy) (.slice ak t.ks.length ck) (.slice ai t.is.length ci)) → ∀ j x, (lcs t.l)[j]? = some x → wx.cell? ⟨w.heap.size, 7 + j, none⟩ = some x) := fun wx h => h.lk
  have HC0 : Hid ((vcs t (.slice ay t.y.length cy) (.slice ak t.ks.length ck) (.slice ai t.is.length ci))[0]? = some (.int .i64 t.k)) := rfl
  have HC4 : Hid ((vcs t (.slice ay t.y.length cy) (.slice ak t.ks.length ck) (.slice ai t.is.length ci))[4]? = some (.int .u64 (t.b : Nat))) := rfl
  have HC5 : Hid ((vcs t (.slice ay t.y.length cy) (.slice ak t.ks.length ck) (.slice ai t.is.length ci))[5]? = some (.string t.s)) := rfl
  have HC11 : Hid ((vcs t (.slice ay t.y.length cy) (.slice ak t.ks.length ck) (.slice ai t.is.length ci))[11]? = some (.slice ak t.ks.length ck)) := rfl
  generalize vcs t (.slice ay t.y.length cy) (.slice ak t.ks.length ck) (.slice ai t.is.length ci) = cs at *
  have q0 : (w.alloc (.cells cs 65)).cell? ⟨w.heap.size, 0, none⟩ = some (.int .i64 t.k) := blk_cell HQ0.out.2 HC0.out
  have HB8 : Hid (t.k = 8 ↔ (t.k == 8) = true) := beq_iff_eq.symm
  have HB9 : Hid (t.k = 9 ↔ (t.k == 9) = true) := beq_iff_eq.symm
  go_enter Tryz.func126, Tryz.ntmps126
  go_upto_region 1 with fail
  generalize w.alloc (.cells cs 65) = w1 at *
  go_cut [17] from 6 to 16 (fun xx wx => xx = .bool (((t.k == 8) || (t.k == 9)) && decide (1024 ≤ (a : Int))) ∧ wx = w1)
  case first => as_aux_lemma =>
    rcases Bool.eq_false_or_eq_true (t.k == 8) with g8 | g8
    · as_aux_lemma =>
      go_wp2_with fail
      go_meet
      case rel => exact ⟨by rw [g8]; rfl, rfl⟩
    · rcases Bool.eq_false_or_eq_true (t.k == 9) with g9 | g9
      · as_aux_lemma =>
        go_wp2_with fail
        go_meet
        case rel => exact ⟨by rw [g8, g9]; rfl, rfl⟩
      · as_aux_lemma =>
        go_wp2_with fail
        go_meet
        case rel => exact ⟨by rw [g8, g9]; rfl, rfl⟩
  case rest =>
    obtain ⟨rfl, hww⟩ := hcut
    have hww := hww.symm
    subst hww
    rw [nest_b]
    by_cases h1 : (t.k = 8 ∨ t.k = 9) ∧ 1024 ≤ a
    · as_aux_lemma =>
      have HE : Hid (E = 60) := by show _ = _; rw [HOE.out, if_pos h1]
      rw [decide_eq_true h1]
      clear h1
      go_wp2_with fail
      go_ret
      exact ⟨by rw [HE.out]; rfl, HQ0.out.1⟩
    rw [if_neg h1] at HOE
    rw [decide_eq_false h1]
    clear h1 HB8 HB9
    go_upto_region 3 with fail
    go_cut [30] from 18 to 29 (fun xx wx => xx = .bool (!tidyf t) ∧ Hid (Aln w wx cs))
    case first => as_aux_lemma =>
      have HTS := hide (tidy_spare t)
      by_cases gk1 : t.k < 1
      · as_aux_lemma =>
        rw [decide_eq_false (show ¬ (1 ≤ t.k ∧ t.k ≤ 9) by omega)] at HTS
        go_wp2_with fail
        go_meet
        case rel => exact ⟨by rw [HTS.out]; rfl, HQ0⟩
      · by_cases gk9 : 9 < t.k
        · as_aux_lemma =>
          rw [decide_eq_false (show ¬ (1 ≤ t.k ∧ t.k ≤ 9) by omega)] at HTS
          go_wp2_with fail
          go_meet
          case rel => exact ⟨by rw [HTS.out]; rfl, HQ0⟩
        · as_aux_lemma =>
          rw [decide_eq_true (show (1 ≤ t.k ∧ t.k ≤ 9) by omega)] at HTS
          have HV0 := hide HQ0.out.va
          go_wp2_with (refine wpList_valAt rfl rfl w.heap.size 0 cs rfl HSZ.out HV0.out ?_)
          refine (spare_any t _ cs (HTN.out.move (keep_below HQ0.out.1))).mono ?_
          rintro e w2 ⟨rfl, hb2⟩
          have HQ2 := hide (HQ0.out.next hb2)
          clear hb2
          go_wp2_with fail
          go_meet
          case rel => exact ⟨by rw [HTS.out]; rfl, HQ2⟩
    case rest =>
      obtain ⟨rfl, hcw⟩ := hcut
      obtain ⟨w2, hw2⟩ : ∃ x, x = wc := ⟨_, rfl⟩
      subst hw2
      have HQ2 := hcw
      clear hcw
      clear HQ0 q0
      rcases Bool.eq_false_or_eq_true (tidyf t) with h2 | h2
      case inr => as_aux_lemma =>
        have HE : Hid (E = 61) := by show _ = _; rw [HOE.out, if_pos h2]
        rw [h2]
        clear h2
        go_wp2_with fail
        go_ret
        exact ⟨by rw [HE.out]; rfl, HQ2.out.1⟩
      rw [if_neg (by rw [h2]; simp)] at HOE
      have HTD := hide h2
      rw [h2]
      clear h2
      have p0 : w2.cell? ⟨w.heap.size, 0, none⟩ = some (.int .i64 t.k) := blk_cell HQ2.out.2 HC0.out
      have p4 : w2.cell? ⟨w.heap.size, 4, none⟩ = some (.int .u64 (t.b : Nat)) := blk_cell HQ2.out.2 HC4.out
      go_upto_region 5 with fail
      go_cut [39] from 31 to 38 (fun xx wx => xx = .bool (!finb t.b) ∧ Hid (Aln w wx cs))
      case first => as_aux_lemma =>
        rcases Bool.eq_false_or_eq_true (t.k == 4) with g4 | g4
        · as_aux_lemma =>
          go_wp2_with fail
          refine (isFinite_any t.b HBD.out.b _).mono ?_
          rintro e w3 ⟨rfl, hb3⟩
          have HQ3 := hide (HQ2.out.next hb3)
          clear hb3
          go_wp2_with fail
          go_meet
          case rel => exact ⟨rfl, HQ3⟩
        · as_aux_lemma =>
          have HF : Hid (finb t.b = true) := tidy_4 HTD.out (beq_eq_false_iff_ne.1 g4)
          go_wp2_with fail
          go_meet
          case rel => exact ⟨by rw [HF.out]; rfl, HQ2⟩
      case rest =>
        obtain ⟨rfl, hcw⟩ := hcut
        obtain ⟨w3, hw2⟩ : ∃ x, x = wc := ⟨_, rfl⟩
        subst hw2
        have HQ3 := hcw
        clear hcw
        clear HQ2 p0 p4
        rcases Bool.eq_false_or_eq_true (finb t.b) with h3 | h3
        case inr => as_aux_lemma =>
          have HE : Hid (E = 62) := by show _ = _; rw [HOE.out, if_pos h3]
          rw [h3]
          clear h3
          go_wp2_with fail
          go_ret
          exact ⟨by rw [HE.out]; rfl, HQ3.out.1⟩
        rw [if_neg (by rw [h3]; simp)] at HOE
        rw [h3]
        clear h3
        have p5 : w3.cell? ⟨w.heap.size, 5, none⟩ = some (.string t.s) := blk_cell HQ3.out.2 HC5.out
        go_wp2_with fail
        refine (good6_any w3 t.s (by have := HBD.out.s; omega)).mono ?_
        rintro e w4 ⟨rfl, hw4⟩
        have hw4 := hw4.symm
        subst hw4
        rw [bad_good] at HOE
        rcases Bool.eq_false_or_eq_true (ugood (sl t.s)) with h4 | h4
        case inr => as_aux_lemma =>
          have HE : Hid (E = 63) := by show _ = _; rw [HOE.out, h4]; exact if_pos (by simp)
          rw [h4]
          clear h4
          go_wp2_with fail
          go_ret
          exact ⟨by rw [HE.out]; rfl, HQ3.out.1⟩
        rw [h4, Bool.not_true, Bool.false_or] at HOE
        rw [h4]
        clear h4
        go_wp2_with fail
        go_loopw [5] (fun ii wx => ∃ i : Nat, i ≤ t.ks.length ∧ ii = .int .i64 (i : Nat) ∧ Hid (∀ (j : Nat) (x : ByteArray), j < i → t.ks[j]? = some x → badb x = false) ∧ wx = w3) (fun ii _ => t.ks.length - (intOf ii).toNat)
        case atStart => exact ⟨0, by omega, rfl, fun j x hj => absurd hj (by omega), rfl⟩
        case round =>
          obtain ⟨i, hi, rfl, HI, hwr⟩ := hrel
          have hwr := hwr.symm
          subst hwr
          have p11 : w3.cell? ⟨w.heap.size, 11, none⟩ = some (.slice ak t.ks.length ck) := blk_cell HQ3.out.2 HC11.out
          by_cases hlt : i < t.ks.length
          · have g1 : (i : Int) < (t.ks.length : Int) := by omega
            obtain ⟨x, hx⟩ : ∃ x, t.ks[i]? = some x := ⟨t.ks[i], List.getElem?_eq_getElem hlt⟩
            obtain ⟨b, off, rfl, hcc⟩ := HKF.out.resolve_left (fun h => by rw [h] at hlt; simp at hlt)
            have c1 : w3.cell? ⟨b, off + i, none⟩ = some (.string x) := keep_below HQ3.out.1 _ _ (hcc i x hx)
            have HSX := hide (HKZ.out x (List.mem_of_getElem? hx))
            have HBX := hide (bad_good x)
            clear hcc
            rcases Bool.eq_false_or_eq_true (ugood (sl x)) with h5 | h5
            · as_aux_lemma =>
              have HI2 : Hid (∀ (j : Nat) (x : ByteArray), j < i + 1 → t.ks[j]? = some x → badb x = false) := fun j y hj hy => by
                by_cases hji : j = i
                · subst hji
                  rw [hx] at hy
                  injection hy with hy
                  rw [← hy, HBX.out, h5]
                  rfl
                · exact HI.out j y (by omega) hy
              clear hx HI
              go_wp2_with fail
              refine (good6_any w3 x (by have := HSX.out; omega)).mono ?_
              rintro e w4 ⟨rfl, hw4⟩
              have hw4 := hw4.symm
              subst hw4
              rw [h5]
              clear h5
              go_wp2_with fail
              go_roundw
              case rel => exact ⟨i + 1, by omega, by go_num, HI2, by first | rfl | trivial⟩
              case measure => simp [intOf]; omega
            · as_aux_lemma =>
              have HE : Hid (E = 63) := by
                show _ = _
                rw [HOE.out, if_pos (List.any_eq_true.2 ⟨x, List.mem_of_getElem? hx, by rw [HBX.out, h5]; rfl⟩)]
              clear hx HI
              go_wp2_with fail
              refine (good6_any w3 x (by have := HSX.out; omega)).mono ?_
              rintro e w4 ⟨rfl, hw4⟩
              have hw4 := hw4.symm
              subst hw4
              rw [h5]
              clear h5
              go_wp2_with fail
              go_ret
              exact ⟨by rw [HE.out]; rfl, HQ3.out.1⟩
          · have g1 : ¬ (i : Int) < (t.ks.length : Int) := by omega
            have hany : ¬ t.ks.any badb = true := fun h => by
              obtain ⟨x, hx, hbx⟩ := List.any_eq_true.1 h
              obtain ⟨j, hj⟩ := List.getElem?_of_mem hx
              have := HI.out j x (by have := (List.getElem?_eq_some_iff.1 hj).1; omega) hj
              rw [this] at hbx
              cases hbx
            rw [if_neg hany] at HOE
            clear hany HI
            have p0 : w3.cell? ⟨w.heap.size, 0, none⟩ = some (.int .i64 t.k) := blk_cell HQ3.out.2 HC0.out
            have HL3 := hide (HLK.out w3 HQ3.out)
            by_cases hk7 : t.k = 7
            · have g7 : (t.k == 7) = true := beq_iff_eq.2 hk7
              have g9 : (t.k == 9) = false := beq_eq_false_iff_ne.2 (by omega)
              have hk9 : ¬ t.k = 9 := by omega
              have HCK : Hid (Calls Tryz.prog 128 #[.agg (lcs t.l)] w3 fun e w' => e = .returned (.int .i64 (if lok t.l then 0 else 40)) ∧ Below w3.heap.size w3 w') := by
                have h := refCheck_any w3 t.l.v t.l.c t.l.h (nstr t.l.d) HBD.out.l.h (by rw [HBD.out.l.size]; exact HBD.out.l.n)
                rw [sl_nstr HBD.out.l.d] at h
                exact h
              by_cases hlo : lok t.l
              · as_aux_lemma =>
                have HE : Hid (E = 0) := by show _ = _; rw [HOE.out, if_neg (fun h => h.2 hlo), if_neg (fun h => hk9 h.1)]
                rw [if_pos hlo] at HCK
                clear hk7 hk9 hlo
                go_wp2_with (refine wpList_lkAt rfl rfl w.heap.size 7 t.l rfl HL3.out ?_)
                refine (Hid.out HCK).mono ?_
                rintro e w5 ⟨rfl, hb5⟩
                have HQ5 := hide (HQ3.out.next hb5)
                have r0 : w5.cell? ⟨w.heap.size, 0, none⟩ = some (.int .i64 t.k) := blk_cell HQ5.out.2 HC0.out
                clear hb5
                go_wp2_with fail
                go_ret
                exact ⟨by rw [HE.out]; rfl, HQ5.out.1⟩
              · as_aux_lemma =>
                have HE : Hid (E = 64) := by show _ = _; rw [HOE.out, if_pos ⟨hk7, hlo⟩]
                rw [if_neg hlo] at HCK
                clear hk7 hk9 hlo
                go_wp2_with (refine wpList_lkAt rfl rfl w.heap.size 7 t.l rfl HL3.out ?_)
                refine (Hid.out HCK).mono ?_
                rintro e w5 ⟨rfl, hb5⟩
                have HQ5 := hide (HQ3.out.next hb5)
                clear hb5
                go_wp2_with fail
                go_ret
                exact ⟨by rw [HE.out]; rfl, HQ5.out.1⟩
            · have g7 : (t.k == 7) = false := beq_eq_false_iff_ne.2 hk7
              rw [if_neg (fun h => hk7 h.1)] at HOE
              by_cases hk9 : t.k = 9
              · have g9 : (t.k == 9) = true := beq_iff_eq.2 hk9
                have HV3 := hide HQ3.out.va
                by_cases hP : t.ks.length = t.is.length ∧ t.ks.Nodup
                · as_aux_lemma =>
                  have HE : Hid (E = 0) := by show _ = _; rw [HOE.out, if_neg (fun h => h.2 hP)]
                  have HKC := hide (keys_any t true (by simp [hP]) w3 cs (HTN.out.move (keep_below HQ3.out.1)) HKL.out)
                  clear hk7 hk9 hP
                  go_wp2_with (refine wpList_valAt rfl rfl w.heap.size 0 cs rfl HSZ.out HV3.out ?_)
                  refine (Hid.out HKC).mono ?_
                  rintro e w5 ⟨rfl, hb5⟩
                  have HQ5 := hide (HQ3.out.next hb5)
                  clear hb5
                  go_wp2_with fail
                  go_ret
                  exact ⟨by rw [HE.out]; rfl, HQ5.out.1⟩
                · as_aux_lemma =>
                  have HE : Hid (E = 65) := by show _ = _; rw [HOE.out, if_pos ⟨hk9, hP⟩]
                  have HKC := hide (keys_any t false (by simp only [Bool.false_eq_true, false_iff]; exact hP) w3 cs (HTN.out.move (keep_below HQ3.out.1)) HKL.out)
                  clear hk7 hk9 hP
                  go_wp2_with (refine wpList_valAt rfl rfl w.heap.size 0 cs rfl HSZ.out HV3.out ?_)
                  refine (Hid.out HKC).mono ?_
                  rintro e w5 ⟨rfl, hb5⟩
                  have HQ5 := hide (HQ3.out.next hb5)
                  clear hb5
                  go_wp2_with fail
                  go_ret
                  exact ⟨by rw [HE.out]; rfl, HQ5.out.1⟩
              · as_aux_lemma =>
                have g9 : (t.k == 9) = false := beq_eq_false_iff_ne.2 hk9
                have HE : Hid (E = 0) := by show _ = _; rw [HOE.out, if_neg (fun h => hk9 h.1)]
                clear hk7 hk9
                go_wp2_with fail
                go_ret
                exact ⟨by rw [HE.out]; rfl, HQ3.out.1⟩
end
section
open Go.RowKit Go
/-- What the reference's check does. -/
def ChkR (t : Tv) : Prop := ∀ (a : Nat) (w : World) (cs : Array Value), Tin w t cs → a + tmuch t ≤ 200000 → tmuch t ≤ 100000 → Calls Tryz.prog 94 #[.agg cs, .int .i64 (a : Nat)] w fun e w' => e = .returned (.int .i64 (chkf t a : Nat)) ∧ Below w.heap.size w w'
set_option maxRecDepth 1000000 in
set_option maxHeartbeats 2000000 in
theorem checkR_step (t : Tv) (ih : ∀ u ∈ t.is, ChkR u) : ChkR t := by
  intro a w cs ht hat hm
  have HIH := hide ih
  have HTN := hide ht
  have HSZ := hide ht.size13
  have hme := tmuch_eq t
  have HML : Hid (a + 1 + tmuchL t.is ≤ 200000 ∧ tmuchL t.is ≤ 100000) := ⟨by omega, by omega⟩
  have HMM := hide hm
  have haa : a ≤ 200000 := by omega
  have HCE := hide (chkf_eq t a)
  clear ih hat hm hme
  obtain ⟨vy, vk, vi, rfl, hy, hk, hv, hb⟩ := ht.parts
  obtain ⟨⟨ai, ci, rfl, _, hform⟩, hmax⟩ := hv
  have HF := hide hform
  have HCI : Hid ((vcs t vy vk (.slice ai t.is.length ci))[12]? = some (.slice ai t.is.length ci)) := rfl
  generalize vcs t vy vk (.slice ai t.is.length ci) = cs at *
  clear ht hy hk hb hform
  generalize chkf t a = E at *
  have HQ0 : Hid (Aln w (w.alloc (.cells cs 65)) cs) := box_mk0 w _
  have HV0 := hide HQ0.out.va
  go_enter Tryz.func94, Tryz.ntmps94
  go_wp2_with (refine wpList_valAt rfl rfl w.heap.size 0 cs rfl HSZ.out HV0.out ?_)
  refine (one_any t a _ cs (HTN.out.move (keep_below HQ0.out.1)) HMM.out).mono ?_
  rintro e w1 ⟨rfl, hb1⟩
  have HQ1 := hide (HQ0.out.next hb1)
  have HO : Hid ((onef t a = 0 ∧ onef t a = 0 ∧ ∀ (j : Nat) (v : Tv), j < 0 → t.is[j]? = some v → chkf v (a + 1) = 0) ∨ (onef t a ≠ 0 ∧ E = onef t a)) := by
    by_cases h : onef t a = 0
    · exact .inl ⟨h, h, fun j v hj => absurd hj (by omega)⟩
    · exact .inr ⟨h, by rw [HCE.out, if_neg h]⟩
  have HO1 := HO
  clear hb1 HQ0 HV0 HO
  go_wp2_with fail
  go_loopw [5, 6] (fun ee ii wx => ∃ (i e : Nat), i ≤ t.is.length ∧ ii = .int .i64 (i : Nat) ∧ ee = .int .i64 (e : Nat) ∧ Hid ((e = 0 ∧ onef t a = 0 ∧ ∀ (j : Nat) (v : Tv), j < i → t.is[j]? = some v → chkf v (a + 1) = 0) ∨ (e ≠ 0 ∧ E = e)) ∧ Hid (Aln w wx cs)) (fun _ ii _ => t.is.length - (intOf ii).toNat)
  case atStart => exact ⟨0, _, by omega, rfl, rfl, HO1, HQ1⟩
  case round =>
    clear HQ1 HO1
    obtain ⟨i, e, hi, rfl, rfl, HI, HQ⟩ := hrel
    have q12 := blk_cell HQ.out.2 HCI.out
    by_cases hlt : i < t.is.length
    · have g1 : (i : Int) < (t.is.length : Int) := by omega
      by_cases he : e = 0
      · as_aux_lemma =>
        subst he
        obtain ⟨u, hu⟩ : ∃ u, t.is[i]? = some u := ⟨t.is[i], List.getElem?_eq_getElem hlt⟩
        obtain ⟨b, off, rfl, hcells⟩ := HF.out.resolve_left (fun h => by rw [h] at hlt; simp at hlt)
        obtain ⟨cu, hcu, hcc⟩ := hcells i u hu
        have HCC : Hid (∀ j v, cu[j]? = some v → wr.cell? ⟨b, off + i * 13 + j, none⟩ = some v) := fun j v hv => keep_below HQ.out.1 _ _ (hcc j v hv)
        have hmem := List.mem_of_getElem? hu
        have HZ1 := hide hcu.size13
        have hmu := tmuchL_mem hmem
        have HCA := hide (HIH.out u hmem (a + 1) _ cu (hcu.move (keep_below HQ.out.1)) (by have := HML.out; omega) (by have := HML.out; omega))
        have ec : ((a + 1 : Nat) : Int) = (a : Int) + 1 := by omega
        rw [ec] at HCA
        have HI2 : Hid ((chkf u (a + 1) = 0 ∧ onef t a = 0 ∧ ∀ (j : Nat) (v : Tv), j < i + 1 → t.is[j]? = some v → chkf v (a + 1) = 0) ∨ (chkf u (a + 1) ≠ 0 ∧ E = chkf u (a + 1))) := by
          rcases HI.out with ⟨_, h1, h2⟩ | ⟨h1, _⟩
          · by_cases h3 : chkf u (a + 1) = 0
            · refine .inl ⟨h3, h1, fun j v hj hv => ?_⟩
              by_cases hji : j = i
              · subst hji
                rw [hu] at hv
                injection hv with hv
                rw [← hv]
                exact h3
              · exact h2 j v (by omega) hv
            · exact .inr ⟨h3, by rw [HCE.out, if_pos h1, chkL_at h2 hu h3]⟩
          · exact absurd rfl h1
        clear hu hcells hcu hcc hmem hmu ec HI
        go_wp2_with (refine wpList_valAt rfl rfl b (off + i * 13) cu rfl HZ1.out HCC.out ?_)
        refine HCA.out.mono ?_
        rintro e w5 ⟨rfl, hb5⟩
        have HQ5 := hide (HQ.out.next hb5)
        clear hb5 HQ HCC HCA q12
        go_wp2_with fail
        go_roundw
        case rel => exact ⟨i + 1, _, by omega, by go_num, rfl, HI2, HQ5⟩
        case measure => simp [intOf]; omega
      · as_aux_lemma =>
        have HE : Hid (E = e) := by
          rcases HI.out with ⟨h, _⟩ | ⟨_, h⟩
          · exact absurd h he
          · exact h
        have g2 : ((e : Int) == 0) = false := beq_eq_false_iff_ne.2 (by omega)
        clear he HI
        go_wp2_with fail
        go_ret
        exact ⟨by rw [HE.out]; rfl, HQ.out.1⟩
    · as_aux_lemma =>
      have g1 : ¬ (i : Int) < (t.is.length : Int) := by omega
      have HE : Hid (E = e) := by
        rcases HI.out with ⟨h0, h1, h2⟩ | ⟨_, h⟩
        · show _ = _
          rw [HCE.out, if_pos h1, h0]
          refine chkL_none (fun u hu => ?_)
          obtain ⟨j, hj, e⟩ := List.getElem_of_mem hu
          exact h2 j u (by omega) (by rw [List.getElem?_eq_getElem hj, e])
        · exact h
      clear HI
      go_wp2_with fail
      go_ret
      exact ⟨by rw [HE.out]; rfl, HQ.out.1⟩
theorem checkR_any (t : Tv) : ChkR t := by
  have h : ∀ N, ∀ t : Tv, SizeOf.sizeOf t = N → ChkR t := by
    intro N
    induction N using Nat.strongRecOn with
    | _ N ih => exact fun t hN => checkR_step t (fun u hu => ih _ (by rw [← hN]; exact Tv.is_lt hu) u rfl)
  exact h _ t rfl
set_option maxRecDepth 1000000 in
theorem rcheck_any (t : Tv) (w : World) (cs : Array Value) (ht : Tin w t cs) (hm : tmuch t ≤ 100000) : Calls Tryz.prog 56 #[.agg cs] w fun e w' => e = .returned (.int .i64 (chkf t 0 : Nat)) ∧ Below w.heap.size w w' := by
  have HTN := hide ht
  have HSZ := hide ht.size13
  have HQ0 : Hid (Aln w (w.alloc (.cells cs 65)) cs) := box_mk0 w _
  have HV0 := hide HQ0.out.va
  have HMM := hide hm
  clear ht hm
  have HCA := hide (checkR_any t 0 _ cs (HTN.out.move (keep_below HQ0.out.1)) (by have := HMM.out; omega) HMM.out)
  generalize chkf t 0 = E at *
  go_enter Tryz.func56, Tryz.ntmps56
  go_wp2_with (refine wpList_valAt rfl rfl w.heap.size 0 cs rfl HSZ.out HV0.out ?_)
  refine HCA.out.mono ?_
  rintro e w1 ⟨rfl, hb1⟩
  have HQ1 := hide (HQ0.out.next hb1)
  clear hb1
  go_wp2_with fail
  go_ret
  exact ⟨rfl, HQ1.out.1⟩
end
section
open Go.RowKit Go
theorem muchL_in7 {u : Tv} : ∀ {l : List Tv}, u ∈ l → tmuch u ≤ tmuchL l
  | t :: r, h => by
    rw [tmuchL]
    rcases List.mem_cons.1 h with rfl | h
    · omega
    · have := muchL_in7 h
      omega
theorem much_in7 {t u : Tv} (h : u ∈ t.is) : tmuch u ≤ tmuch t := by
  have := muchL_in7 h
  rw [tmuch_eq t]
  omega
theorem form7_any (t : Tv) : FrmC t := by
  have key : ∀ N, ∀ t : Tv, SizeOf.sizeOf t = N → FrmC t := by
    intro N
    induction N using Nat.strongRecOn with
    | _ N ihN =>
      intro t hN s hs hk hp hm hl1 hyb w cs ht
      have ih : ∀ u ∈ t.is, FrmC u := fun u hu => ihN _ (by rw [← hN]; exact Tv.is_lt hu) u rfl
      by_cases h9 : t.k = 9
      · cases hs with
        | rest _ _ h _ _ _ _ => exact absurd h9 h
        | map _ _ ps _ hT hsp hks hn hi =>
          obtain ⟨hlen, hnd, _⟩ := hk.m h9
          rw [hlen, Nat.min_self, ← hlen] at hsp
          have hpl := hsp.len
          have e : tfm s = hl 5 t.is.length ++ tfmK (pickS t.ks ps) s.is := by
            rw [tfm_of7 s, hT.k, h9]
            show hl 5 s.is.length ++ tfmK s.ks s.is = _
            rw [hks, hn, hpl, hlen]
          rw [e] at hl1 hyb ⊢
          refine rform_map w t cs ht h9 hlen hnd (by have := hm; rw [tmuch_eq] at this; omega) ps hsp s.is hn hl1 (fun x hx => hyb x (List.mem_append_right _ hx)) ?_
          intro i p u v hpi hu hv w2 c2 ht2
          have hmem := List.mem_of_getElem? hu
          have hpk : (pickS t.ks ps)[i]? = some (t.ks.getD p ⟨#[]⟩) := by
            unfold pickS
            rw [List.getElem?_map, hpi]
            rfl
          obtain ⟨_, X, hX⟩ := tfmK_at (by rw [pickS_len]; exact hn.symm) hpk hv
          refine ih u hmem v (hi i p u v hpi hu hv) (hk.i u hmem) (hp.i u hmem) (Nat.le_trans (much_in7 hmem) hm) ?_ ?_ w2 c2 ht2
          · rw [hX] at hl1
            simp only [List.length_append] at hl1
            omega
          · intro x hx
            refine hyb x (List.mem_append_right _ ?_)
            rw [hX]
            simp [hx]
      · cases hs with
        | map _ _ ps h _ _ _ _ _ => exact absurd h h9
        | rest _ _ _ hT hks hn hi =>
          by_cases h8 : t.k = 8
          · have e : tfm s = hl 4 t.is.length ++ tfmL s.is := by
              rw [tfm_of7 s, hT.k, h8]
              show hl 4 s.is.length ++ tfmL s.is = _
              rw [hn]
            rw [e] at hl1 hyb ⊢
            refine rform_list w t cs ht h8 s.is hn hl1 (fun x hx => hyb x (List.mem_append_right _ hx)) ?_
            intro i u v hu hv w2 c2 ht2
            have hmem := List.mem_of_getElem? hu
            obtain ⟨_, X, hX⟩ := tfmL_at hv
            refine ih u hmem v (hi i u v hu hv) (hk.i u hmem) (hp.i u hmem) (Nat.le_trans (much_in7 hmem) hm) ?_ ?_ w2 c2 ht2
            · rw [hX] at hl1
              simp only [List.length_append] at hl1
              omega
            · intro x hx
              refine hyb x (List.mem_append_right _ ?_)
              rw [hX]
              simp [hx]
          · have e : tfm s = tfm t := by
              rw [tfm_of7 s, tfm_of7 t, hT.k, hT.f, hT.g, hT.n, hT.b, hT.s, hT.y, hT.l, if_neg h8, if_neg h9, if_neg h8, if_neg h9]
            rw [e]
            obtain ⟨_, _, _, _, _, _, _, hb⟩ := ht.parts
            exact rform_leaf w t cs ht hp h8 h9 hb.s
  exact key _ t rfl
set_option maxRecDepth 1000000 in
set_option maxHeartbeats 1000000 in
/-- The reference's Encode of a tree. -/
theorem rencode_good (w : World) (t s : Tv) (cs : Array Value) (ht : Tin w t cs) (hc : chkf t 0 = 0) (hs : SrtR t s) (hth : Thr t s) (hm : tmuch t ≤ 20000) :
    Calls Tryz.prog 30 #[.agg cs] w fun e w' => ∃ v, e = .returned (.tuple #[v, .int .i64 0]) ∧ w'.ownsRow w.heap.size 5 1 v (tfm s).length (bv (tfm s)) ∧ Below w.heap.size w w' := by
  have hb0 := below_alloc4 w (.cells cs 65)
  have HB0 := hide hb0
  have HG0 := hide (heap_alloc_new w (.cells cs 65))
  have HSZ := hide ht.size13
  have HTN := hide ht
  have HCK := hide (rcheck_any t (w.alloc (.cells cs 65)) cs (ht.move (keep_below hb0)) (by omega))
  rw [hc] at HCK
  have HFM := hide (form7_any t s hs (chk_trk hc) (chk_ptr hc) (by omega) (by have := hth.l; omega) hth.y)
  clear ht hb0 hc hs hth hm
  go_enter Tryz.func30, Tryz.ntmps30
  go_upto_region 1 with fail
  generalize w.alloc (.cells cs 65) = w0 at *
  have HVC : Hid (∀ j u, cs[j]? = some u → w0.cell? ⟨w.heap.size, 0 + j, none⟩ = some u) := fun j u hu => by rw [Nat.zero_add]; exact blk_cell HG0.out hu
  go_wp2_with (refine wpList_exec rfl (exec_valAt (g := w.heap.size) (off := 0) (cs := cs) rfl rfl HSZ.out HVC.out) ?_)
  refine HCK.out.mono ?_
  rintro e w1 ⟨rfl, hb1⟩
  have HB1 : Hid (Below w.heap.size w w1) := HB0.out.trans (hb1.mono HB0.out.size)
  have HV1 : Hid (∀ j u, cs[j]? = some u → w1.cell? ⟨w.heap.size, 0 + j, none⟩ = some u) := fun j u hu => keep_below hb1 _ _ (HVC.out j u hu)
  clear hb1 HVC HCK
  go_wp2_with (refine wpList_exec rfl (exec_valAt (g := w.heap.size) (off := 0) (cs := cs) rfl rfl HSZ.out HV1.out) ?_)
  refine (HFM.out w1 cs (HTN.out.move (keep_below HB1.out))).mono ?_
  rintro e w2 ⟨v2, rfl, ho2, hb2⟩
  have HO2 := hide ho2
  have HB2 : Hid (Below w.heap.size w w2) := HB1.out.trans (hb2.mono HB1.out.size)
  clear ho2 hb2 HV1
  go_wp2_with fail
  go_ret2
  exact ⟨_, rfl, own_mono HO2.out HB1.out.size, HB2.out⟩
set_option maxRecDepth 1000000 in
set_option maxHeartbeats 1000000 in
/-- The reference's Encode of what is no tree. -/
theorem rencode_bad (w : World) (t : Tv) (cs : Array Value) (ht : Tin w t cs) (hc : chkf t 0 ≠ 0) (hm : tmuch t ≤ 20000) :
    Calls Tryz.prog 30 #[.agg cs] w fun e w' => e = .returned (.tuple #[.slice none 0 0, .int .i64 (chkf t 0 : Nat)]) ∧ Below w.heap.size w w' := by
  have hb0 := below_alloc4 w (.cells cs 65)
  have HB0 := hide hb0
  have HG0 := hide (heap_alloc_new w (.cells cs 65))
  have HSZ := hide ht.size13
  have HCK := hide (rcheck_any t (w.alloc (.cells cs 65)) cs (ht.move (keep_below hb0)) (by omega))
  have g1 : (((chkf t 0 : Nat) : Int) == 0) = false := beq_eq_false_iff_ne.2 (by omega)
  clear ht hb0 hm
  generalize chkf t 0 = C at *
  go_enter Tryz.func30, Tryz.ntmps30
  go_upto_region 1 with fail
  generalize w.alloc (.cells cs 65) = w0 at *
  have HVC : Hid (∀ j u, cs[j]? = some u → w0.cell? ⟨w.heap.size, 0 + j, none⟩ = some u) := fun j u hu => by rw [Nat.zero_add]; exact blk_cell HG0.out hu
  go_wp2_with (refine wpList_exec rfl (exec_valAt (g := w.heap.size) (off := 0) (cs := cs) rfl rfl HSZ.out HVC.out) ?_)
  refine HCK.out.mono ?_
  rintro e w1 ⟨rfl, hb1⟩
  have HB1 : Hid (Below w.heap.size w w1) := HB0.out.trans (hb1.mono HB0.out.size)
  clear hb1 HVC HCK
  go_wp2_with fail
  go_ret2
  exact ⟨rfl, HB1.out⟩
end
section
open Go.RowKit
/-- What the loop of Bytes has written. -/
theorem mark_step (m k : Nat) (xs : List Value) (n : Nat) (hx : xs.length = n) (hk : k < n) :
    (bv (mkl m k) ++ xs.drop k).set k (.int .u8 ((atv m k : Nat) : Int)) = bv (mkl m (k + 1)) ++ xs.drop (k + 1) := by
  have hl : (bv (mkl m k)).length = k := by rw [bv_len, mkl_len]
  rw [List.set_append_right (h := by omega), hl, Nat.sub_self, List.drop_eq_getElem_cons (by omega), List.set_cons_zero, mkl_snoc, bv_app, List.append_assoc]
  rfl

theorem snoc_get {α : Type} {l : List α} {x y : α} {i : Nat} (h : (l ++ [x])[i]? = some y) : (i < l.length ∧ l[i]? = some y) ∨ (i = l.length ∧ y = x) := by
  rcases Nat.lt_trichotomy i l.length with hi | hi | hi
  · rw [List.getElem?_append_left hi] at h; exact .inl ⟨hi, h⟩
  · subst hi; simp at h; exact .inr ⟨rfl, h.symm⟩
  · rw [List.getElem?_eq_none (by simp; omega)] at h; cases h

set_option maxRecDepth 1000000 in
set_option maxHeartbeats 400000 in
theorem bytes_any {w : World} {base B : Nat} {vb vo : Value} {es : List Ent} {a t d u : Nat} (h : BookOk w base B vb vo es a t d u) (l : Value) (n : Nat) (xs : List Value) (hl : w.ownsRow base 5 1 l n xs) (hn : n < 68719476736)
    (hd : ∀ e ∈ es, ∀ k, e.val.ownBlock = some k → l.ownBlock ≠ some k) (ht : t + 1 < 68719476736) (hbase : base ≤ w.heap.size) :
    Calls Tryz.prog 41 #[.pointer (some ⟨B, 0, none⟩), l] w fun e w' => e = .returned (.tuple #[]) ∧ ∃ vb' vo' es' u', BookOk w' base B vb' vo' es' a (t + 1) d u' ∧
      Kp (fun k => k = B ∨ vb.ownBlock = some k ∨ vo.ownBlock = some k ∨ l.ownBlock = some k) w w' ∧
      ∀ k, Foot B vb' vo' es' k → Foot B vb vo es k ∨ l.ownBlock = some k ∨ (w.heap.size ≤ k ∧ k < w'.heap.size) := by
  have c54 : w.cell? ⟨B, 54, none⟩ = some (.int .i64 (t : Nat)) := h.blk.cell 54 _ rfl
  have f54 := blk_frozen 54 h.blk
  have HH := hide h
  have HL := hide hl
  have HD := hide hd
  have htt : (t : Int) + 1 < 68719476736 := by omega
  obtain ⟨al, capl, hlf, hcl, hl1, hl2⟩ := own_form hl
  clear hl1 hl2
  have HLB : Hid (l.ownBlock ≠ some B) := own_not hl h.blk (by decide)
  subst hlf
  clear h hl hd
  have HB1 : Hid (BkBlk (w.setCell ⟨B, 54, none⟩ (.int .i64 ((t : Int) + 1))) B vb vo a (t + 1) d u) := HH.out.blk.set 54 _ (by show _ = _; rfl)
  have HO1 : Hid ((w.setCell ⟨B, 54, none⟩ (.int .i64 ((t : Int) + 1))).ownsRow base 5 1 (.slice al n capl) n xs) :=
    (((Kp.refl (fun k => k = B) w).setCell ⟨B, 54, none⟩ (.int .i64 ((t : Int) + 1)) (fun _ => rfl))).owns HL.out (fun k hk e => HLB.out (by rw [hk, e]))
  have HK1 : Hid (Kp (fun k => k = B ∨ (Value.slice al n capl).ownBlock = some k) w (w.setCell ⟨B, 54, none⟩ (.int .i64 ((t : Int) + 1)))) := (Kp.refl _ w).setCell _ _ (fun _ => .inl rfl)
  go_enter Tryz.func41, Tryz.ntmps41
  go_wp2
  go_loopw [5] (fun i wr => ∃ k : Nat, k ≤ n ∧ i = .int .i64 k ∧ BkBlk wr B vb vo a (t + 1) d u ∧ wr.ownsRow base 5 1 (.slice al n capl) n (bv (mkl (t + 1) k) ++ xs.drop k) ∧
      Kp (fun k => k = B ∨ (Value.slice al n capl).ownBlock = some k) w wr ∧ wr.heap.size = w.heap.size) (fun i _ => n - (intOf i).toNat)
  case atStart => exact ⟨0, Nat.zero_le _, rfl, HB1.out, by simpa [mkl, bv] using HO1.out, HK1.out, by simp [World.setCell]⟩
  case round =>
    obtain ⟨k, hk, rfl, hblk, hown, hkp, hsz⟩ := hrel
    clear HB1 HO1 HK1 c54 f54
    have HBK := hide hblk
    have HOW := hide hown
    have HKP := hide hkp
    have HSZ := hide hsz
    clear hblk hown hkp hsz
    by_cases hlt : k < n
    · have hlt' : (k : Int) < (n : Int) := by omega
      have hxl : xs.length = n := by have := HL.out.1; omega
      obtain ⟨g, hg⟩ : ∃ g, al = some ⟨g, 0, none⟩ := by
        rcases HL.out.2 with ⟨_, h0⟩ | ⟨g, _, _, hv, _⟩
        · omega
        · injection hv with hv; exact ⟨g, hv⟩
      subst hg
      obtain ⟨hc, hfz⟩ := own_cell HOW.out (j := k) (u := xs[k]'(by omega)) (by
        rw [List.getElem?_append_right (by rw [bv_len, mkl_len]; omega), bv_len, mkl_len, Nat.sub_self]
        simp)
      have HAT : Hid (∀ W, Calls Tryz.prog 60 #[.int .i64 ((t : Int) + 1), .int .i64 (k : Int)] W fun e w' => e = .returned (.int .u8 ((atv (t + 1) k : Nat) : Int)) ∧ w' = W) := fun W => by
        have := at_any ((t : Int) + 1) (k : Int) W (by omega) (by omega) (by omega) (by omega)
        have e1 : ((t : Int) + 1).toNat = t + 1 := by omega
        rw [e1, Int.toNat_natCast] at this
        exact this
      have HST := hide (mark_step (t + 1) k xs n hxl hlt)
      generalize xs[k]'(by omega) = old at hc
      clear hxl
      go_wp2_with fail
      refine (HAT.out _).mono ?_
      rintro e w' ⟨rfl, rfl⟩
      go_wp2
      go_roundw
      case rel =>
        refine ⟨k + 1, by omega, by go_num, ?_, ?_, ?_, ?_⟩
        · exact HBK.out.kp ((Kp.refl (fun q => q = g) _).setCell _ _ (fun _ => rfl)) (fun e => HLB.out (by simp [Value.ownBlock]; exact e.symm))
        · rw [← HST.out]; exact own_set _ HOW.out
        · exact HKP.out.setCell _ _ (fun _ => .inr rfl)
        · have := HSZ.out; simp [World.setCell]; exact this
      case measure => simp [intOf]; omega
    · have hlt' : ¬ (k : Int) < (n : Int) := by omega
      have hkn : k = n := by omega
      have hxl : xs.length = n := by have := HL.out.1; omega
      have hw := HOW.out
      rw [hkn, List.drop_of_length_le (by omega), List.append_nil] at hw
      have HW := hide hw
      clear hw HOW hkn hxl
      -- what the book held lies apart from what was written
      have HE : Hid (∀ e ∈ es, ∀ q, e.val.ownBlock = some q → ¬ (q = B ∨ (Value.slice al n capl).ownBlock = some q)) := by
        intro e he q hq hor
        rcases hor with rfl | hor
        · exact own_not (HH.out.he e he) HH.out.blk (by decide) hq
        · exact HD.out e he q hq hor
      have HVB : Hid (wr.ownsRow base 23 1 vb es.length (es.map (·.val))) := HKP.out.owns HH.out.hb (fun q hq hor => by
        rcases hor with rfl | hor
        · exact own_not HH.out.hb HH.out.blk (by decide) hq
        · exact own_apart HH.out.hb HL.out (by decide) hq hor)
      have HVO : Hid (wr.ownsRow base 3 1 vo es.length (es.map fun e => .int .i64 ((e.m : Nat) : Int))) := HKP.out.owns HH.out.ho (fun q hq hor => by
        rcases hor with rfl | hor
        · exact own_not HH.out.ho HH.out.blk (by decide) hq
        · exact own_apart HH.out.ho HL.out (by decide) hq hor)
      have HEE : Hid (∀ e ∈ es, wr.ownsRow base 5 1 e.val e.n (bv (mkl e.m e.n))) := fun e he => HKP.out.owns (HH.out.he e he) (HE.out e he)
      have hu := HH.out.hu
      by_cases hfull : (16777216 : Int) < (u : Int) + (1200 + 3 * (n : Int))
      · go_wp2_with fail
        refine (tight_full HBK.out (1200 + 3 * (n : Int)) hu (by omega) (by omega) (by omega)).mono ?_
        rintro e w' ⟨rfl, rfl⟩
        go_wp2
        refine bodyPost_ret (results_none rfl _ _ _) rfl ?_
        refine ⟨rfl, vb, vo, es, u, ?_, HKP.out.mono (fun q _ hor => by rcases hor with h | h; exact .inl h; exact .inr (.inr (.inr h))), fun q hq => .inl hq⟩
        exact ⟨HBK.out, HVB.out, HVO.out, HEE.out, HH.out.hs, HH.out.hbase, fun e he => ⟨by have := (HH.out.hm e he).1; omega, (HH.out.hm e he).2⟩, ht, hu, HH.out.count, HH.out.hg, HH.out.hn⟩
      · go_wp2_with fail
        refine (tight_room HBK.out (1200 + 3 * (n : Int)) hu (by omega) (by omega) (by omega)).mono ?_
        rintro e w2 ⟨rfl, hblk2, hkp2⟩
        have e1 : u + (1200 + 3 * (n : Int)).toNat = u + (1200 + 3 * n) := by omega
        rw [e1] at hblk2
        clear e1
        have hnb : ∀ {ee : TypeId} {v : Value} {nn : Nat} {yy : List Value}, wr.ownsRow base ee 1 v nn yy → ee ≠ 48 → w2.ownsRow base ee 1 v nn yy := fun ho hne => hkp2.owns ho (fun q hq e => own_not ho HBK.out hne (by rw [hq, e]))
        have HVB2 := hide (hnb HVB.out (by decide))
        have HVO2 := hide (hnb HVO.out (by decide))
        have HW2 := hide (hnb HW.out (by decide))
        have HEE2 : Hid (∀ e ∈ es, w2.ownsRow base 5 1 e.val e.n (bv (mkl e.m e.n))) := fun e he => hnb (HEE.out e he) (by decide)
        have hsz2 : w.heap.size ≤ w2.heap.size := Nat.le_trans HKP.out.size hkp2.size
        have HK2 : Hid (Kp (fun q => q = B ∨ vb.ownBlock = some q ∨ vo.ownBlock = some q ∨ (Value.slice al n capl).ownBlock = some q) w w2) :=
          (HKP.out.mono (fun q _ hor => by rcases hor with h | h; exact .inl h; exact .inr (.inr (.inr h)))).trans hkp2 (fun q _ hq => .inl hq)
        have c0 : w2.cell? ⟨B, 0, none⟩ = some vb := hblk2.cell 0 _ rfl
        have HBK2 := hide hblk2
        have hlen : es.length < 1099511627776 := by
          obtain ⟨c, r, h1, h2, h3⟩ := HH.out.count
          omega
        have HBO : Hid (vo.ownBlock ≠ some B) := own_not HVO.out HBK.out (by decide)
        have HBB : Hid (vb.ownBlock ≠ some B) := own_not HVB.out HBK.out (by decide)
        clear hblk2 hkp2 hnb HVB HVO HW HEE HBK HKP hlt
        go_wp2_with (at_builtin; refine append_row rfl _ _ rfl base vb es.length _ rfl HVB2.out _ _ rfl rfl rfl hlen (by omega) ?_)
        intro v3 w3 ho3 hg3 hat3
        obtain ⟨a3, c3, hv3, hq1, hq2, hq3⟩ := own_form ho3
        clear hq1 hq2 hq3
        subst hv3
        obtain ⟨v3, hv3⟩ : ∃ v3, v3 = Value.slice a3 (es.length + 1) c3 := ⟨_, rfl⟩
        rw [← hv3] at ho3 hat3
        have hblk3 : BkBlk w3 B vb vo a (t + 1) d (u + (1200 + 3 * n)) := (HBK2.out.alloc _).grown hg3 HBB.out
        have c0' : w3.cell? ⟨B, 0, none⟩ = some vb := hblk3.cell 0 _ rfl
        have c1' : w3.cell? ⟨B, 1, none⟩ = some vo := hblk3.cell 1 _ rfl
        have f0' := blk_frozen 0 hblk3
        have hblk4 : BkBlk (w3.setCell ⟨B, 0, none⟩ v3) B v3 vo a (t + 1) d (u + (1200 + 3 * n)) := hblk3.set 0 _ rfl
        have hkg : Kp (fun q => vb.ownBlock = some q) w2 w3 := ((Kp.refl _ w2).alloc _).grown hg3 (fun q _ hq => hq)
        have hk34 : Kp (fun q => q = B) w3 (w3.setCell ⟨B, 0, none⟩ v3) := (Kp.refl _ _).setCell _ _ (fun _ => rfl)
        have hk24 : Kp (fun q => q = B ∨ vb.ownBlock = some q) w2 (w3.setCell ⟨B, 0, none⟩ v3) := (hkg.mono (fun _ _ h => .inr h)).trans hk34 (fun _ _ h => .inl h)
        have hv3B : v3.ownBlock ≠ some B := own_not ho3 hblk3 (by decide)
        have HV4 : Hid ((w3.setCell ⟨B, 0, none⟩ v3).ownsRow base 23 1 v3 (es.length + 1) (es.map (·.val) ++ [Value.slice al n capl])) := hk34.owns ho3 (fun q hq e => hv3B (by rw [hq, e]))
        have HVO4 : Hid ((w3.setCell ⟨B, 0, none⟩ v3).ownsRow base 3 1 vo es.length (es.map fun e => .int .i64 ((e.m : Nat) : Int))) := hk24.owns HVO2.out (fun q hq hor => by
          rcases hor with rfl | hor
          · exact HBO.out hq
          · exact own_apart HVO2.out HVB2.out (by decide) hq hor)
        have HW4 : Hid ((w3.setCell ⟨B, 0, none⟩ v3).ownsRow base 5 1 (.slice al n capl) n (bv (mkl (t + 1) n))) := hk24.owns HW2.out (fun q hq hor => by
          rcases hor with rfl | hor
          · exact HLB.out hq
          · exact own_apart HW2.out HVB2.out (by decide) hq hor)
        have HEE4 : Hid (∀ e ∈ es, (w3.setCell ⟨B, 0, none⟩ v3).ownsRow base 5 1 e.val e.n (bv (mkl e.m e.n))) := fun e he => hk24.owns (HEE2.out e he) (fun q hq hor => by
          rcases hor with rfl | hor
          · exact own_not (HEE2.out e he) HBK2.out (by decide) hq
          · exact own_apart (HEE2.out e he) HVB2.out (by decide) hq hor)
        have HK4 := hide (HK2.out.trans hk24 (fun q _ hor => by rcases hor with h | h; exact .inl h; exact .inr (.inl h)))
        have HB4 := hide hblk4
        have HS4 : Hid (w.heap.size ≤ w3.heap.size) := Nat.le_trans HK2.out.size hkg.size
        have HV3 : Hid (∀ q, v3.ownBlock = some q → vb.ownBlock = some q ∨ w.heap.size ≤ q) := fun q hq => by
          rcases hat3 with h | h
          · exact .inl (by rw [← h]; exact hq)
          · rw [h] at hq; injection hq with hq; exact .inr (by omega)
        subst hv3
        have HLEN := hide hlen
        have HN := hide hn
        have HT := hide ht
        clear hlen hn ht htt
        clear hat3 ho3 hg3 hblk3 hblk4 hkg hk34 hk24 hv3B HBK2 HVB2 HVO2 HW2 HEE2 HK2 c0
        go_wp2_with (at_builtin; go_must (refine append_int rfl _ _ rfl base vo es.length _ rfl HVO4.out _ w3.heap.size (by simp) rfl HLEN.out (by have := HK4.out.size; omega) ?_))
        intro v5 w5 ho5 hg5 hat5
        clear c0' c1' f0'
        generalize w3.setCell ⟨B, 0, none⟩ (Value.slice a3 (es.length + 1) c3) = w4 at *
        obtain ⟨a5, c5, hv5, hq1, hq2, hq3⟩ := own_form ho5
        clear hq1 hq2 hq3
        have hblk5 : BkBlk w5 B (Value.slice a3 (es.length + 1) c3) vo a (t + 1) d (u + (1200 + 3 * n)) := (HB4.out.alloc _).grown hg5 HBO.out
        have c1' : w5.cell? ⟨B, 1, none⟩ = some vo := hblk5.cell 1 _ rfl
        have f1' := blk_frozen 1 hblk5
        have hblk6 : BkBlk (w5.setCell ⟨B, 1, none⟩ v5) B (Value.slice a3 (es.length + 1) c3) v5 a (t + 1) d (u + (1200 + 3 * n)) := hblk5.set 1 _ rfl
        have hkg5 : Kp (fun q => vo.ownBlock = some q) w4 w5 := ((Kp.refl _ w4).alloc _).grown hg5 (fun q _ hq => hq)
        have hk56 : Kp (fun q => q = B) w5 (w5.setCell ⟨B, 1, none⟩ v5) := (Kp.refl _ _).setCell _ _ (fun _ => rfl)
        have hk46 : Kp (fun q => q = B ∨ vo.ownBlock = some q) w4 (w5.setCell ⟨B, 1, none⟩ v5) := (hkg5.mono (fun _ _ h => .inr h)).trans hk56 (fun _ _ h => .inl h)
        have hv5B : v5.ownBlock ≠ some B := own_not ho5 hblk5 (by decide)
        have HV6 : Hid ((w5.setCell ⟨B, 1, none⟩ v5).ownsRow base 3 1 v5 (es.length + 1) (es.map (fun e => .int .i64 ((e.m : Nat) : Int)) ++ [.int .i64 ((t : Int) + 1)])) := hk56.owns ho5 (fun q hq e => hv5B (by rw [hq, e]))
        have HVB6 : Hid ((w5.setCell ⟨B, 1, none⟩ v5).ownsRow base 23 1 (Value.slice a3 (es.length + 1) c3) (es.length + 1) (es.map (·.val) ++ [Value.slice al n capl])) := hk46.owns HV4.out (fun q hq hor => by
          rcases hor with rfl | hor
          · exact own_not HV4.out HB4.out (by decide) hq
          · exact own_apart HV4.out HVO4.out (by decide) hq hor)
        have HW6 : Hid ((w5.setCell ⟨B, 1, none⟩ v5).ownsRow base 5 1 (.slice al n capl) n (bv (mkl (t + 1) n))) := hk46.owns HW4.out (fun q hq hor => by
          rcases hor with rfl | hor
          · exact HLB.out hq
          · exact own_apart HW4.out HVO4.out (by decide) hq hor)
        have HEE6 : Hid (∀ e ∈ es, (w5.setCell ⟨B, 1, none⟩ v5).ownsRow base 5 1 e.val e.n (bv (mkl e.m e.n))) := fun e he => hk46.owns (HEE4.out e he) (fun q hq hor => by
          rcases hor with rfl | hor
          · exact own_not (HEE4.out e he) HB4.out (by decide) hq
          · exact own_apart (HEE4.out e he) HVO4.out (by decide) hq hor)
        have HK6 := hide (HK4.out.trans hk46 (fun q _ hor => by rcases hor with h | h; exact .inl h; exact .inr (.inr (.inl h))))
        have HB6 := hide hblk6
        have HV5 : Hid (∀ q, v5.ownBlock = some q → vo.ownBlock = some q ∨ w.heap.size ≤ q) := fun q hq => by
          rcases hat5 with h | h
          · exact .inl (by rw [← h]; exact hq)
          · rw [h] at hq; injection hq with hq; exact .inr (by have := HS4.out; omega)
        have HI6 : Hid (∀ q, v5.ownBlock = some q → q < (w5.setCell ⟨B, 1, none⟩ v5).heap.size) := fun q hq => (HV6.out.lt q hq).2
        subst hv5
        clear ho5 hg5 hat5 hblk5 hblk6 hkg5 hk56 hk46 hv5B
        go_wp2
        go_end0
        refine ⟨rfl, Value.slice a3 (es.length + 1) c3, Value.slice a5 (es.length + 1) c5, es ++ [⟨Value.slice al n capl, n, t + 1⟩], u + (1200 + 3 * n), ?_, HK6.out, ?_⟩
        · refine ⟨HB6.out, by simpa using HVB6.out, by simpa using HV6.out, ?_, ?_, HH.out.hbase, ?_, HT.out, by omega, ?_, ?_, ?_⟩
          · intro e he
            rcases List.mem_append.1 he with he | he
            · exact HEE6.out e he
            · simp at he; subst he; exact HW6.out
          · intro e he e' he' q hq hq'
            rcases List.mem_append.1 he with he | he <;> rcases List.mem_append.1 he' with he' | he'
            · exact HH.out.hs e he e' he' q hq hq'
            · simp at he'; subst he'; exact absurd hq' (HD.out e he q hq)
            · simp at he; subst he; exact absurd hq (HD.out e' he' q hq')
            · simp at he he'; subst he; subst he'; rfl
          · intro e he
            rcases List.mem_append.1 he with he | he
            · exact ⟨by have := (HH.out.hm e he).1; omega, (HH.out.hm e he).2⟩
            · simp at he; subst he; exact ⟨Nat.le_refl _, Nat.lt_of_lt_of_le HN.out (by decide)⟩
          · obtain ⟨c, r, h1, h2, h3⟩ := HH.out.count
            exact ⟨c, r + 1, h1, by simp; omega, by omega⟩
          · intro i j ei ej hi hj haj hij q hq
            rcases snoc_get hi with ⟨_, hi⟩ | ⟨hi0, hi⟩ <;> rcases snoc_get hj with ⟨_, hj⟩ | ⟨hj0, hj⟩
            · exact HH.out.hg i j ei ej hi hj haj hij q hq
            · subst hj; exact HD.out ei (List.mem_of_getElem? hi) q hq
            · subst hi; exact fun hq' => HD.out ej (List.mem_of_getElem? hj) q hq' hq
            · omega
          · intro j ej hj haj
            rcases snoc_get hj with ⟨_, hj⟩ | ⟨_, hj⟩
            · exact HH.out.hn j ej hj haj
            · subst hj; exact HN.out
        · intro q hq
          rcases hq with hq | hq | hq | ⟨e, he, hq⟩
          · exact .inl (.inl hq)
          · rcases HV3.out q hq with h | h
            · exact .inl (.inr (.inl h))
            · exact .inr (.inr ⟨h, (HVB6.out.lt q hq).2⟩)
          · rcases HV5.out q hq with h | h
            · exact .inl (.inr (.inr (.inl h)))
            · exact .inr (.inr ⟨h, HI6.out q hq⟩)
          · rcases List.mem_append.1 he with he | he
            · exact .inl (.inr (.inr (.inr ⟨e, he, hq⟩)))
            · simp at he; subst he; exact .inr (.inl hq)
end
section
open Go.RowKit
/-- 'append(g, y)' at bytes, one of them, and what becomes of every other row of bytes: one in the same block, no longer than g, stays as it was. -/
theorem append_mark {ops : Array Oper} {rest : List Oper} {o : Oper} {a : Act} {Q : Exit → Act → World → Prop} {w : World} (hgd : o.guard = none) (s x : Operand)
    (ho : o.op = .call { callee := .builtin .append, args := #[s, x], argTypes := #[23, 23] }) (B : Nat) (v : Value) (n : Nat) (ds : List Value) (hs : a.eval s = v) (hown : w.ownsRow B 5 1 v n ds)
    (y : Int) (S : Nat) (hS : w.heap.size = S) (hx : a.eval x = .slice (some ⟨S, 0, none⟩) 1 1) (hlen : n < 1099511627776) (hbase : B ≤ w.heap.size)
    (h : ∀ v' w', w'.ownsRow B 5 1 v' (n + 1) (ds ++ [.int .u8 y]) → (∀ v2 n2 xs2, (∀ k, v2.ownBlock = some k → v.ownBlock = some k → n2 ≤ n) → w.ownsRow B 5 1 v2 n2 xs2 → w'.ownsRow B 5 1 v2 n2 xs2) →
      Kp (fun k => v.ownBlock = some k) w w' → (v'.ownBlock = v.ownBlock ∨ v'.ownBlock = some (w.heap.size + 1)) → wpList Tryz.prog ops Q rest (a.put o.dst v') w') : wpList Tryz.prog ops Q (o :: rest) a (w.alloc (.cells #[.int .u8 y] 5)) := by
  obtain ⟨i, hi, hz0, hz1, hz2⟩ := info5_ex
  subst hS
  have hnews : ∀ j u, [Value.int .u8 y][j]? = some u → (w.alloc (.cells #[.int .u8 y] 5)).cell? ((⟨w.heap.size, 0, none⟩ : Addr).add j) = some u := cell_one_new _ _ _
  have h1 : ∀ u ∈ [Value.int .u8 y], u.oneCell' = true := by intro u hu; simp at hu; subst hu; rfl
  have hownA := hown.alloc (.cells #[.int .u8 y] 5)
  have moved : ∀ (w' : World) (v' : Value), (Builtin.append_ #[23, 23] o.type #[v, .slice (some ⟨w.heap.size, 0, none⟩) 1 1]).run Tryz.prog (w.alloc (.cells #[.int .u8 y] 5)) = .ok v' w' →
      w'.ownsRow B 5 1 v' (n + 1) (ds ++ [.int .u8 y]) → Kp (fun _ => False) w w' → v'.ownBlock = some (w.heap.size + 1) → wpList Tryz.prog ops Q (o :: rest) a (w.alloc (.cells #[.int .u8 y] 5)) := by
    intro w' v' hr hown' hk hb
    refine wpList_plain hgd fun K hK => ?_
    unfold Oper.wp execOp
    simp only [ho, resolve, invoke, builtin, Sem.run_bind, Sem.run_pure, Result.andThen_ok, List.map_toArray, List.map_cons, List.map_nil, hs, hx, hr]
    exact hK _ _ (h v' w' hown' (fun v2 n2 xs2 _ h2 => hk.owns h2 (fun _ _ hf => hf)) (hk.mono (fun _ _ hf => hf.elim)) (.inr hb))
  rcases hown.2 with ⟨rfl, rfl⟩ | ⟨g, cap, cur, rfl, hbg, hg, hnc, hcm, hcs, htake⟩
  · have hx0 : ds = [] := List.eq_nil_of_length_eq_zero (by simpa using hown.1)
    subst hx0
    obtain ⟨v', w', hr, r1, r2, _, r4⟩ := run_append_own_at (P := Tryz.prog) (w.alloc (.cells #[.int .u8 y] 5)) B 23 o.type 5 i (.int .u8 0) 1 1 Tryz.underlying23 hi hz0 hz1 hz2 rfl (by decide) (.slice none 0 0) 0 [] hownA ⟨w.heap.size, 0, none⟩ 1 1 [.int .u8 y] rfl hnews h1 (by decide) (by decide) (by simp; omega)
    refine moved w' v' hr (by simpa using r1) (((Kp.refl _ w).alloc _).grown r2 (fun k _ hk => by cases hk)) ?_
    rcases r4 with r4 | r4
    · exfalso
      rcases r1.2 with ⟨_, h0⟩ | ⟨g, _, _, rfl, _⟩
      · omega
      · simp [Value.ownBlock] at r4
    · simpa using r4
  · have hgA : (w.alloc (.cells #[.int .u8 y] 5)).heap[g]? = some (.cells cur 5 (0, 0)) := blk_alloc _ hg
    rw [Nat.mul_one] at hcs htake
    by_cases hroom : n + 1 ≤ cap
    · have hr := run_append_room (P := Tryz.prog) (w.alloc (.cells #[.int .u8 y] 5)) 23 o.type 5 i Tryz.underlying23 hi g n cap cur hgA ⟨w.heap.size, 0, none⟩ 1 1 [.int .u8 y] (by rw [hz1]; rfl) hnews h1 hroom (by rw [hz1]; simp; omega)
      rw [hz1] at hr
      simp only [Nat.mul_one, List.length_cons, List.length_nil, Nat.zero_add] at hr
      have hsz : (cur.toList.take n ++ [Value.int .u8 y] ++ cur.toList.drop (n + 1)).toArray.size = cap := by
        simp only [List.size_toArray, List.length_append, List.length_take, List.length_drop, Array.length_toList, List.length_cons, List.length_nil]
        omega
      have hpre : ∀ q, q ≤ n → (cur.toList.take n ++ [Value.int .u8 y] ++ cur.toList.drop (n + 1)).toArray.toList.take q = cur.toList.take q := by
        intro q hq
        simp only [List.append_assoc]
        rw [List.take_append_of_le_length (by simp; omega), List.take_take, Nat.min_eq_left hq]
      have hrow : ((w.alloc (.cells #[.int .u8 y] 5)).setRow g (cur.toList.take n ++ [Value.int .u8 y] ++ cur.toList.drop (n + 1)).toArray).heap[g]? = some (.cells (cur.toList.take n ++ [Value.int .u8 y] ++ cur.toList.drop (n + 1)).toArray 5 (0, 0)) := setRow_heap _ g cur _ 5 _ hgA
      have hkp : Kp (fun k => (Value.slice (some ⟨g, 0, none⟩) n cap).ownBlock = some k) w ((w.alloc (.cells #[.int .u8 y] 5)).setRow g (cur.toList.take n ++ [Value.int .u8 y] ++ cur.toList.drop (n + 1)).toArray) :=
        ⟨rfl, rfl, rfl, by simp, fun k hk hne => (setRow_other _ g k _ (fun e => hne (by simp [Value.ownBlock, e]))).trans (Below.heap_alloc w _ k hk)⟩
      refine wpList_plain hgd fun K hK => ?_
      unfold Oper.wp execOp
      simp only [ho, resolve, invoke, builtin, Sem.run_bind, Sem.run_pure, Result.andThen_ok, List.map_toArray, List.map_cons, List.map_nil, hs, hx, hr]
      refine hK _ _ (h _ _ ?_ ?_ hkp (.inl rfl))
      · refine ⟨by have := hown.1; simp; omega, .inr ⟨g, cap, _, rfl, hbg, hrow, hroom, hcm, by rw [hsz]; omega, ?_⟩⟩
        rw [Nat.mul_one, htake]
        have hl : (ds ++ [Value.int .u8 y]).length = n + 1 := by have := hown.1; simp; omega
        simp only [← hl]
        exact List.take_left
      · intro v2 n2 xs2 hle h2
        refine ⟨h2.1, ?_⟩
        rcases h2.2 with hn | ⟨g2, cap2, cur2, rfl, hb2, hg2, r1, r2, r3, r4⟩
        · exact .inl hn
        · by_cases hgg : g2 = g
          · subst hgg
            have hn2 := hle g2 rfl rfl
            rw [hg] at hg2
            injection hg2 with hg2
            injection hg2 with hg2 _
            subst hg2
            rw [Nat.mul_one] at r3 r4
            refine .inr ⟨g2, cap2, _, rfl, hb2, hrow, r1, r2, by rw [hsz]; omega, ?_⟩
            rw [Nat.mul_one, hpre n2 hn2, r4]
          · refine .inr ⟨g2, cap2, cur2, rfl, hb2, ?_, r1, r2, r3, r4⟩
            rw [hkp.block g2 (blk_lt hg2) (fun e => hgg (by simp [Value.ownBlock] at e; exact e.symm))]
            exact hg2
    · have holds : ∀ j u, ds[j]? = some u → (w.alloc (.cells #[.int .u8 y] 5)).cell? ((⟨g, 0, none⟩ : Addr).add j) = some u := hownA.cells (g := g) rfl
      have hr := run_append_grow (P := Tryz.prog) (w.alloc (.cells #[.int .u8 y] 5)) 23 o.type 5 i (.int .u8 0) Tryz.underlying23 hi hz0 ⟨g, 0, none⟩ n cap ds (by rw [hz1]; exact hown.1) holds ⟨w.heap.size, 0, none⟩ 1 1 [.int .u8 y] (by rw [hz1]; rfl) hnews (by omega) (by omega) (growslice_fits (by omega) (by rw [hz2]; omega))
      have hge := grownCap_ge (w.alloc (.cells #[.int .u8 y] 5)) (n + 1) cap 5
      have hcm' := grownCap_le_maxLen (w.alloc (.cells #[.int .u8 y] 5)) (n + 1) cap 5 (by unfold maxLen; omega)
      refine moved _ _ hr ⟨by have := hown.1; simp; omega, .inr ⟨_, _, _, rfl, by simp; omega, heap_alloc_new _ _, hge, hcm', ?_, ?_⟩⟩ ⟨rfl, rfl, rfl, by simp; omega, fun k hk _ => ?_⟩ (by simp [Value.ownBlock])
      · have := hown.1
        simp only [Array.size_append, List.size_toArray, size_zeroCells, List.length_cons, List.length_nil]
        have e : (Value.int .u8 0).cells.size = 1 := rfl
        rw [e]
        omega
      · have hl : (ds ++ [Value.int .u8 y]).length = n + 1 := by have := hown.1; simp; omega
        simp only [Array.toList_append, Nat.mul_one]
        rw [← hl]
        exact List.take_left
      · exact (Below.heap_alloc (w.alloc (.cells #[.int .u8 y] 5)).drew _ k (by simp; omega)).trans (Below.heap_alloc w _ k hk)
end
section
open Go.RowKit
/-- Half of a push: the list is in the row of lists, its number not yet in the other row. -/
structure Half (w : World) (base B : Nat) (vb vo : Value) (es : List Ent) (ent : Ent) (a t d u : Nat) : Prop where
  blk : BkBlk w B vb vo a t d u
  hb : w.ownsRow base 23 1 vb (es.length + 1) (es.map (·.val) ++ [ent.val])
  ho : w.ownsRow base 3 1 vo es.length (es.map fun e => .int .i64 ((e.m : Nat) : Int))
  he : ∀ e ∈ es, w.ownsRow base 5 1 e.val e.n (bv (mkl e.m e.n))
  hn : w.ownsRow base 5 1 ent.val ent.n (bv (mkl ent.m ent.n))

theorem push_a {w w3 : World} {base B : Nat} {vb vo : Value} {es : List Ent} {a t d u : Nat} (h : BookC w base B vb vo es a t d u) (ent : Ent) (hent : w.ownsRow base 5 1 ent.val ent.n (bv (mkl ent.m ent.n))) (v3 : Value)
    (ho3 : w3.ownsRow base 23 1 v3 (es.length + 1) (es.map (·.val) ++ [ent.val])) (hg3 : (w.alloc (.cells #[ent.val] 23)).grownBy w3 vb.ownBlock) :
    BkBlk w3 B vb vo a t d u ∧ Half (w3.setCell ⟨B, 0, none⟩ v3) base B v3 vo es ent a t d u ∧ Kp (fun q => q = B ∨ vb.ownBlock = some q) w (w3.setCell ⟨B, 0, none⟩ v3) := by
  have hbb : vb.ownBlock ≠ some B := own_not h.hb h.blk (by decide)
  have hblk3 : BkBlk w3 B vb vo a t d u := (h.blk.alloc _).grown hg3 hbb
  have hkg : Kp (fun q => vb.ownBlock = some q) w w3 := ((Kp.refl _ w).alloc _).grown hg3 (fun q _ hq => hq)
  have hk34 : Kp (fun q => q = B) w3 (w3.setCell ⟨B, 0, none⟩ v3) := (Kp.refl _ _).setCell _ _ (fun _ => rfl)
  have hk24 : Kp (fun q => q = B ∨ vb.ownBlock = some q) w (w3.setCell ⟨B, 0, none⟩ v3) := (hkg.mono (fun _ _ h => .inr h)).trans hk34 (fun _ _ h => .inl h)
  have hkeep : ∀ {ee : TypeId} {v : Value} {nn : Nat} {yy : List Value}, w.ownsRow base ee 1 v nn yy → ee ≠ 48 → ee ≠ 23 → (w3.setCell ⟨B, 0, none⟩ v3).ownsRow base ee 1 v nn yy := fun ho h1 h2 =>
    hk24.owns ho (fun q hq hor => by
      rcases hor with rfl | hor
      · exact own_not ho h.blk h1 hq
      · exact own_apart ho h.hb h2 hq hor)
  exact ⟨hblk3, ⟨hblk3.set 0 _ rfl, hk34.owns ho3 (fun q hq e => own_not ho3 hblk3 (by decide) (by rw [hq, e])), hkeep h.ho (by decide) (by decide), fun e he => hkeep (h.he e he) (by decide) (by decide), hkeep hent (by decide) (by decide)⟩, hk24⟩

theorem push_b {w w5 : World} {base B : Nat} {v3 vo : Value} {es : List Ent} {ent : Ent} {a t d u : Nat} (h : Half w base B v3 vo es ent a t d u) (v5 : Value)
    (ho5 : w5.ownsRow base 3 1 v5 (es.length + 1) (es.map (fun e => .int .i64 ((e.m : Nat) : Int)) ++ [.int .i64 ((ent.m : Nat) : Int)])) (hg5 : (w.alloc (.cells #[.int .i64 ((ent.m : Nat) : Int)] 3)).grownBy w5 vo.ownBlock)
    (hs : ∀ e ∈ es, ∀ e' ∈ es, ∀ k, e.val.ownBlock = some k → e'.val.ownBlock = some k → e.m = e'.m) (hsh : ∀ e ∈ es, ∀ k, e.val.ownBlock = some k → ent.val.ownBlock = some k → e.m = ent.m)
    (hbase : base ≤ B) (hm : ∀ e ∈ es, e.m ≤ t ∧ e.n < 68719477000) (hme : ent.m ≤ t ∧ ent.n < 68719477000) (ht : t < 68719476736) (hu : u ≤ 16777216) :
    BkBlk w5 B v3 vo a t d u ∧ BookC (w5.setCell ⟨B, 1, none⟩ v5) base B v3 v5 (es ++ [ent]) a t d u ∧ Kp (fun q => q = B ∨ vo.ownBlock = some q) w (w5.setCell ⟨B, 1, none⟩ v5) := by
  have hbo : vo.ownBlock ≠ some B := own_not h.ho h.blk (by decide)
  have hblk5 : BkBlk w5 B v3 vo a t d u := (h.blk.alloc _).grown hg5 hbo
  have hkg : Kp (fun q => vo.ownBlock = some q) w w5 := ((Kp.refl _ w).alloc _).grown hg5 (fun q _ hq => hq)
  have hk56 : Kp (fun q => q = B) w5 (w5.setCell ⟨B, 1, none⟩ v5) := (Kp.refl _ _).setCell _ _ (fun _ => rfl)
  have hk46 : Kp (fun q => q = B ∨ vo.ownBlock = some q) w (w5.setCell ⟨B, 1, none⟩ v5) := (hkg.mono (fun _ _ h => .inr h)).trans hk56 (fun _ _ h => .inl h)
  have hkeep : ∀ {ee : TypeId} {v : Value} {nn : Nat} {yy : List Value}, w.ownsRow base ee 1 v nn yy → ee ≠ 48 → ee ≠ 3 → (w5.setCell ⟨B, 1, none⟩ v5).ownsRow base ee 1 v nn yy := fun ho h1 h2 =>
    hk46.owns ho (fun q hq hor => by
      rcases hor with rfl | hor
      · exact own_not ho h.blk h1 hq
      · exact own_apart ho h.ho h2 hq hor)
  have hv5 := hk56.owns ho5 (fun q hq e => own_not ho5 hblk5 (by decide) (by rw [hq, e]))
  have hv3 := hkeep h.hb (by decide) (by decide)
  refine ⟨hblk5, ⟨hblk5.set 1 _ rfl, by simpa using hv3, by simpa using hv5, ?_, ?_, hbase, ?_, ht, hu⟩, hk46⟩
  · intro e he
    rcases List.mem_append.1 he with he | he
    · exact hkeep (h.he e he) (by decide) (by decide)
    · simp at he; subst he; exact hkeep h.hn (by decide) (by decide)
  · intro e he e' he' q hq hq'
    rcases List.mem_append.1 he with h1 | h1 <;> rcases List.mem_append.1 he' with h2 | h2
    · exact hs e h1 e' h2 q hq hq'
    · have h2 := List.mem_singleton.1 h2; rw [h2] at hq' ⊢; exact hsh e h1 q hq hq'
    · have h1 := List.mem_singleton.1 h1; rw [h1] at hq ⊢; exact (hsh e' h2 q hq' hq).symm
    · rw [List.mem_singleton.1 h1, List.mem_singleton.1 h2]
  · intro e he
    rcases List.mem_append.1 he with he | he
    · exact hm e he
    · simp at he; subst he; exact hme

/-- How many of the first i grown lists are kept. -/
def pc : Nat → Nat
  | 0 => 0
  | i + 1 => pc i + if i + 1 < 4 ∨ (i + 1) % 16 = 0 then 1 else 0
theorem pc_le : ∀ i, pc i ≤ i
  | 0 => Nat.le_refl _
  | i + 1 => by unfold pc; have := pc_le i; split <;> omega
theorem pc_yes {q : Nat} (h : q + 1 < 4 ∨ (q + 1) % 16 = 0) : pc (q + 1) = pc q + 1 := by show pc q + _ = _; rw [if_pos h]
theorem pc_no {q : Nat} (h : ¬ (q + 1 < 4 ∨ (q + 1) % 16 = 0)) : pc (q + 1) = pc q := by show pc q + _ = _; rw [if_neg h]; rfl
theorem pc_all : pc 96 = 9 := by decide

/-- What holds within growBytes: the book was (w0, vb0, vo0, es0); the lists ahead of k have been grown. -/
structure Grw (w0 : World) (base B : Nat) (vb0 vo0 : Value) (es0 : List Ent) (a t d u : Nat) (w : World) (vb vo : Value) (es : List Ent) (k : Nat) : Prop where
  core : BookC w base B vb vo es a t d u
  pre : ∀ (j : Nat) (ej : Ent), es0[j]? = some ej → es[j]? = some ej
  kp : Kp (Foot B vb0 vo0 es0) w0 w
  foot : ∀ q, Foot B vb vo es q → Foot B vb0 vo0 es0 q ∨ w0.heap.size ≤ q
  un : ∀ (j : Nat) (ej : Ent), k ≤ j → es0[j]? = some ej → ∀ (i : Nat) (ei : Ent), es[i]? = some ei → i ≠ j → ∀ q, ei.val.ownBlock = some q → ej.val.ownBlock ≠ some q
  old : ∀ (j : Nat) (ej : Ent), es0[j]? = some ej → ∀ q, ej.val.ownBlock = some q → q < w0.heap.size

/-- .. and within the growing of list e: i of its appendings are done, gv is what has come of it. -/
structure Inn (w0 : World) (base B : Nat) (vb0 vo0 : Value) (es0 : List Ent) (a t d u : Nat) (w : World) (vb vo : Value) (es : List Ent) (k : Nat) (e : Ent) (i : Nat) (gv : Value) : Prop where
  g : Grw w0 base B vb0 vo0 es0 a t d u w vb vo es (k + 1)
  own : w.ownsRow base 5 1 gv (e.n + i) (bv (mkl e.m (e.n + i)))
  gb : ∀ q, gv.ownBlock = some q → e.val.ownBlock = some q ∨ w0.heap.size ≤ q
  share : ∀ x ∈ es, ∀ q, x.val.ownBlock = some q → gv.ownBlock = some q → x.m = e.m ∧ x.n ≤ e.n + i

section
variable {w0 : World} {base B : Nat} {vb0 vo0 : Value} {es0 : List Ent} {a t d u : Nat}

theorem Grw.begin {w : World} {vb vo : Value} {es : List Ent} {k : Nat} {e : Ent} (h : Grw w0 base B vb0 vo0 es0 a t d u w vb vo es k) (he : es0[k]? = some e) : Inn w0 base B vb0 vo0 es0 a t d u w vb vo es k e 0 e.val := by
  have hek := h.pre k e he
  refine ⟨⟨h.core, h.pre, h.kp, h.foot, fun j ej hj => h.un j ej (by omega), h.old⟩, h.core.he e (List.mem_of_getElem? hek), fun q hq => .inl hq, fun x hx q hq hq' => ?_⟩
  obtain ⟨i, hi⟩ := List.getElem?_of_mem hx
  by_cases hik : i = k
  · subst hik
    rw [hek] at hi
    injection hi with hi
    subst hi
    exact ⟨rfl, Nat.le_refl _⟩
  · exact absurd hq' (h.un k e (Nat.le_refl _) he i x hi hik q hq)

/-- One byte is appended. -/
theorem Inn.append {w : World} {vb vo : Value} {es : List Ent} {k : Nat} {e : Ent} {i : Nat} {gv : Value} (h : Inn w0 base B vb0 vo0 es0 a t d u w vb vo es k e i gv) (he : es0[k]? = some e) {w2 : World} {g2 : Value}
    (ho : w2.ownsRow base 5 1 g2 (e.n + i + 1) (bv (mkl e.m (e.n + i)) ++ [.int .u8 ((atv e.m (e.n + i) : Nat) : Int)]))
    (hkeep : ∀ v2 n2 xs2, (∀ k, v2.ownBlock = some k → gv.ownBlock = some k → n2 ≤ e.n + i) → w.ownsRow base 5 1 v2 n2 xs2 → w2.ownsRow base 5 1 v2 n2 xs2)
    (hk : Kp (fun k => gv.ownBlock = some k) w w2) (hat : g2.ownBlock = gv.ownBlock ∨ g2.ownBlock = some (w.heap.size + 1)) : Inn w0 base B vb0 vo0 es0 a t d u w2 vb vo es k e (i + 1) g2 := by
  have hfe : ∀ q, e.val.ownBlock = some q → Foot B vb0 vo0 es0 q := fun q hq => .inr (.inr (.inr ⟨e, List.mem_of_getElem? he, hq⟩))
  have hkp2 : Kp (Foot B vb0 vo0 es0) w0 w2 := h.g.kp.trans hk (fun q hq hg => by
    rcases h.gb q hg with h1 | h1
    · exact hfe q h1
    · omega)
  have hne : ∀ {ee : TypeId} {v : Value} {nn : Nat} {yy : List Value}, w.ownsRow base ee 1 v nn yy → ee ≠ 5 → w2.ownsRow base ee 1 v nn yy := fun ho h1 => hk.owns ho (fun q hq hg => own_apart ho h.own h1 hq hg)
  refine ⟨⟨⟨h.g.core.blk.kp hk (fun hg => own_not h.own h.g.core.blk (by decide) hg), hne h.g.core.hb (by decide), hne h.g.core.ho (by decide), fun x hx => hkeep _ _ _ (fun q hq hg => (h.share x hx q hq hg).2) (h.g.core.he x hx), h.g.core.hs, h.g.core.hbase, h.g.core.hm, h.g.core.ht, h.g.core.hu⟩, h.g.pre, hkp2, h.g.foot, h.g.un, h.g.old⟩, ?_, ?_, ?_⟩
  · have e1 : bv (mkl e.m (e.n + (i + 1))) = bv (mkl e.m (e.n + i)) ++ [.int .u8 ((atv e.m (e.n + i) : Nat) : Int)] := by
      rw [← Nat.add_assoc, mkl_snoc, bv_app]; rfl
    rw [e1]
    exact ho
  · intro q hq
    rcases hat with h1 | h1
    · exact h.gb q (by rw [← h1]; exact hq)
    · rw [h1] at hq; injection hq with hq; exact .inr (by have := h.g.kp.size; omega)
  · intro x hx q hq hg
    rcases hat with h1 | h1
    · have := h.share x hx q hq (by rw [← h1]; exact hg)
      exact ⟨this.1, by omega⟩
    · rw [h1] at hg
      injection hg with hg
      have := (own_back (h.g.core.he x hx) q hq).2
      omega

/-- What has come of it is kept too. -/
theorem Inn.push {w : World} {vb vo : Value} {es : List Ent} {k : Nat} {e : Ent} {i : Nat} {gv : Value} (h : Inn w0 base B vb0 vo0 es0 a t d u w vb vo es k e i gv) (he : es0[k]? = some e) {w6 : World} {vb6 vo6 : Value}
    (hc : BookC w6 base B vb6 vo6 (es ++ [⟨gv, e.n + i, e.m⟩]) a t d u) (hk : Kp (fun q => q = B ∨ vb.ownBlock = some q ∨ vo.ownBlock = some q) w w6)
    (hb : ∀ q, vb6.ownBlock = some q → vb.ownBlock = some q ∨ w0.heap.size ≤ q) (ho : ∀ q, vo6.ownBlock = some q → vo.ownBlock = some q ∨ w0.heap.size ≤ q) :
    Inn w0 base B vb0 vo0 es0 a t d u w6 vb6 vo6 (es ++ [⟨gv, e.n + i, e.m⟩]) k e i gv := by
  have hfe : ∀ q, e.val.ownBlock = some q → Foot B vb0 vo0 es0 q := fun q hq => .inr (.inr (.inr ⟨e, List.mem_of_getElem? he, hq⟩))
  have hkp2 : Kp (Foot B vb0 vo0 es0) w0 w6 := h.g.kp.trans hk (fun q hq hg => by
    have hf : Foot B vb vo es q := by
      rcases hg with h1 | h1 | h1
      · exact .inl h1
      · exact .inr (.inl h1)
      · exact .inr (.inr (.inl h1))
    rcases h.g.foot q hf with h1 | h1
    · exact h1
    · omega)
  refine ⟨⟨hc, ?_, hkp2, ?_, ?_, h.g.old⟩, ?_, h.gb, ?_⟩
  · intro j ej hj
    have := h.g.pre j ej hj
    rw [List.getElem?_append_left (List.getElem?_eq_some_iff.1 this).1]
    exact this
  · intro q hq
    rcases hq with hq | hq | hq | ⟨x, hx, hq⟩
    · exact h.g.foot q (.inl hq)
    · rcases hb q hq with h1 | h1
      · exact h.g.foot q (.inr (.inl h1))
      · exact .inr h1
    · rcases ho q hq with h1 | h1
      · exact h.g.foot q (.inr (.inr (.inl h1)))
      · exact .inr h1
    · rcases List.mem_append.1 hx with hx | hx
      · exact h.g.foot q (.inr (.inr (.inr ⟨x, hx, hq⟩)))
      · rw [List.mem_singleton.1 hx] at hq
        rcases h.gb q hq with h1 | h1
        · exact .inl (hfe q h1)
        · exact .inr h1
  · intro j ej hkj hj i' ei hi hij q hq
    rcases snoc_get hi with ⟨_, hi⟩ | ⟨_, hi⟩
    · exact h.g.un j ej hkj hj i' ei hi hij q hq
    · subst hi
      intro hq'
      rcases h.gb q hq with h1 | h1
      · exact h.g.un j ej hkj hj k e (h.g.pre k e he) (by omega) q h1 hq'
      · have := h.g.old j ej hj q hq'
        omega
  · have := hc.he ⟨gv, e.n + i, e.m⟩ (by simp)
    exact this
  · intro x hx q hq hg
    rcases List.mem_append.1 hx with hx | hx
    · exact h.share x hx q hq hg
    · rw [List.mem_singleton.1 hx]; exact ⟨rfl, Nat.le_refl _⟩
end
end
section
open Go.RowKit
set_option maxRecDepth 1000000 in
set_option maxHeartbeats 1000000 in
theorem growBytes_any {w : World} {base B : Nat} {vb vo : Value} {es : List Ent} {a t d u : Nat} (h : BookOk w base B vb vo es a t d u) (hbase : base ≤ w.heap.size) :
    Calls Tryz.prog 67 #[.pointer (some ⟨B, 0, none⟩)] w fun e w' => e = .returned (.tuple #[]) ∧ ∃ vb' vo' es' a', BookOk w' base B vb' vo' es' a' t d u ∧
      Kp (Foot B vb vo es) w w' ∧ ∀ q, Foot B vb' vo' es' q → Foot B vb vo es q ∨ w.heap.size ≤ q := by
  obtain ⟨ab, capb, hvb, hq1, hq2, hq3⟩ := own_form h.hb
  have HBASE := hide hbase
  have c0 : w.cell? ⟨B, 0, none⟩ = some vb := h.blk.cell 0 _ rfl
  have c2 : w.cell? ⟨B, 2, none⟩ = some (.int .i64 (a : Nat)) := h.blk.cell 2 _ rfl
  have hal : a ≤ es.length := by obtain ⟨c, r, h1, h2, _⟩ := h.count; omega
  have HCT := hide h.count
  have HN0 := hide h.hn
  have hel : es.length ≤ 139810 := by obtain ⟨c, r, h1, h2, h3⟩ := h.count; have := h.hu; omega
  have HG0 : Hid (Grw w base B vb vo es a t d u w vb vo es a) := ⟨h.core, fun _ _ h => h, Kp.refl _ _, fun q hq => .inl hq, fun j ej hj hej i ei hei hij q hq => h.hg i j ei ej hei hej hj hij q hq, fun j ej hej q hq => (own_back (h.he ej (List.mem_of_getElem? hej)) q hq).2⟩
  clear h hq1 hq2 hq3 hbase
  rw [hvb] at c0
  clear hvb
  go_enter Tryz.func67, Tryz.ntmps67
  go_wp2
  clear c0 c2
  go_loopw [3] (fun i wr => ∃ (k : Nat) (vb2 vo2 : Value) (es2 : List Ent), k ≤ es.length ∧ a ≤ k ∧ i = .int .i64 k ∧ Grw w base B vb vo es a t d u wr vb2 vo2 es2 k ∧ es2.length = es.length + 9 * (k - a)) (fun i _ => es.length - (intOf i).toNat)
  case atStart => exact ⟨a, vb, vo, es, hal, Nat.le_refl _, rfl, HG0.out, by omega⟩
  case round =>
    obtain ⟨k, vb2, vo2, es2, hk, hak, rfl, hgrw, hlen2⟩ := hrel
    clear HG0
    have HG := hide hgrw
    have HL2 := hide hlen2
    obtain ⟨ab2, capb2, hvb2, hq1, hq2, hcb2⟩ := own_form hgrw.core.hb
    obtain ⟨ao2, capo2, hvo2, hq3, hq4, hco2⟩ := own_form hgrw.core.ho
    have HCB := hide hcb2
    have HCO := hide hco2
    have c0 : wr.cell? ⟨B, 0, none⟩ = some vb2 := hgrw.core.blk.cell 0 _ rfl
    have c1 : wr.cell? ⟨B, 1, none⟩ = some vo2 := hgrw.core.blk.cell 1 _ rfl
    have c2 : wr.cell? ⟨B, 2, none⟩ = some (.int .i64 (a : Nat)) := hgrw.core.blk.cell 2 _ rfl
    have f2 := blk_frozen 2 hgrw.core.blk
    have he2 : es2.length ≤ 1398100 := by omega
    clear hcb2 hco2 hgrw hlen2 hq1 hq2 hq3 hq4
    by_cases hlt : k < es.length
    · have hlt' : (k : Int) < (es.length : Int) := by omega
      obtain ⟨e, hek⟩ : ∃ e, es[k]? = some e := ⟨es[k], by simp [hlt]⟩
      have hek2 := HG.out.pre k e hek
      have hk2 : k < es2.length := (List.getElem?_eq_some_iff.1 hek2).1
      obtain ⟨gb, hab, hcb1⟩ := HCB.out k e.val (by simp [hek2])
      obtain ⟨go, hao, hco1⟩ := HCO.out k (.int .i64 ((e.m : Nat) : Int)) (by simp [hek2])
      have hmm := HG.out.core.hm e (List.mem_of_getElem? hek2)
      have htt := HG.out.core.ht
      have HIN := hide (HG.out.begin hek)
      obtain ⟨ae, ce, hev, hq5, hq6, hq7⟩ := own_form HIN.out.own
      have HEK := hide hek
      have HMM : Hid (e.m ≤ t ∧ e.n < 68719476736) := ⟨hmm.1, HN0.out k e hek hak⟩
      have HTT := hide htt
      rw [hab] at hvb2
      rw [hao] at hvo2
      rw [hvb2] at c0
      rw [hvo2] at c1
      rw [Nat.add_zero] at hev
      obtain ⟨ev, en, em⟩ := e
      simp only at hev hcb1 hco1 hq5 hq6
      subst hev
      clear hvb2 hvo2 hab hao HCB HCO hmm htt hq5 hq6 hq7 hek hek2 f2 c2
      obtain ⟨wo, rfl⟩ : ∃ x, wr = x := ⟨wr, rfl⟩
      go_wp2
      clear c0 c1 hcb1 hco1
      go_loopw [4, 6] (fun g i wr' => ∃ (q : Nat) (vb3 vo3 : Value) (es3 : List Ent) (ag : Option Addr) (cg : Nat), q ≤ 96 ∧ i = .int .i64 ((q + 1 : Nat)) ∧ g = .slice ag (en + q) cg ∧ Inn w base B vb vo es a t d u wr' vb3 vo3 es3 k ⟨.slice ae en ce, en, em⟩ q (.slice ag (en + q) cg) ∧ es3.length = es2.length + pc q) (fun _ i _ => 98 - (intOf i).toNat)
      case atStart => exact ⟨0, vb2, vo2, es2, ae, ce, by omega, rfl, rfl, HIN.out, rfl⟩
      case round =>
        obtain ⟨q, vb3, vo3, es3, ag, cg, hq, rfl, rfl, hinn, hlen3⟩ := hrel
        have HI := hide hinn
        have HL3 := hide hlen3
        have hpc := pc_le q
        have he3 : es3.length ≤ 1398200 := by omega
        have hszb : base ≤ wr.heap.size := Nat.le_trans HBASE.out hinn.g.kp.size
        have HSZB := hide hszb
        clear hinn hlen3 HIN hszb hpc
        by_cases hq96 : q < 96
        · have hq96' : ((q + 1 : Nat) : Int) ≤ 96 := by omega
          have HAT : Hid (∀ W, Calls Tryz.prog 60 #[.int .i64 (em : Int), .int .i64 ((en : Int) + (q : Int))] W fun e w' => e = .returned (.int .u8 ((atv em (en + q) : Nat) : Int)) ∧ w' = W) := fun W => by
            have h1 := HMM.out
            have h2 := HTT.out
            have h3 : em ≤ t ∧ en < 68719476736 := h1
            have := at_any (em : Int) ((en : Int) + (q : Int)) W (by omega) (by omega) (by omega) (by omega)
            have e1 : ((en : Int) + (q : Int)).toNat = en + q := by omega
            rw [Int.toNat_natCast, e1] at this
            exact this
          have HEN : Hid (en < 68719476736) := HMM.out.2
          have HEM : Hid (em ≤ t) := HMM.out.1
          go_wp2_with fail
          refine (HAT.out _).mono ?_
          rintro e w' ⟨rfl, rfl⟩
          have HO3 : Hid (w'.ownsRow base 5 1 (Value.slice ag (en + q) cg) (en + q) (bv (mkl em (en + q)))) := HI.out.own
          go_wp2_with (at_builtin; refine append_mark rfl _ _ rfl base _ (en + q) _ rfl HO3.out _ _ rfl rfl (by have := HEN.out; omega) HSZB.out ?_)
          intro g4 w4 ho4 hkeep4 hk4 hat4
          obtain ⟨a4, c4, hg4, hq8, hq9, hq10⟩ := own_form ho4
          have HI4 := hide (HI.out.append HEK.out ho4 hkeep4 hk4 hat4)
          have hsz4 : w'.heap.size ≤ w4.heap.size := hk4.size
          have HSZ4 : Hid (base ≤ w4.heap.size) := Nat.le_trans HSZB.out hsz4
          subst hg4
          clear hq8 hq9 hq10 ho4 hkeep4 hk4 hat4 hsz4 HI HO3 HAT
          clear hq96'
          have hpos : ((q : Int) + 1 < 4 ∨ (¬ (q : Int) + 1 < 4 ∧ (((q : Int) + 1) % 16 == 0) = true)) ∨ (¬ (q : Int) + 1 < 4 ∧ (((q : Int) + 1) % 16 == 0) = false) := by
            by_cases h1 : q + 1 < 4
            · exact .inl (.inl (by omega))
            · by_cases h2 : (q + 1) % 16 = 0
              · exact .inl (.inr ⟨by omega, beq_iff_eq.2 (by omega)⟩)
              · exact .inr ⟨by omega, beq_eq_false_iff_ne.2 (by omega)⟩
          rcases hpos with hpos | ⟨hno1, hno2⟩
          · have hpc1 : pc (q + 1) = pc q + 1 := by
              refine pc_yes ?_
              rcases hpos with h | ⟨_, h⟩
              · left; omega
              · right; have := beq_iff_eq.1 h; omega
            have HPC := hide hpc1
            have c0 : w4.cell? ⟨B, 0, none⟩ = some vb3 := HI4.out.g.core.blk.cell 0 _ rfl
            clear hpc1
            rcases hpos with hno1 | ⟨hno1, hno2⟩
            all_goals
              go_wp2_with (at_builtin; refine append_row rfl _ _ rfl base vb3 es3.length _ rfl HI4.out.g.core.hb _ _ rfl rfl rfl (by omega) HSZ4.out ?_)
              intro v5 w5 ho5 hg5 hat5
              obtain ⟨a5, c5, hv5, hq8, hq9, hq10⟩ := own_form ho5
              obtain ⟨hblk5, hhalf, hkp5⟩ := push_a HI4.out.g.core ⟨Value.slice a4 (en + q + 1) c4, en + (q + 1), em⟩ HI4.out.own v5 ho5 hg5
              have c0' : w5.cell? ⟨B, 0, none⟩ = some vb3 := hblk5.cell 0 _ rfl
              have c1' : w5.cell? ⟨B, 1, none⟩ = some vo3 := hblk5.cell 1 _ rfl
              have f0' := blk_frozen 0 hblk5
              have HHF := hide hhalf
              have HKP5 := hide hkp5
              have HAT5 : Hid (∀ z, v5.ownBlock = some z → vb3.ownBlock = some z ∨ w.heap.size ≤ z) := fun z hz => by
                rcases hat5 with h | h
                · exact .inl (by rw [← h]; exact hz)
                · rw [h] at hz; injection hz with hz; exact .inr (by have := HI4.out.g.kp.size; omega)
              have HSZ5 : Hid (base ≤ (w5.setCell ⟨B, 0, none⟩ v5).heap.size ∧ w.heap.size ≤ (w5.setCell ⟨B, 0, none⟩ v5).heap.size) := ⟨Nat.le_trans HSZ4.out hkp5.size, Nat.le_trans HI4.out.g.kp.size hkp5.size⟩
              subst hv5
              clear hq8 hq9 hq10 ho5 hg5 hat5 hblk5 hhalf hkp5 c0
              go_wp2_with (at_builtin; refine append_int rfl _ _ rfl base vo3 es3.length _ rfl HHF.out.ho _ w5.heap.size (by simp) rfl (by omega) HSZ5.out.1 ?_)
              intro v7 w7 ho7 hg7 hat7
              obtain ⟨a7, c7, hv7, hq8, hq9, hq10⟩ := own_form ho7
              obtain ⟨hblk7, hbk7, hkp7⟩ := push_b HHF.out v7 ho7 hg7 HI4.out.g.core.hs (fun x hx z h1 h2 => (HI4.out.share x hx z h1 h2).1) HI4.out.g.core.hbase HI4.out.g.core.hm ⟨HEM.out, by have := HEN.out; show en + (q + 1) < _; omega⟩ HI4.out.g.core.ht HI4.out.g.core.hu
              have c1'' : w7.cell? ⟨B, 1, none⟩ = some vo3 := hblk7.cell 1 _ rfl
              have f1'' := blk_frozen 1 hblk7
              have hkall : Kp (fun z => z = B ∨ vb3.ownBlock = some z ∨ vo3.ownBlock = some z) w4 (w7.setCell ⟨B, 1, none⟩ v7) :=
                (HKP5.out.mono (fun z _ hz => by rcases hz with h | h; exact .inl h; exact .inr (.inl h))).trans hkp7 (fun z _ hz => by rcases hz with h | h; exact .inl h; exact .inr (.inr h))
              have HI7 := hide (HI4.out.push HEK.out hbk7 hkall HAT5.out (fun z hz => by
                rcases hat7 with h | h
                · exact .inl (by rw [← h]; exact hz)
                · rw [h] at hz; injection hz with hz; exact .inr (by have := HSZ5.out.2; simp at this; omega)))
              subst hv7
              clear hq8 hq9 hq10 ho7 hg7 hat7 hblk7 hbk7 hkp7 hkall c0' c1' f0' HHF HKP5 HAT5 HSZ5 HI4
              go_wp2
              go_roundw
              case rel => exact ⟨q + 1, _, _, _, _, _, by omega, by go_num, rfl, HI7.out, by have h1 := HL3.out; have h2 := HPC.out; simp; omega⟩
              case measure => simp [intOf]; omega
          · have hpc1 : pc (q + 1) = pc q := by
              refine pc_no ?_
              have := beq_eq_false_iff_ne.1 hno2
              omega
            have HPC := hide hpc1
            clear hpc1
            go_wp2
            go_roundw
            case rel => exact ⟨q + 1, _, _, _, _, _, by omega, by go_num, rfl, HI4.out, by have h1 := HL3.out; have h2 := HPC.out; omega⟩
            case measure => simp [intOf]; omega
        · have hq96' : ¬ ((q : Int) + 1) ≤ 96 := by omega
          have hqq : q = 96 := by omega
          have HQQ := hide hqq
          clear hqq hq96
          go_wp2
          go_roundw
          case rel =>
            refine ⟨k + 1, vb3, vo3, es3, by omega, by omega, by go_num, HI.out.g, ?_⟩
            have h1 := HL3.out
            have h2 := HL2.out
            rw [HQQ.out, pc_all] at h1
            omega
          case measure => simp [intOf]; omega
    · have hlt' : ¬ (k : Int) < (es.length : Int) := by omega
      have hke : k = es.length := by omega
      rw [hvb2] at c0
      have HSET : Hid (BkBlk (wr.setCell ⟨B, 2, none⟩ (.int .i64 (es2.length : Nat))) B vb2 vo2 es2.length t d u) := HG.out.core.blk.set 2 _ rfl
      have HKE := hide hke
      clear hke
      go_wp2
      go_end0
      have hk2 : Kp (fun q => q = B) wr (wr.setCell ⟨B, 2, none⟩ (.int .i64 (es2.length : Nat))) := (Kp.refl _ _).setCell _ _ (fun _ => rfl)
      have hne : ∀ {ee : TypeId} {v : Value} {nn : Nat} {yy : List Value}, wr.ownsRow base ee 1 v nn yy → ee ≠ 48 → (wr.setCell ⟨B, 2, none⟩ (.int .i64 (es2.length : Nat))).ownsRow base ee 1 v nn yy := fun ho h1 => hk2.owns ho (fun q hq e => own_not ho HG.out.core.blk h1 (by rw [hq, e]))
      refine ⟨rfl, vb2, vo2, es2, ⟨es2.length, HSET.out, hne HG.out.core.hb (by decide), hne HG.out.core.ho (by decide), fun x hx => hne (HG.out.core.he x hx) (by decide), HG.out.core.hs, HG.out.core.hbase, HG.out.core.hm, HG.out.core.ht, HG.out.core.hu, ?_, ?_, ?_⟩, HG.out.kp.trans hk2 (fun q _ hq => .inl hq), HG.out.foot⟩
      · obtain ⟨c, r, h1, h2, h3⟩ := HCT.out
        refine ⟨c + r, 0, ?_, ?_, by omega⟩
        · have := HL2.out; rw [HKE.out] at this; omega
        · have := HL2.out; rw [HKE.out] at this; omega
      · intro i j ei ej _ hj haj
        have := (List.getElem?_eq_some_iff.1 hj).1
        omega
      · intro j ej hj haj
        have := (List.getElem?_eq_some_iff.1 hj).1
        omega
end
section
open Go.RowKit
theorem BookOk.still {w w' : World} {base B : Nat} {vb vo : Value} {es : List Ent} {a t d u : Nat} (h : BookOk w base B vb vo es a t d u) (hk : Kp (fun _ => False) w w') : BookOk w' base B vb vo es a t d u :=
  h.kp hk (fun h => h) (fun _ _ h => h) (fun _ _ h => h) (fun _ _ _ _ h => h)
/-- What touches the book's own block alone keeps the rows. -/
theorem BookOk.reblk {w w' : World} {base B : Nat} {vb vo : Value} {es : List Ent} {a t d u d' : Nat} (h : BookOk w base B vb vo es a t d u) (hb : BkBlk w' B vb vo a t d' u) (hk : Kp (fun k => k = B) w w') : BookOk w' base B vb vo es a t d' u :=
  ⟨hb, hk.owns h.hb (fun q hq e => own_not h.hb h.blk (by decide) (by rw [hq, e])), hk.owns h.ho (fun q hq e => own_not h.ho h.blk (by decide) (by rw [hq, e])), fun x hx => hk.owns (h.he x hx) (fun q hq e => own_not (h.he x hx) h.blk (by decide) (by rw [hq, e])), h.hs, h.hbase, h.hm, h.ht, h.hu, h.count, h.hg, h.hn⟩

set_option maxRecDepth 1000000 in
set_option maxHeartbeats 400000 in
theorem holds_any {w : World} {base B : Nat} {vb vo : Value} {es : List Ent} {a t d u : Nat} (h : BookOk w base B vb vo es a t d u) :
    Calls Tryz.prog 42 #[.pointer (some ⟨B, 0, none⟩)] w fun e w' => e = .returned (.bool true) ∧ Kp (fun _ => False) w w' := by
  have HH := hide h
  clear h
  go_enter Tryz.func42, Tryz.ntmps42
  go_wp2_with fail
  refine (plain_any HH.out).mono ?_
  rintro e w1 ⟨rfl, hk1⟩
  have HK1 := hide hk1
  have HB1 := hide (HH.out.still hk1).blk
  clear hk1
  go_wp2_with fail
  refine (kept_any HB1.out).mono ?_
  rintro e w2 ⟨rfl, rfl⟩
  go_wp2_with fail
  refine (told_any HB1.out).mono ?_
  rintro e w2 ⟨rfl, rfl⟩
  go_wp2_with fail
  refine (held_any HB1.out).mono ?_
  rintro e w2 ⟨rfl, rfl⟩
  go_wp2_with fail
  refine (sent_any HB1.out).mono ?_
  rintro e w2 ⟨rfl, rfl⟩
  go_wp2
  go_ret
  exact ⟨rfl, HK1.out⟩

set_option maxRecDepth 1000000 in
set_option maxHeartbeats 1000000 in
theorem bgrow_any {w : World} {base B : Nat} {vb vo : Value} {es : List Ent} {a t d u : Nat} (h : BookOk w base B vb vo es a t d u) (hbase : base ≤ w.heap.size) :
    Calls Tryz.prog 43 #[.pointer (some ⟨B, 0, none⟩)] w fun e w' => e = .returned (.tuple #[]) ∧ ∃ vb' vo' es' a', BookOk w' base B vb' vo' es' a' t t u ∧
      Kp (Foot B vb vo es) w w' ∧ ∀ q, Foot B vb' vo' es' q → Foot B vb vo es q ∨ w.heap.size ≤ q := by
  have HH := hide h
  have HBS := hide hbase
  clear h hbase
  go_enter Tryz.func43, Tryz.ntmps43
  go_wp2_with fail
  refine (growBytes_any HH.out HBS.out).mono ?_
  rintro e w1 ⟨rfl, vb1, vo1, es1, a1, hok1, hk1, hf1⟩
  have HOK := hide hok1
  have HK1 := hide hk1
  have HF1 := hide hf1
  have HBK := hide hok1.blk
  have HKB : Hid (Kp (fun k => k = B) w1 w1) := Kp.refl _ _
  clear hok1 hk1 hf1
  go_wp2_with fail
  refine (grow38_any HBK.out).mono ?_
  rintro e wn ⟨rfl, hbn, hkn⟩
  have HKB' := hide (HKB.out.trans hkn (fun _ _ h => h))
  have HBK' := hide hbn
  clear HKB HBK hbn hkn
  have HKB := HKB'
  have HBK := HBK'
  clear HKB' HBK'
  go_wp2_with fail
  refine (grow39_any HBK.out).mono ?_
  rintro e wn ⟨rfl, hbn, hkn⟩
  have HKB' := hide (HKB.out.trans hkn (fun _ _ h => h))
  have HBK' := hide hbn
  clear HKB HBK hbn hkn
  have HKB := HKB'
  have HBK := HBK'
  clear HKB' HBK'
  go_wp2_with fail
  refine (grow40_any HBK.out).mono ?_
  rintro e wn ⟨rfl, hbn, hkn⟩
  have HKB' := hide (HKB.out.trans hkn (fun _ _ h => h))
  have HBK' := hide hbn
  clear HKB HBK hbn hkn
  have HKB := HKB'
  have HBK := HBK'
  clear HKB' HBK'
  go_wp2_with fail
  refine (grow41_any HBK.out).mono ?_
  rintro e wn ⟨rfl, hbn, hkn⟩
  have HKB' := hide (HKB.out.trans hkn (fun _ _ h => h))
  have HBK' := hide hbn
  clear HKB HBK hbn hkn
  have HKB := HKB'
  have HBK := HBK'
  clear HKB' HBK'
  go_wp2_with fail
  refine (grow42_any HBK.out).mono ?_
  rintro e wn ⟨rfl, hbn, hkn⟩
  have HKB' := hide (HKB.out.trans hkn (fun _ _ h => h))
  have HBK' := hide hbn
  clear HKB HBK hbn hkn
  have HKB := HKB'
  have HBK := HBK'
  clear HKB' HBK'
  go_wp2_with fail
  refine (grow43_any HBK.out).mono ?_
  rintro e wn ⟨rfl, hbn, hkn⟩
  have HKB' := hide (HKB.out.trans hkn (fun _ _ h => h))
  have HBK' := hide hbn
  clear HKB HBK hbn hkn
  have HKB := HKB'
  have HBK := HBK'
  clear HKB' HBK'
  go_wp2_with fail
  refine (grow44_any HBK.out).mono ?_
  rintro e wn ⟨rfl, hbn, hkn⟩
  have HKB' := hide (HKB.out.trans hkn (fun _ _ h => h))
  have HBK' := hide hbn
  clear HKB HBK hbn hkn
  have HKB := HKB'
  have HBK := HBK'
  clear HKB' HBK'
  go_wp2_with fail
  refine (grow45_any HBK.out).mono ?_
  rintro e wn ⟨rfl, hbn, hkn⟩
  have HKB' := hide (HKB.out.trans hkn (fun _ _ h => h))
  have HBK' := hide hbn
  clear HKB HBK hbn hkn
  have HKB := HKB'
  have HBK := HBK'
  clear HKB' HBK'
  go_wp2_with fail
  refine (grow46_any HBK.out).mono ?_
  rintro e wn ⟨rfl, hbn, hkn⟩
  have HKB' := hide (HKB.out.trans hkn (fun _ _ h => h))
  have HBK' := hide hbn
  clear HKB HBK hbn hkn
  have HKB := HKB'
  have HBK := HBK'
  clear HKB' HBK'
  go_wp2_with fail
  refine (grow47_any HBK.out).mono ?_
  rintro e wn ⟨rfl, hbn, hkn⟩
  have HKB' := hide (HKB.out.trans hkn (fun _ _ h => h))
  have HBK' := hide hbn
  clear HKB HBK hbn hkn
  have HKB := HKB'
  have HBK := HBK'
  clear HKB' HBK'
  go_wp2_with fail
  refine (grow48_any HBK.out).mono ?_
  rintro e wn ⟨rfl, hbn, hkn⟩
  have HKB' := hide (HKB.out.trans hkn (fun _ _ h => h))
  have HBK' := hide hbn
  clear HKB HBK hbn hkn
  have HKB := HKB'
  have HBK := HBK'
  clear HKB' HBK'
  go_wp2_with fail
  refine (grow49_any HBK.out).mono ?_
  rintro e wn ⟨rfl, hbn, hkn⟩
  have HKB' := hide (HKB.out.trans hkn (fun _ _ h => h))
  have HBK' := hide hbn
  clear HKB HBK hbn hkn
  have HKB := HKB'
  have HBK := HBK'
  clear HKB' HBK'
  go_wp2_with fail
  refine (grow50_any HBK.out).mono ?_
  rintro e wn ⟨rfl, hbn, hkn⟩
  have HKB' := hide (HKB.out.trans hkn (fun _ _ h => h))
  have HBK' := hide hbn
  clear HKB HBK hbn hkn
  have HKB := HKB'
  have HBK := HBK'
  clear HKB' HBK'
  go_wp2_with fail
  refine (grow51_any HBK.out).mono ?_
  rintro e wn ⟨rfl, hbn, hkn⟩
  have HKB' := hide (HKB.out.trans hkn (fun _ _ h => h))
  have HBK' := hide hbn
  clear HKB HBK hbn hkn
  have HKB := HKB'
  have HBK := HBK'
  clear HKB' HBK'
  go_wp2_with fail
  refine (grow52_any HBK.out).mono ?_
  rintro e wn ⟨rfl, hbn, hkn⟩
  have HKB' := hide (HKB.out.trans hkn (fun _ _ h => h))
  have HBK' := hide hbn
  clear HKB HBK hbn hkn
  have HKB := HKB'
  have HBK := HBK'
  clear HKB' HBK'
  go_wp2_with fail
  refine (grow53_any HBK.out).mono ?_
  rintro e wn ⟨rfl, hbn, hkn⟩
  have HKB' := hide (HKB.out.trans hkn (fun _ _ h => h))
  have HBK' := hide hbn
  clear HKB HBK hbn hkn
  have HKB := HKB'
  have HBK := HBK'
  clear HKB' HBK'
  go_wp2_with fail
  refine (grow54_any HBK.out).mono ?_
  rintro e wn ⟨rfl, hbn, hkn⟩
  have HKB' := hide (HKB.out.trans hkn (fun _ _ h => h))
  have HBK' := hide hbn
  clear HKB HBK hbn hkn
  have HKB := HKB'
  have HBK := HBK'
  clear HKB' HBK'
  have c54 : wn.cell? ⟨B, 54, none⟩ = some (.int .i64 (t : Nat)) := HBK.out.cell 54 _ rfl
  have c55 : wn.cell? ⟨B, 55, none⟩ = some (.int .i64 (d : Nat)) := HBK.out.cell 55 _ rfl
  have f55 := blk_frozen 55 HBK.out
  go_wp2
  go_end0
  have hb : BkBlk (wn.setCell ⟨B, 55, none⟩ (.int .i64 (t : Nat))) B vb1 vo1 a1 t t u := HBK.out.set 55 _ rfl
  have hk : Kp (fun k => k = B) w1 (wn.setCell ⟨B, 55, none⟩ (.int .i64 (t : Nat))) := HKB.out.setCell _ _ (fun _ => rfl)
  exact ⟨rfl, vb1, vo1, es1, a1, HOK.out.reblk hb hk, HK1.out.trans hk (fun q _ hq => .inl hq), HF1.out⟩

/-- A book at block B, all of whose memory lies within F; t lists have been handed to it. -/
def BookAt (w : World) (base B : Nat) (F : Nat → Prop) (t : Nat) : Prop := ∃ vb vo es a d u, BookOk w base B vb vo es a t d u ∧ ∀ k, Foot B vb vo es k → F k

theorem foot_lt {w : World} {base B : Nat} {vb vo : Value} {es : List Ent} {a t d u : Nat} (h : BookOk w base B vb vo es a t d u) : ∀ k, Foot B vb vo es k → base ≤ k ∧ k < w.heap.size := by
  intro k hk
  rcases hk with rfl | hk | hk | ⟨e, he, hk⟩
  · exact ⟨h.hbase, blk_lt h.blk⟩
  · exact own_back h.hb k hk
  · exact own_back h.ho k hk
  · exact own_back (h.he e he) k hk

theorem BookAt.kp {S : Nat → Prop} {w w' : World} {base B : Nat} {F : Nat → Prop} {t : Nat} (h : BookAt w base B F t) (hk : Kp S w w') (hs : ∀ k, F k → ¬ S k) : BookAt w' base B F t := by
  obtain ⟨vb, vo, es, a, d, u, hok, hf⟩ := h
  exact ⟨vb, vo, es, a, d, u, hok.kp hk (hs B (hf B (.inl rfl))) (fun k hk => hs k (hf k (.inr (.inl hk)))) (fun k hk => hs k (hf k (.inr (.inr (.inl hk))))) (fun e he k hk => hs k (hf k (.inr (.inr (.inr ⟨e, he, hk⟩))))), hf⟩
theorem BookAt.mono {w : World} {base B : Nat} {F G : Nat → Prop} {t : Nat} (h : BookAt w base B F t) (hg : ∀ k, k < w.heap.size → F k → G k) : BookAt w base B G t := by
  obtain ⟨vb, vo, es, a, d, u, hok, hf⟩ := h
  exact ⟨vb, vo, es, a, d, u, hok, fun k hk => hg k (foot_lt hok k hk).2 (hf k hk)⟩

set_option maxRecDepth 1000000 in
set_option maxHeartbeats 400000 in
theorem look_any {w : World} {base B : Nat} {F : Nat → Prop} {t : Nat} (h : BookAt w base B F t) (hbase : base ≤ w.heap.size) :
    Calls Tryz.prog 17 #[.pointer (some ⟨B, 0, none⟩)] w fun e w' => e = .returned (.bool true) ∧ Hid (BookAt w' base B (fun k => F k ∨ w.heap.size ≤ k) t ∧ Kp F w w') := by
  obtain ⟨vb, vo, es, a, d, u, hok, hf⟩ := h
  have HOK := hide hok
  have HF := hide hf
  have HBS := hide hbase
  clear hok hf hbase
  go_enter Tryz.func17, Tryz.ntmps17
  go_wp2_with fail
  refine (holds_any HOK.out).mono ?_
  rintro e w1 ⟨rfl, hk1⟩
  have HOK1 := hide (HOK.out.still hk1)
  have HK1 := hide hk1
  have c54 : w1.cell? ⟨B, 54, none⟩ = some (.int .i64 (t : Nat)) := HOK1.out.blk.cell 54 _ rfl
  have c55 : w1.cell? ⟨B, 55, none⟩ = some (.int .i64 (d : Nat)) := HOK1.out.blk.cell 55 _ rfl
  clear hk1
  by_cases hdt : d = t
  · have hdt' : ((d : Int) == (t : Int)) = true := beq_iff_eq.2 (by omega)
    have HDT := hide hdt
    clear hdt
    go_wp2
    go_quiet (fail)
    go_wp2
    go_ret
    exact ⟨rfl, ⟨vb, vo, es, a, d, u, HOK1.out.still ((Kp.refl _ _).drewN _), fun k hk => .inl (HF.out k hk)⟩, (HK1.out.mono (fun _ _ h => h.elim)).drewN _⟩
  · have hdt' : ((d : Int) == (t : Int)) = false := beq_eq_false_iff_ne.2 (by omega)
    clear hdt
    go_wp2
    go_quiet (fail)
    go_wp2_with fail
    refine (bgrow_any (HOK1.out.still ((Kp.refl _ _).drewN _)) (Nat.le_trans HBS.out HK1.out.size)).mono ?_
    rintro e w2 ⟨rfl, vb2, vo2, es2, a2, hok2, hk2, hf2⟩
    have HOK2 := hide hok2
    have HK2 := hide hk2
    have HF2 := hide hf2
    clear hok2 hk2 hf2
    go_wp2_with fail
    refine (holds_any HOK2.out).mono ?_
    rintro e w3 ⟨rfl, hk3⟩
    have HOK3 := hide (HOK2.out.still hk3)
    have HK3 := hide hk3
    clear hk3
    go_wp2
    go_ret
    refine ⟨rfl, ⟨vb2, vo2, es2, a2, t, u, HOK3.out, fun k hk => ?_⟩, ?_⟩
    · rcases HF2.out k hk with h | h
      · exact .inl (HF.out k h)
      · exact .inr (Nat.le_trans HK1.out.size h)
    · exact ((HK1.out.mono (fun _ _ h => h.elim)).drewN _).trans ((HK2.out.trans HK3.out (fun _ _ h => h.elim)).mono (fun k _ hk => HF.out k hk)) (fun _ _ h => h)
end
section
open Go.RowKit
/-- An answer that waits, and what it must hold. -/
structure Wait where
  got : Value
  want : Value
  xs : List Nat

structure LateOk (w : World) (base L : Nat) (vg vw : Value) (ps : List Wait) : Prop where
  blk : w.heap[L]? = some (.cells #[vg, vw] 51 (0, 0))
  hg : w.ownsRow base 23 1 vg ps.length (ps.map (·.got))
  hw : w.ownsRow base 23 1 vw ps.length (ps.map (·.want))
  apart : ∀ k, vg.ownBlock = some k → vw.ownBlock ≠ some k
  got : ∀ p ∈ ps, w.ownsRow base 5 1 p.got p.xs.length (bv p.xs)
  want : ∀ p ∈ ps, BSl w p.want p.xs
  wblk : ∀ p ∈ ps, ∀ k, p.want.ownBlock = some k → base ≤ k ∧ ∃ cur fr, w.heap[k]? = some (.cells cur 5 fr)
  byte : ∀ p ∈ ps, (∀ x ∈ p.xs, x < 256) ∧ p.xs.length < 68719476736
  two : ∀ (i j : Nat) (pi pj : Wait), ps[i]? = some pi → ps[j]? = some pj → i ≠ j → ∀ k, pi.got.ownBlock = some k → pj.got.ownBlock ≠ some k
  hbase : base ≤ L

def LFoot (L : Nat) (vg vw : Value) (ps : List Wait) (k : Nat) : Prop := k = L ∨ vg.ownBlock = some k ∨ vw.ownBlock = some k ∨ (∃ p ∈ ps, p.got.ownBlock = some k) ∨ ∃ p ∈ ps, p.want.ownBlock = some k

theorem lfoot_lt {w : World} {base L : Nat} {vg vw : Value} {ps : List Wait} (h : LateOk w base L vg vw ps) : ∀ k, LFoot L vg vw ps k → base ≤ k ∧ k < w.heap.size := by
  intro k hk
  rcases hk with rfl | hk | hk | ⟨p, hp, hk⟩ | ⟨p, hp, hk⟩
  · exact ⟨h.hbase, blk_lt h.blk⟩
  · exact own_back h.hg k hk
  · exact own_back h.hw k hk
  · exact own_back (h.got p hp) k hk
  · obtain ⟨h1, cur, fr, h2⟩ := h.wblk p hp k hk
    exact ⟨h1, blk_lt h2⟩

theorem LateOk.kp {S : Nat → Prop} {w w' : World} {base L : Nat} {vg vw : Value} {ps : List Wait} (h : LateOk w base L vg vw ps) (hk : Kp S w w') (hs : ∀ k, LFoot L vg vw ps k → ¬ S k) : LateOk w' base L vg vw ps :=
  ⟨(hk.block L (blk_lt h.blk) (hs L (.inl rfl))).trans h.blk, hk.owns h.hg (fun k hq => hs k (.inr (.inl hq))), hk.owns h.hw (fun k hq => hs k (.inr (.inr (.inl hq)))), h.apart,
    fun p hp => hk.owns (h.got p hp) (fun k hq => hs k (.inr (.inr (.inr (.inl ⟨p, hp, hq⟩))))), fun p hp => hk.bsl (h.want p hp) (fun k hq => hs k (.inr (.inr (.inr (.inr ⟨p, hp, hq⟩))))),
    fun p hp k hq => by
      obtain ⟨h1, cur, fr, h2⟩ := h.wblk p hp k hq
      exact ⟨h1, cur, fr, (hk.block k (blk_lt h2) (hs k (.inr (.inr (.inr (.inr ⟨p, hp, hq⟩)))))).trans h2⟩,
    h.byte, h.two, h.hbase⟩

def LateAt (w : World) (base L : Nat) (G : Nat → Prop) (c : Nat) : Prop := ∃ vg vw ps, LateOk w base L vg vw ps ∧ (∀ k, LFoot L vg vw ps k → G k) ∧ ps.length ≤ c

theorem LateAt.kp {S : Nat → Prop} {w w' : World} {base L : Nat} {G : Nat → Prop} {c : Nat} (h : LateAt w base L G c) (hk : Kp S w w') (hs : ∀ k, G k → ¬ S k) : LateAt w' base L G c := by
  obtain ⟨vg, vw, ps, hok, hf, hc⟩ := h
  exact ⟨vg, vw, ps, hok.kp hk (fun k hq => hs k (hf k hq)), hf, hc⟩

/-- Book and Late side by side; none of their blocks is in X. -/
def Hs (w : World) (base : Nat) (X : Nat → Prop) (B L t c : Nat) : Prop := ∃ F G, BookAt w base B F t ∧ LateAt w base L G c ∧ (∀ k, G k → ¬ F k) ∧ ∀ k, F k ∨ G k → base ≤ k ∧ k < w.heap.size ∧ ¬ X k

theorem Hs.kp {S : Nat → Prop} {w w' : World} {base : Nat} {X : Nat → Prop} {B L t c : Nat} (h : Hs w base X B L t c) (hk : Kp S w w') (hs : ∀ k, base ≤ k → k < w.heap.size → ¬ X k → ¬ S k) : Hs w' base X B L t c := by
  obtain ⟨F, G, hb, hl, hd, hx⟩ := h
  refine ⟨F, G, hb.kp hk (fun k hf => ?_), hl.kp hk (fun k hg => ?_), hd, fun k hk' => ⟨(hx k hk').1, Nat.lt_of_lt_of_le (hx k hk').2.1 hk.size, (hx k hk').2.2⟩⟩
  · have := hx k (.inl hf); exact hs k this.1 this.2.1 this.2.2
  · have := hx k (.inr hg); exact hs k this.1 this.2.1 this.2.2
theorem Hs.mono {w : World} {base : Nat} {X Y : Nat → Prop} {B L t c : Nat} (h : Hs w base X B L t c) (hy : ∀ k, base ≤ k → k < w.heap.size → Y k → X k) : Hs w base Y B L t c := by
  obtain ⟨F, G, hb, hl, hd, hx⟩ := h
  exact ⟨F, G, hb, hl, hd, fun k hk => ⟨(hx k hk).1, (hx k hk).2.1, fun h => (hx k hk).2.2 (hy k (hx k hk).1 (hx k hk).2.1 h)⟩⟩

set_option maxRecDepth 1000000 in
set_option maxHeartbeats 400000 in
theorem same_any {w : World} {base L : Nat} {vg vw : Value} {ps : List Wait} (h : LateOk w base L vg vw ps) :
    Calls Tryz.prog 40 #[.pointer (some ⟨L, 0, none⟩)] w fun e w' => e = .returned (.bool true) ∧ Kp (fun _ => False) w w' := by
  obtain ⟨ag, cg, hvg, hq1, hq2, hcg⟩ := own_form h.hg
  obtain ⟨aw, cw, hvw, hq3, hq4, hcw⟩ := own_form h.hw
  have HCG := hide hcg
  have HCW := hide hcw
  have HH := hide h
  subst hvg
  subst hvw
  clear hcg hcw h hq3 hq4
  go_enter Tryz.func40, Tryz.ntmps40
  go_wp2
  go_loopw [3] (fun i wr => ∃ k : Nat, k ≤ ps.length ∧ i = .int .i64 k ∧ Kp (fun _ => False) w wr) (fun i _ => ps.length - (intOf i).toNat)
  case atStart => exact ⟨0, Nat.zero_le _, rfl, Kp.refl _ _⟩
  case round =>
    obtain ⟨k, hk, rfl, hkp⟩ := hrel
    have HK := hide hkp
    clear hkp
    have HL := hide (HH.out.kp HK.out (fun _ _ h => h))
    have c0 : wr.cell? ⟨L, 0, none⟩ = some (.slice ag ps.length cg) := blk_cell HL.out.blk rfl
    have c1 : wr.cell? ⟨L, 1, none⟩ = some (.slice aw ps.length cw) := blk_cell HL.out.blk rfl
    by_cases hlt : k < ps.length
    · have hlt' : (k : Int) < (ps.length : Int) := by omega
      obtain ⟨p, hp⟩ : ∃ p, ps[k]? = some p := ⟨ps[k], by simp [hlt]⟩
      have hmem := List.mem_of_getElem? hp
      obtain ⟨gb, hab, hcb1⟩ := HCG.out k p.got (by simp [hp])
      obtain ⟨gw, haw, hcw1⟩ := HCW.out k p.want (by simp [hp])
      subst hab
      subst haw
      have cg1 := HK.out.cell hcb1 (by simp)
      have cw1 := HK.out.cell hcw1 (by simp)
      have hb1 := BSl.own (HL.out.got p hmem) (HL.out.byte p hmem).1
      have hb2 := HL.out.want p hmem
      have hcv1 : ∀ nq, Sem.run Tryz.prog (convert 23 9 p.got) (wr.drewN nq) = .ok (.string (nstr p.xs)) (wr.drewN nq) := fun nq => (hb1.move (w' := wr.drewN nq) (fun _ _ h => h)).text
      have hcv2 : ∀ nq, Sem.run Tryz.prog (convert 23 9 p.want) (wr.drewN nq) = .ok (.string (nstr p.xs)) (wr.drewN nq) := fun nq => (hb2.move (w' := wr.drewN nq) (fun _ _ h => h)).text
      generalize nstr p.xs = S at *
      generalize p.got = pg at *
      generalize p.want = pw at *
      clear hb1 hb2 hmem hp hcb1 hcw1
      go_wp2
      go_quiet (fail)
      go_wp2
      go_roundw
      case rel => exact ⟨k + 1, by omega, by go_num, HK.out.drewN _⟩
      case measure => simp [intOf]; omega
    · have hlt' : ¬ (k : Int) < (ps.length : Int) := by omega
      go_wp2
      go_ret
      exact ⟨rfl, HK.out⟩
end
section
open Go.RowKit
theorem bytes_at {w : World} {base B : Nat} {F : Nat → Prop} {t : Nat} (h : BookAt w base B F t) (l : Value) (n : Nat) (xs : List Value) (hl : w.ownsRow base 5 1 l n xs) (hn : n < 68719476736)
    (hd : ∀ k, l.ownBlock = some k → ¬ F k) (ht : t + 1 < 68719476736) (hbase : base ≤ w.heap.size) :
    Calls Tryz.prog 41 #[.pointer (some ⟨B, 0, none⟩), l] w fun e w' => e = .returned (.tuple #[]) ∧ BookAt w' base B (fun k => F k ∨ l.ownBlock = some k ∨ w.heap.size ≤ k) (t + 1) ∧ Kp (fun k => F k ∨ l.ownBlock = some k) w w' := by
  obtain ⟨vb, vo, es, a, d, u, hok, hf⟩ := h
  refine (bytes_any hok l n xs hl hn (fun e he k hk hlk => hd k hlk (hf k (.inr (.inr (.inr ⟨e, he, hk⟩))))) ht hbase).mono ?_
  rintro e w' ⟨rfl, vb', vo', es', u', hok', hk', hf'⟩
  refine ⟨rfl, ⟨vb', vo', es', a, d, u', hok', fun k hk => ?_⟩, hk'.mono (fun k _ hk => ?_)⟩
  · rcases hf' k hk with h | h | h
    · exact .inl (hf k h)
    · exact .inr (.inl h)
    · exact .inr (.inr h.1)
  · rcases hk with h | h | h | h
    · exact .inl (hf k (.inl h))
    · exact .inl (hf k (.inr (.inl h)))
    · exact .inl (hf k (.inr (.inr (.inl h))))
    · exact .inr h

/-- The blocks of the first k answers. -/
def Firsts (ps : List Wait) (k q : Nat) : Prop := ∃ (j : Nat) (p : Wait), j < k ∧ ps[j]? = some p ∧ p.got.ownBlock = some q

set_option maxRecDepth 1000000 in
set_option maxHeartbeats 400000 in
theorem settle_any {w : World} {base : Nat} {X : Nat → Prop} {B L t c : Nat} (h : Hs w base X B L t c) (hbase : base ≤ w.heap.size) (n : Int) (hb : t + c + 1 < 68719476736) :
    Calls Tryz.prog 15 #[.pointer (some ⟨L, 0, none⟩), .pointer (some ⟨B, 0, none⟩), .int .i64 n] w fun e w' => e = .returned (.bool true) ∧
      Hid (∃ t' c', t' + c' ≤ t + c ∧ Hs w' base (fun k => X k ∧ k < w.heap.size) B L t' c' ∧ Kp (fun k => base ≤ k ∧ ¬ X k) w w') := by
  have HH := hide h
  obtain ⟨F, G, hbook, ⟨vg, vw, ps, hok, hlf, hpc⟩, hd, hx⟩ := h
  obtain ⟨ag, cg, hvg, hq1, hq2, hcg⟩ := own_form hok.hg
  have HBK := hide hbook
  have HLT := hide hok
  have HLF := hide hlf
  have HD := hide hd
  have HX := hide hx
  have HCG := hide hcg
  have HBS := hide hbase
  have HTC := hide hb
  have HPC := hide hpc
  have c0 : w.cell? ⟨L, 0, none⟩ = some (.slice ag ps.length cg) := by rw [← hvg]; exact blk_cell hok.blk rfl
  clear hbook hok hlf hd hx hcg hbase hb hq1 hpc
  by_cases hfew : (ps.length : Int) < n
  · go_enter Tryz.func15, Tryz.ntmps15
    go_wp2
    go_ret
    exact ⟨rfl, t, c, Nat.le_refl _, HH.out.mono (fun k _ _ hk => hk.1), Kp.refl _ _⟩
  · have hfew' : n ≤ (ps.length : Int) := by omega
    clear hfew HH
    go_enter Tryz.func15, Tryz.ntmps15
    go_wp2_with fail
    refine (same_any HLT.out).mono ?_
    rintro e w1 ⟨rfl, hk1⟩
    have HK1 := hide hk1
    have HLT1 := hide (HLT.out.kp hk1 (fun _ _ h => h))
    have HBK1 := hide (HBK.out.kp hk1 (fun _ _ h => h))
    clear hk1 c0
    go_wp2
    go_loopw [7] (fun i wr => ∃ k : Nat, k ≤ ps.length ∧ i = .int .i64 k ∧ BookAt wr base B (fun q => F q ∨ Firsts ps k q ∨ w.heap.size ≤ q) (t + k) ∧ Kp (fun q => F q ∨ Firsts ps k q) w wr) (fun i _ => ps.length - (intOf i).toNat)
    case atStart => exact ⟨0, Nat.zero_le _, rfl, HBK1.out.mono (fun k _ hk => .inl hk), HK1.out.mono (fun _ _ h => h.elim)⟩
    case round =>
      obtain ⟨k, hk, rfl, hbk, hkp⟩ := hrel
      have HBR := hide hbk
      have HKR := hide hkp
      clear hbk hkp HLT1 HBK1 HK1
      have HSZ : Hid (base ≤ wr.heap.size ∧ w.heap.size ≤ wr.heap.size) := ⟨Nat.le_trans HBS.out HKR.out.size, HKR.out.size⟩
      -- what Late holds is not touched but for the answers' own blocks
      have HNF : Hid (∀ q, LFoot L vg vw ps q → ¬ F q) := fun q hq => HD.out q (HLF.out q hq)
      have HNB : Hid (∀ {ee : TypeId} {cur : Array Value} {fr : Nat × Nat} {q : Nat}, w.heap[q]? = some (.cells cur ee fr) → ee ≠ 5 → ¬ Firsts ps k q) := fun hq hne hfi => by
        obtain ⟨j, p, _, hp, hpq⟩ := hfi
        obtain ⟨cur', hc'⟩ := own_block_type (HLT.out.got p (List.mem_of_getElem? hp)) hpq
        rw [hc'] at hq
        injection hq with hq
        injection hq with _ h2
        exact hne h2.symm
      have HLB : Hid (wr.heap[L]? = some (.cells #[vg, vw] 51 (0, 0))) := (HKR.out.block L (blk_lt HLT.out.blk) (fun hor => by
        rcases hor with h | h
        · exact HNF.out L (.inl rfl) h
        · exact HNB.out HLT.out.blk (by decide) h)).trans HLT.out.blk
      have HVG : Hid (wr.ownsRow base 23 1 vg ps.length (ps.map (·.got))) := HKR.out.owns HLT.out.hg (fun q hq hor => by
        rcases hor with h | h
        · exact HNF.out q (.inr (.inl hq)) h
        · obtain ⟨cur, hcur⟩ := own_block_type HLT.out.hg hq
          exact HNB.out hcur (by decide) h)
      have c0 : wr.cell? ⟨L, 0, none⟩ = some (.slice ag ps.length cg) := by rw [← hvg]; exact blk_cell HLB.out rfl
      by_cases hlt : k < ps.length
      · have hlt' : (k : Int) < (ps.length : Int) := by omega
        obtain ⟨p, hp⟩ : ∃ p, ps[k]? = some p := ⟨ps[k], by simp [hlt]⟩
        have hmem := List.mem_of_getElem? hp
        have hgot := HLT.out.got p hmem
        have hnot : ∀ q, p.got.ownBlock = some q → ¬ (F q ∨ Firsts ps k q) := fun q hq hor => by
          rcases hor with h | ⟨j, pj, hj, hpj, hqj⟩
          · exact HNF.out q (.inr (.inr (.inr (.inl ⟨p, hmem, hq⟩)))) h
          · exact HLT.out.two j k pj p hpj hp (by omega) q hqj hq
        have hgotr := HKR.out.owns hgot hnot
        obtain ⟨gb, hab, hcb1⟩ := HCG.out k p.got (by simp [hp])
        have hgb : (Value.slice ag ps.length cg).ownBlock = some gb := by rw [hab]; rfl
        have cg1 : wr.cell? ⟨gb, k, none⟩ = some p.got := HKR.out.cell hcb1 (fun hor => by
          rcases hor with h | h
          · exact HNF.out gb (.inr (.inl (by rw [hvg]; exact hgb))) h
          · obtain ⟨cur, hcur⟩ := own_block_type HLT.out.hg (k := gb) (by rw [hvg]; exact hgb)
            exact HNB.out hcur (by decide) h)
        have HGR := hide hgotr
        have HNT : Hid (∀ q, p.got.ownBlock = some q → ¬ (F q ∨ Firsts ps k q ∨ w.heap.size ≤ q)) := fun q hq hor => by
          rcases hor with h | h | h
          · exact hnot q hq (.inl h)
          · exact hnot q hq (.inr h)
          · have := (own_back hgot q hq).2; omega
        have HP := hide hp
        have HBY : Hid (p.xs.length < 68719476736) := (HLT.out.byte p hmem).2
        rw [hab] at c0
        clear hgotr hnot hgot hmem hp hcb1 hgb hab
        go_wp2_with fail
        refine (bytes_at HBR.out p.got _ _ HGR.out HBY.out HNT.out (by have := HTC.out; have := HPC.out; omega) HSZ.out.1).mono ?_
        rintro e w2 ⟨rfl, hbk2, hkp2⟩
        have HB2 := hide hbk2
        have HK2 := hide hkp2
        clear hbk2 hkp2 c0 cg1
        go_wp2
        go_roundw
        case rel =>
          have hstep : ∀ q, Firsts ps k q ∨ p.got.ownBlock = some q → Firsts ps (k + 1) q := fun q hor => by
            rcases hor with ⟨j, pj, hj, hpj, hqj⟩ | h
            · exact ⟨j, pj, by omega, hpj, hqj⟩
            · exact ⟨k, p, by omega, HP.out, h⟩
          refine ⟨k + 1, by omega, by go_num, HB2.out.mono (fun q _ hor => ?_), HKR.out.mono (fun q _ hor => ?_) |>.trans HK2.out (fun q hq hor => ?_)⟩
          · rcases hor with (h | h | h) | h | h
            · exact .inl h
            · exact .inr (.inl (hstep q (.inl h)))
            · exact .inr (.inr h)
            · exact .inr (.inl (hstep q (.inr h)))
            · exact .inr (.inr (by have := HSZ.out.2; omega))
          · rcases hor with h | h
            · exact .inl h
            · exact .inr (hstep q (.inl h))
          · rcases hor with (h | h | h) | h
            · exact .inl h
            · exact .inr (hstep q (.inl h))
            · omega
            · exact .inr (hstep q (.inr h))
        case measure => simp [intOf]; omega
      · have hlt' : ¬ (k : Int) < (ps.length : Int) := by omega
        have hke : k = ps.length := by omega
        have c1 : wr.cell? ⟨L, 1, none⟩ = some vw := blk_cell HLB.out rfl
        have f0 := blk_frozen 0 HLB.out
        have f1 := blk_frozen 1 HLB.out
        have HKL : Hid (Kp (fun q => q = L) wr ((wr.setCell ⟨L, 0, none⟩ (.slice none 0 0)).setCell ⟨L, 1, none⟩ (.slice none 0 0))) := ((Kp.refl (fun q => q = L) wr).setCell ⟨L, 0, none⟩ (.slice none 0 0) (fun _ => rfl)).setCell ⟨L, 1, none⟩ (.slice none 0 0) (fun _ => rfl)
        have HL2 : Hid (((wr.setCell ⟨L, 0, none⟩ (.slice none 0 0)).setCell ⟨L, 1, none⟩ (.slice none 0 0)).heap[L]? = some (.cells #[.slice none 0 0, .slice none 0 0] 51 (0, 0))) := by
          have h1 := blk_set 0 (.slice none 0 0) HLB.out
          have h2 := blk_set 1 (.slice none 0 0) h1
          exact h2
        have HNL : Hid (∀ q, F q ∨ Firsts ps k q ∨ w.heap.size ≤ q → q ≠ L) := fun q hor e => by
          subst e
          rcases hor with h | h | h
          · exact HNF.out q (.inl rfl) h
          · exact HNB.out HLT.out.blk (by decide) h
          · have := blk_lt HLT.out.blk; omega
        have HB3 := hide (HBR.out.kp HKL.out HNL.out)
        have HKE := hide hke
        clear hke
        go_wp2_with fail
        refine (look_any HB3.out (Nat.le_trans HSZ.out.1 HKL.out.size)).mono ?_
        rintro e w4 ⟨rfl, hb4⟩
        have HB4 := hide hb4.out.1
        have HK4 := hide hb4.out.2
        clear hb4 c0 c1 f0 f1
        go_wp2
        go_ret
        refine ⟨rfl, t + k, 0, by have := HPC.out; omega, ?_, ?_⟩
        · have hF : ∀ q, F q ∨ Firsts ps k q → base ≤ q ∧ ¬ X q := fun q hor => by
            rcases hor with h | ⟨j, p, _, hp, hq⟩
            · have := HX.out q (.inl h); exact ⟨this.1, this.2.2⟩
            · have := HX.out q (.inr (HLF.out q (.inr (.inr (.inr (.inl ⟨p, List.mem_of_getElem? hp, hq⟩)))))); exact ⟨this.1, this.2.2⟩
          have hLX : base ≤ L ∧ ¬ X L := by have := HX.out L (.inr (HLF.out L (.inl rfl))); exact ⟨this.1, this.2.2⟩
          refine ⟨fun q => (F q ∨ Firsts ps k q ∨ w.heap.size ≤ q) ∧ q < w4.heap.size, fun q => q = L, HB4.out.mono (fun q hq hor => ⟨?_, hq⟩), ?_, fun q hq hf => HNL.out q hf.1 hq, fun q hor => ?_⟩
          · rcases hor with h | h
            · exact h
            · exact .inr (.inr (Nat.le_trans (Nat.le_trans HSZ.out.2 HKL.out.size) h))
          · refine ⟨.slice none 0 0, .slice none 0 0, [], ⟨(HK4.out.block L (blk_lt HL2.out) (fun h => HNL.out L h rfl)).trans HL2.out, World.ownsRow_nil _ _ _ _, World.ownsRow_nil _ _ _ _, (fun q hq => by cases hq), by simp, by simp, by simp, by simp, by simp, HLT.out.hbase⟩, fun q hq => ?_, Nat.le_refl _⟩
            rcases hq with h | h | h | ⟨p, hp, _⟩ | ⟨p, hp, _⟩
            · exact h
            · cases h
            · cases h
            · cases hp
            · cases hp
          · rcases hor with ⟨h, hlt4⟩ | h
            · refine ⟨?_, hlt4, fun hxx => ?_⟩
              · rcases h with h | h | h
                · exact (hF q (.inl h)).1
                · exact (hF q (.inr h)).1
                · exact Nat.le_trans HBS.out h
              · rcases h with h | h | h
                · exact (hF q (.inl h)).2 hxx.1
                · exact (hF q (.inr h)).2 hxx.1
                · omega
            · subst h
              refine ⟨hLX.1, ?_, fun hxx => hLX.2 hxx.1⟩
              exact Nat.lt_of_lt_of_le (blk_lt HL2.out) HK4.out.size
        · have hS : ∀ q, F q ∨ Firsts ps k q → base ≤ q ∧ ¬ X q := fun q hor => by
            rcases hor with h | ⟨j, p, _, hp, hq⟩
            · have := HX.out q (.inl h); exact ⟨this.1, this.2.2⟩
            · have := HX.out q (.inr (HLF.out q (.inr (.inr (.inr (.inl ⟨p, List.mem_of_getElem? hp, hq⟩)))))); exact ⟨this.1, this.2.2⟩
          have hLX : base ≤ L ∧ ¬ X L := by have := HX.out L (.inr (HLF.out L (.inl rfl))); exact ⟨this.1, this.2.2⟩
          refine ((HKR.out.mono (fun q _ hor => hS q hor)).trans HKL.out (fun q _ e => by subst e; exact hLX)).trans HK4.out (fun q hq hor => ?_)
          rcases hor with h | h | h
          · exact hS q (.inl h)
          · exact hS q (.inr h)
          · omega
end
section
open Go.RowKit
theorem nstr_sizeL (xs : List Nat) : (nstr xs).size = xs.length := by unfold nstr; rw [strOfNums_size]; simp
theorem nstr_get (xs : List Nat) (hx : ∀ x ∈ xs, x < 256) : (nstr xs).data.toList.map (fun b => Value.int .u8 (b.toNat : Int)) = bv xs := by
  simp only [nstr, strOfNums_data, List.map_map, bv]
  apply List.map_congr_left
  intro x h
  have := hx x h
  simp
  omega

theorem bytesRow_get (xs : List Nat) (hx : ∀ x ∈ xs, x < 256) (cap j : Nat) (hj : j < xs.length) : (bytesRow (nstr xs) cap)[j]? = some (.int .u8 ((xs.getD j 0 : Nat) : Int)) := by
  have hl : ((nstr xs).data.map fun b => Value.int .u8 (b.toNat : Int)).toList = bv xs := by rw [Array.toList_map]; exact nstr_get xs hx
  have hs : ((nstr xs).data.map fun b => Value.int .u8 (b.toNat : Int)).size = xs.length := by rw [← Array.length_toList, hl, bv_len]
  unfold bytesRow
  rw [Array.getElem?_append_left (by rw [hs]; exact hj), ← Array.getElem?_toList, hl]
  exact bv_get hj

/-- '[]byte(s)'. -/
theorem conv_bytes (w : World) (xs : List Nat) (hx : ∀ x ∈ xs, x < 256) (hl : xs.length < 68719476736) : ∃ cap w2, (convert 9 23 (.string (nstr xs))).run Tryz.prog w = .ok (.slice (some ⟨w.heap.size, 0, none⟩) xs.length cap) w2 ∧
    BSl w2 (.slice (some ⟨w.heap.size, 0, none⟩) xs.length cap) xs ∧ Kp (fun _ => False) w w2 ∧ w2.heap.size = w.heap.size + 1 ∧ ∃ cur fr, w2.heap[w.heap.size]? = some (.cells cur 5 fr) := by
  have hr := run_bytes_of_string (P := Tryz.prog) w 9 23 5 (nstr xs) Tryz.underlying9 Tryz.underlying23 Tryz.underlying5
  rw [nstr_sizeL] at hr
  have hge := grownCap_ge w xs.length 0 5
  refine ⟨_, _, hr, ?_, ⟨rfl, rfl, rfl, by simp, fun k hk _ => Below.heap_alloc w.drew _ k hk⟩, by simp, _, _, heap_alloc_new w.drew _⟩
  refine ⟨⟨_, _, rfl, ⟨hge, fun h => by cases h⟩, .inr ⟨_, 0, rfl, fun j hj => ?_⟩⟩, by omega, hx⟩
  have hn := heap_alloc_new w.drew (.cells (bytesRow (nstr xs) (grownCap w xs.length 0 5)) 5 ((bytesRow (nstr xs) (grownCap w xs.length 0 5)).size, (bytesRow (nstr xs) (grownCap w xs.length 0 5)).size + 1))
  have hn' : (w.drew.alloc (.cells (bytesRow (nstr xs) (grownCap w xs.length 0 5)) 5 ((bytesRow (nstr xs) (grownCap w xs.length 0 5)).size, (bytesRow (nstr xs) (grownCap w xs.length 0 5)).size + 1))).heap[w.heap.size]? = _ := hn
  simp only [World.cell?, hn', Nat.zero_add]
  exact bytesRow_get xs hx _ j hj

/-- 'append(rows, x)', one row, as one step of a region that draws its order. -/
theorem step_append_row {ops : Array Oper} {o : Oper} {a : Act} {w : World} {K : Act → World → Prop} {Q : Exit → Act → World → Prop} {E : Prop} (hgd : o.guard = none) (s x : Operand)
    (ho : o.op = .call { callee := .builtin .append, args := #[s, x], argTypes := #[28, 28] }) (B : Nat) (v : Value) (n : Nat) (ds : List Value) (hs : a.eval s = v) (hown : w.ownsRow B 23 1 v n ds)
    (y : Value) (S : Nat) (hS : w.heap.size = S) (hx : a.eval x = .slice (some ⟨S, 0, none⟩) 1 1) (hone : y.oneCell' = true) (hlen : n < 1099511627776) (hbase : B ≤ w.heap.size)
    (hK : ∀ v' w', w'.ownsRow B 23 1 v' (n + 1) (ds ++ [y]) → (w.alloc (.cells #[y] 23)).grownBy w' v.ownBlock → (v'.ownBlock = v.ownBlock ∨ v'.ownBlock = some (w.heap.size + 1)) → K (a.put o.dst v') w') :
    if Region.wanted o (yielded ops a.tmps) = true then Oper.wp Tryz.prog o a (w.alloc (.cells #[y] 23)) K Q else E := by
  have hw : Region.wanted o (yielded ops a.tmps) = true := by simp [Region.wanted, hgd]
  rw [if_pos hw]
  subst hS
  obtain ⟨i, hi, hz0, hz1, hz2⟩ := info50_ex
  obtain ⟨v', w', hrun, r1, r2, _, r4⟩ := run_append_own_at (P := Tryz.prog) (w.alloc (.cells #[y] 23)) B 28 o.type 23 i (.slice none 0 0) 1 24 Tryz.underlying28 hi hz0 hz1 hz2 rfl (by decide) v n ds (hown.alloc _) ⟨w.heap.size, 0, none⟩ 1 1 [y] rfl (cell_one_new _ _ _) (by intro u hu; simp at hu; subst hu; exact hone) (by unfold maxLen; omega) (by omega) (by simp; omega)
  unfold Oper.wp
  simp [execOp, ho, resolve, invoke, builtin, hs, hx, hrun, Result.andThen]
  exact hK v' w' r1 r2 (by simpa using r4)

/-- What Add leaves, out of its steps' worlds. -/
theorem add_fin {w w4 w5 w6 : World} {base : Nat} {X F G : Nat → Prop} {B L t c : Nat} {vg vw v3 v6 : Value} {ps : List Wait} {ag : Option Addr} {cg cap5 : Nat} {xs : List Nat}
    (hbk : BookAt w base B F t) (hlt : LateOk w base L vg vw ps) (hlf : ∀ k, LFoot L vg vw ps k → G k) (hd : ∀ k, G k → ¬ F k) (hx : ∀ k, F k ∨ G k → base ≤ k ∧ k < w.heap.size ∧ ¬ X k) (hbs : base ≤ w.heap.size)
    (hgo : w.ownsRow base 5 1 (Value.slice ag xs.length cg) xs.length (bv xs)) (hxs : ∀ x ∈ xs, x < 256) (hl : xs.length < 68719476736) (hgx : ∀ k, (Value.slice ag xs.length cg).ownBlock = some k → X k) (hpc : ps.length ≤ c)
    (hk4 : Kp (fun q => q = L ∨ vg.ownBlock = some q) w w4) (hb4 : w4.heap[L]? = some (.cells #[v3, vw] 51 (0, 0))) (hv4 : w4.ownsRow base 23 1 v3 (ps.length + 1) (ps.map (·.got) ++ [Value.slice ag xs.length cg]))
    (hvw4 : w4.ownsRow base 23 1 vw ps.length (ps.map (·.want))) (hgo4 : w4.ownsRow base 5 1 (Value.slice ag xs.length cg) xs.length (bv xs)) (hat3 : v3.ownBlock = vg.ownBlock ∨ v3.ownBlock = some (w.heap.size + 1))
    (hk5 : Kp (fun _ => False) w4 w5) (hbsl5 : BSl w5 (.slice (some ⟨w4.heap.size, 0, none⟩) xs.length cap5) xs) (hsz5 : w5.heap.size = w4.heap.size + 1) (hblk5 : ∃ cur fr, w5.heap[w4.heap.size]? = some (.cells cur 5 fr))
    (ho6 : w6.ownsRow base 23 1 v6 (ps.length + 1) (ps.map (·.want) ++ [.slice (some ⟨w4.heap.size, 0, none⟩) xs.length cap5])) (hg6 : (w5.alloc (.cells #[.slice (some ⟨w4.heap.size, 0, none⟩) xs.length cap5] 23)).grownBy w6 vw.ownBlock)
    (hat6 : v6.ownBlock = vw.ownBlock ∨ v6.ownBlock = some (w5.heap.size + 1)) (hb6 : w6.heap[L]? = some (.cells #[v3, vw] 51 (0, 0))) :
    Hs (w6.setCell ⟨L, 1, none⟩ v6) base (fun k => X k ∧ (Value.slice ag xs.length cg).ownBlock ≠ some k ∧ k < w.heap.size) B L t (c + 1) ∧ Kp (fun k => base ≤ k ∧ ¬ X k) w (w6.setCell ⟨L, 1, none⟩ v6) := by
  have hk56 : Kp (fun q => vw.ownBlock = some q) w5 w6 := ((Kp.refl _ w5).alloc _).grown hg6 (fun q _ hq => hq)
  have hk67 : Kp (fun q => q = L) w6 (w6.setCell ⟨L, 1, none⟩ v6) := (Kp.refl _ _).setCell _ _ (fun _ => rfl)
  have hk57 : Kp (fun q => q = L ∨ vw.ownBlock = some q) w5 (w6.setCell ⟨L, 1, none⟩ v6) := (hk56.mono (fun _ _ h => .inr h)).trans hk67 (fun _ _ h => .inl h)
  have hk47 : Kp (fun q => q = L ∨ vw.ownBlock = some q) w4 (w6.setCell ⟨L, 1, none⟩ v6) := (hk5.mono (fun _ _ h => h.elim)).trans hk57 (fun _ _ h => h)
  have hk07 : Kp (fun q => q = L ∨ vg.ownBlock = some q ∨ vw.ownBlock = some q) w (w6.setCell ⟨L, 1, none⟩ v6) :=
    (hk4.mono (fun q _ h => by rcases h with h | h; exact .inl h; exact .inr (.inl h))).trans hk47 (fun q _ h => by rcases h with h | h; exact .inl h; exact .inr (.inr h))
  have hSG : ∀ q, (q = L ∨ vg.ownBlock = some q ∨ vw.ownBlock = some q) → G q := fun q h => hlf q (by
    rcases h with h | h | h
    · exact .inl h
    · exact .inr (.inl h)
    · exact .inr (.inr (.inl h)))
  have hvwlt : ∀ q, vw.ownBlock = some q → q < w.heap.size := fun q hq => (own_back hlt.hw q hq).2
  have hvglt : ∀ q, vg.ownBlock = some q → q < w.heap.size := fun q hq => (own_back hlt.hg q hq).2
  have hLlt := blk_lt hlt.blk
  have hs4 := hk4.size
  have hs6 : w5.heap.size ≤ (w6.setCell ⟨L, 1, none⟩ v6).heap.size := hk57.size
  have hn5 : ∀ {ee : TypeId} {v : Value} {nn : Nat} {yy : List Value}, w4.ownsRow base ee 1 v nn yy → ee ≠ 51 → ee ≠ 23 → (w6.setCell ⟨L, 1, none⟩ v6).ownsRow base ee 1 v nn yy := fun ho h1 h2 =>
    hk47.owns ho (fun q hq hor => by
      rcases hor with h | h
      · subst h; exact own_not ho hb4 h1 hq
      · exact own_apart ho hvw4 h2 hq h)
  have hv3b : ∀ q, v3.ownBlock = some q → vg.ownBlock = some q ∨ q = w.heap.size + 1 := fun q hq => by
    rcases hat3 with h | h
    · exact .inl (by rw [← h]; exact hq)
    · rw [h] at hq; injection hq with hq; exact .inr hq.symm
  have hv6b : ∀ q, v6.ownBlock = some q → vw.ownBlock = some q ∨ q = w5.heap.size + 1 := fun q hq => by
    rcases hat6 with h | h
    · exact .inl (by rw [← h]; exact hq)
    · rw [h] at hq; injection hq with hq; exact .inr hq.symm
  have hV : ∀ q, q = w4.heap.size → ¬ (q = L ∨ vw.ownBlock = some q) := fun q hq hor => by
    rcases hor with h | h
    · omega
    · have := hvwlt q h; omega
  have hlate : LateOk (w6.setCell ⟨L, 1, none⟩ v6) base L v3 v6 (ps ++ [⟨Value.slice ag xs.length cg, .slice (some ⟨w4.heap.size, 0, none⟩) xs.length cap5, xs⟩]) := by
    refine ⟨blk_set 1 v6 hb6, ?_, ?_, ?_, ?_, ?_, ?_, ?_, ?_, hlt.hbase⟩
    · have := hk47.owns hv4 (fun q hq hor => by
        rcases hor with h | h
        · subst h; exact own_not hv4 hb4 (by decide) hq
        · rcases hv3b q hq with h3 | h3
          · exact hlt.apart q h3 h
          · have := hvwlt q h; omega)
      simpa using this
    · have := hk67.owns ho6 (fun q hq e => own_not ho6 hb6 (by decide) (by rw [hq, e]))
      simpa using this
    · intro q h3 h6
      rcases hv3b q h3 with h3 | h3 <;> rcases hv6b q h6 with h6 | h6
      · exact hlt.apart q h3 h6
      · have := hvglt q h3; omega
      · have := hvwlt q h6; omega
      · omega
    · intro p hp
      rcases List.mem_append.1 hp with hp | hp
      · exact hk07.owns (hlt.got p hp) (fun q hq hor => by
          rcases hor with h | h | h
          · subst h; exact own_not (hlt.got p hp) hlt.blk (by decide) hq
          · exact own_apart (hlt.got p hp) hlt.hg (by decide) hq h
          · exact own_apart (hlt.got p hp) hlt.hw (by decide) hq h)
      · rw [List.mem_singleton.1 hp]; exact hn5 hgo4 (by decide) (by decide)
    · intro p hp
      rcases List.mem_append.1 hp with hp | hp
      · exact hk07.bsl (hlt.want p hp) (fun q hq hor => by
          obtain ⟨_, cur, fr, hc⟩ := hlt.wblk p hp q hq
          rcases hor with h | h | h
          · subst h; rw [hlt.blk] at hc; injection hc with hc; injection hc with _ hc; exact absurd hc (by decide)
          · obtain ⟨cur', hc'⟩ := own_block_type hlt.hg h; rw [hc'] at hc; injection hc with hc; injection hc with _ hc; exact absurd hc (by decide)
          · obtain ⟨cur', hc'⟩ := own_block_type hlt.hw h; rw [hc'] at hc; injection hc with hc; injection hc with _ hc; exact absurd hc (by decide))
      · rw [List.mem_singleton.1 hp]
        exact hk57.bsl hbsl5 (fun q hq => hV q (by simp [Value.ownBlock] at hq; omega))
    · intro p hp q hq
      rcases List.mem_append.1 hp with hp | hp
      · obtain ⟨h1, cur, fr, hc⟩ := hlt.wblk p hp q hq
        refine ⟨h1, cur, fr, (hk07.block q (blk_lt hc) (fun hor => ?_)).trans hc⟩
        rcases hor with h | h | h
        · subst h; rw [hlt.blk] at hc; injection hc with hc; injection hc with _ hc; exact absurd hc (by decide)
        · obtain ⟨cur', hc'⟩ := own_block_type hlt.hg h; rw [hc'] at hc; injection hc with hc; injection hc with _ hc; exact absurd hc (by decide)
        · obtain ⟨cur', hc'⟩ := own_block_type hlt.hw h; rw [hc'] at hc; injection hc with hc; injection hc with _ hc; exact absurd hc (by decide)
      · rw [List.mem_singleton.1 hp] at hq
        simp [Value.ownBlock] at hq
        subst hq
        obtain ⟨cur, fr, hc⟩ := hblk5
        exact ⟨by omega, cur, fr, (hk57.block _ (blk_lt hc) (hV _ rfl)).trans hc⟩
    · intro p hp
      rcases List.mem_append.1 hp with hp | hp
      · exact hlt.byte p hp
      · rw [List.mem_singleton.1 hp]; exact ⟨hxs, hl⟩
    · have hnew : ∀ p ∈ ps, ∀ q, p.got.ownBlock = some q → (Value.slice ag xs.length cg).ownBlock ≠ some q := fun p hp q hq hq' =>
        (hx q (.inr (hlf q (.inr (.inr (.inr (.inl ⟨p, hp, hq⟩))))))).2.2 (hgx q hq')
      intro i j pi pj hi hj hij q hq
      rcases snoc_get hi with ⟨_, hi⟩ | ⟨hi0, hi⟩ <;> rcases snoc_get hj with ⟨_, hj⟩ | ⟨hj0, hj⟩
      · exact hlt.two i j pi pj hi hj hij q hq
      · subst hj; exact hnew pi (List.mem_of_getElem? hi) q hq
      · subst hi; exact fun hq' => hnew pj (List.mem_of_getElem? hj) q hq' hq
      · omega
  refine ⟨⟨F, fun q => G q ∨ (Value.slice ag xs.length cg).ownBlock = some q ∨ (w.heap.size ≤ q ∧ q < (w6.setCell ⟨L, 1, none⟩ v6).heap.size), hbk.kp hk07 (fun q hf hor => hd q (hSG q hor) hf), ⟨v3, v6, _, hlate, fun q hq => ?_, by simp; omega⟩, fun q hq hf => ?_, fun q hor => ?_⟩, hk07.mono (fun q _ hor => ?_)⟩
  · have hlt7 := (lfoot_lt hlate q hq).2
    by_cases hq0 : w.heap.size ≤ q
    · exact .inr (.inr ⟨hq0, hlt7⟩)
    · rcases hq with h | h | h | ⟨p, hp, h⟩ | ⟨p, hp, h⟩
      · exact .inl (hlf q (.inl h))
      · rcases hv3b q h with h | h
        · exact .inl (hlf q (.inr (.inl h)))
        · omega
      · rcases hv6b q h with h | h
        · exact .inl (hlf q (.inr (.inr (.inl h))))
        · omega
      · rcases List.mem_append.1 hp with hp | hp
        · exact .inl (hlf q (.inr (.inr (.inr (.inl ⟨p, hp, h⟩)))))
        · rw [List.mem_singleton.1 hp] at h; exact .inr (.inl h)
      · rcases List.mem_append.1 hp with hp | hp
        · exact .inl (hlf q (.inr (.inr (.inr (.inr ⟨p, hp, h⟩)))))
        · rw [List.mem_singleton.1 hp] at h
          simp [Value.ownBlock] at h
          omega
  · rcases hq with h | h | h
    · exact hd q h hf
    · exact (hx q (.inl hf)).2.2 (hgx q h)
    · have := (hx q (.inl hf)).2.1; omega
  · have hmono := hk07.size
    rcases hor with h | h | h | h
    · have := hx q (.inl h); exact ⟨this.1, by omega, fun hxx => this.2.2 hxx.1⟩
    · have := hx q (.inr h); exact ⟨this.1, by omega, fun hxx => this.2.2 hxx.1⟩
    · have := own_back hgo q h; exact ⟨this.1, by omega, fun hxx => hxx.2.1 h⟩
    · exact ⟨by omega, h.2, fun hxx => by omega⟩
  · have := hx q (.inr (hSG q hor)); exact ⟨this.1, this.2.2⟩

set_option maxRecDepth 1000000 in
set_option maxHeartbeats 400000 in
theorem add_any {w : World} {base : Nat} {X : Nat → Prop} {B L t c : Nat} (h : Hs w base X B L t c) (hbase : base ≤ w.heap.size) (got wv : Value) (xs : List Nat) (hgo : w.ownsRow base 5 1 got xs.length (bv xs)) (hxs : ∀ x ∈ xs, x < 256) (hl : xs.length < 68719476736)
    (hX : ∀ k, got.ownBlock = some k → X k) (hwv : BSl w wv xs) (hwX : ∀ k, wv.ownBlock = some k → X k) (hc : c < 68719476736) :
    Calls Tryz.prog 32 #[.pointer (some ⟨L, 0, none⟩), got, wv] w fun e w' => e = .returned (.tuple #[]) ∧
      Hid (Hs w' base (fun k => X k ∧ got.ownBlock ≠ some k ∧ k < w.heap.size) B L t (c + 1) ∧ Kp (fun k => base ≤ k ∧ ¬ X k) w w') := by
  obtain ⟨F, G, hbook, ⟨vg, vw, ps, hok, hlf, hpc⟩, hd, hx⟩ := h
  obtain ⟨ag, cg, hgf, hq1, hq2, hq3⟩ := own_form hgo
  have HBK := hide hbook
  have HLT := hide hok
  have HLF := hide hlf
  have HD := hide hd
  have HX := hide hx
  have HBS := hide hbase
  have HGO := hide hgo
  have HXS := hide hxs
  have HL := hide hl
  have HGX := hide hX
  have HWV := hide hwv
  have HWX := hide hwX
  have HLN : Hid (ps.length < 1099511627776 ∧ ps.length ≤ c) := ⟨by omega, hpc⟩
  have c0 : w.cell? ⟨L, 0, none⟩ = some vg := blk_cell hok.blk rfl
  subst hgf
  clear hbook hok hlf hd hx hbase hgo hxs hl hX hwv hwX hc hpc hq1 hq2 hq3
  go_enter Tryz.func32, Tryz.ntmps32
  go_wp2_with (at_builtin; refine append_row rfl _ _ rfl base vg ps.length _ rfl HLT.out.hg _ _ rfl rfl rfl HLN.out.1 HBS.out ?_)
  intro v3 w3 ho3 hg3 hat3
  obtain ⟨a3, c3, hv3, hq1, hq2, hq3⟩ := own_form ho3
  have HLG : Hid (vg.ownBlock ≠ some L) := own_not HLT.out.hg HLT.out.blk (by decide)
  have hblk3 : w3.heap[L]? = some (.cells #[vg, vw] 51 (0, 0)) := (hg3.block L (by have := blk_lt HLT.out.blk; simp; omega) (fun e => HLG.out e.symm)).trans (blk_alloc _ HLT.out.blk)
  have hkg : Kp (fun q => vg.ownBlock = some q) w w3 := ((Kp.refl _ w).alloc _).grown hg3 (fun q _ hq => hq)
  have c0' : w3.cell? ⟨L, 0, none⟩ = some vg := blk_cell hblk3 rfl
  have c1' : w3.cell? ⟨L, 1, none⟩ = some vw := blk_cell hblk3 rfl
  have f0' := blk_frozen 0 hblk3
  have hkall : Kp (fun q => q = L ∨ vg.ownBlock = some q) w (w3.setCell ⟨L, 0, none⟩ v3) := (hkg.mono (fun _ _ h => .inr h)).setCell _ _ (fun _ => .inl rfl)
  have hXG : ∀ q, X q → ¬ (q = L ∨ vg.ownBlock = some q) := fun q hxq hor => by
    rcases hor with h | h
    · subst h; exact (HX.out q (.inr (HLF.out q (.inl rfl)))).2.2 hxq
    · exact (HX.out q (.inr (HLF.out q (.inr (.inl h))))).2.2 hxq
  have HK4 := hide hkall
  have HB4 : Hid ((w3.setCell ⟨L, 0, none⟩ v3).heap[L]? = some (.cells #[v3, vw] 51 (0, 0))) := blk_set 0 v3 hblk3
  have HV4 : Hid ((w3.setCell ⟨L, 0, none⟩ v3).ownsRow base 23 1 v3 (ps.length + 1) (ps.map (·.got) ++ [Value.slice ag xs.length cg])) :=
    ((Kp.refl (fun q => q = L) w3).setCell ⟨L, 0, none⟩ v3 (fun _ => rfl)).owns ho3 (fun q hq e => own_not ho3 hblk3 (by decide) (by rw [hq, e]))
  have HVW4 : Hid ((w3.setCell ⟨L, 0, none⟩ v3).ownsRow base 23 1 vw ps.length (ps.map (·.want))) := hkall.owns HLT.out.hw (fun q hq hor => by
    rcases hor with h | h
    · subst h; exact own_not HLT.out.hw HLT.out.blk (by decide) hq
    · exact HLT.out.apart q h hq)
  have HWV4 : Hid (BSl (w3.setCell ⟨L, 0, none⟩ v3) wv xs) := hkall.bsl HWV.out (fun q hq => hXG q (HWX.out q hq))
  have HGO4 : Hid ((w3.setCell ⟨L, 0, none⟩ v3).ownsRow base 5 1 (Value.slice ag xs.length cg) xs.length (bv xs)) := hkall.owns HGO.out (fun q hq => hXG q (HGX.out q hq))
  have HAT3 : Hid (v3.ownBlock = vg.ownBlock ∨ v3.ownBlock = some (w.heap.size + 1)) := hat3
  have HBS4 : Hid (base ≤ (w3.setCell ⟨L, 0, none⟩ v3).heap.size) := Nat.le_trans HBS.out hkall.size
  have HXG := hide hXG
  subst hv3
  clear ho3 hg3 hat3 hq1 hq2 hq3 hblk3 hkg hkall hXG c0
  go_wp2
  clear c0' c1' f0'
  generalize w3.setCell ⟨L, 0, none⟩ (Value.slice a3 (ps.length + 1) c3) = w4 at *
  obtain ⟨cap5, w5, hconv, hbsl5, hk5, hsz5, hblk5⟩ := conv_bytes w4.drew xs HXS.out HL.out
  have hk5' : Kp (fun _ => False) w4 w5 := (Kp.refl _ w4).drew.trans hk5 (fun _ _ h => h)
  have hcv : Sem.run Tryz.prog (convert 23 9 wv) w4.drew = .ok (.string (nstr xs)) w4.drew := (HWV4.out.move (w' := w4.drew) (fun _ _ h => h)).text
  have hL4 : L < w4.heap.size := blk_lt HB4.out
  have hB5 : w5.heap[L]? = some (.cells #[Value.slice a3 (ps.length + 1) c3, vw] 51 (0, 0)) := (hk5'.block L hL4 (fun h => h)).trans HB4.out
  have c14 : w4.cell? ⟨L, 1, none⟩ = some vw := blk_cell HB4.out rfl
  have c15 : w5.cell? ⟨L, 1, none⟩ = some vw := blk_cell hB5 rfl
  have hL5 : L < w5.heap.size := blk_lt hB5
  have HB5 := hide hB5
  have HBSL5 := hide hbsl5
  have HK5 := hide hk5'
  have HSZ5 : Hid (w5.heap.size = w4.heap.size + 1) := hsz5
  have HBLK5 : Hid (∃ cur fr, w5.heap[w4.heap.size]? = some (.cells cur 5 fr)) := hblk5
  have HVW5 := hide (hk5'.owns HVW4.out (fun _ _ h => h))
  have HBS5 : Hid (base ≤ w5.heap.size) := Nat.le_trans HBS4.out hk5'.size
  clear hbsl5 hk5 hk5' hsz5 hblk5 hB5
  generalize nstr xs = S at *
  go_region_law (first
    | (refine step_append_row rfl (.tmp 20) (.tmp 24) rfl base vw ps.length _ rfl HVW5.out _ _ rfl rfl rfl HLN.out.1 HBS5.out ?_
       intro v6 w6 ho6 hg6 hat6
       obtain ⟨a6, c6, hv6, hq1, hq2, hq3⟩ := own_form ho6
       have hblk6 : w6.heap[L]? = some (.cells #[Value.slice a3 (ps.length + 1) c3, vw] 51 (0, 0)) := (hg6.block L (by simp; omega) (fun e => own_not HVW5.out HB5.out (by decide) e.symm)).trans (blk_alloc _ HB5.out)
       have c16 : w6.cell? ⟨L, 1, none⟩ = some vw := blk_cell hblk6 rfl
       have f16 := blk_frozen 1 hblk6
       have HO6 := hide ho6
       have HG6 := hide hg6
       have HA6 := hide hat6
       have HB6 := hide hblk6
       subst hv6
       clear hq1 hq2 hq3 ho6 hg6 hat6 hblk6))
  all_goals
    go_wp2
    go_end0
    exact ⟨rfl, add_fin HBK.out HLT.out HLF.out HD.out HX.out HBS.out HGO.out HXS.out HL.out HGX.out HLN.out.2 HK4.out HB4.out HV4.out HVW4.out HGO4.out HAT3.out HK5.out HBSL5.out HSZ5.out HBLK5.out HO6.out HG6.out HA6.out HB6.out⟩
end
section
open Go.RowKit Go
set_option maxRecDepth 1000000 in
set_option maxHeartbeats 1000000 in
/-- Size of what is no tree. -/
theorem sizeBad7 (w : World) (t : Tv) (cs : Array Value) (E : Nat) (hE : E ≠ 0) (hc : ChkC7 t E) (ht : Tin w t cs) (hT : Tabs w) : Calls Tryz.prog 24 #[.agg cs] w fun e w' => e = .returned (.tuple #[.int .i64 0, .int .i64 (E : Nat)]) ∧ Below w.heap.size w w' := by
  have hb0 := below_alloc4 w (.cells cs 65)
  have HB0 := hide hb0
  have HG0 := hide (heap_alloc_new w (.cells cs 65))
  have HSZ := hide ht.size13
  have HCK := hide (hc (w.alloc (.cells cs 65)) cs (ht.move (keep_below hb0)) (hT.next hb0))
  have g1 : (((E : Nat) : Int) == 0) = false := beq_eq_false_iff_ne.2 (by omega)
  clear hc ht hT hb0 hE
  go_enter Tryz.func24, Tryz.ntmps24
  go_upto_region 1 with fail
  generalize w.alloc (.cells cs 65) = w0 at *
  have HVC : Hid (∀ j u, cs[j]? = some u → w0.cell? ⟨w.heap.size, 0 + j, none⟩ = some u) := fun j u hu => by rw [Nat.zero_add]; exact blk_cell HG0.out hu
  go_wp2_with (refine wpList_exec rfl (exec_valAt (g := w.heap.size) (off := 0) (cs := cs) rfl rfl HSZ.out HVC.out) ?_)
  refine HCK.out.mono ?_
  rintro e w1 ⟨rfl, hb1⟩
  have HB1 : Hid (Below w.heap.size w w1) := HB0.out.trans (hb1.mono HB0.out.size)
  clear hb1 HVC HCK
  go_wp2_with fail
  go_ret2
  exact ⟨rfl, HB1.out⟩
/-- What told leaves. -/
def Tol7 (w : World) (base : Nat) (X : Nat → Prop) (B L t c : Nat) (e : Ending) (w' : World) : Prop := e = .returned (.bool true) ∧ Hid (∃ X', Hs w' base X' B L t (c + 2) ∧ (∀ q, w'.heap.size ≤ q → X' q) ∧ (∀ q, X q → q < w.heap.size → X' q) ∧ Kp (fun k => base ≤ k ∧ ¬ X k) w w')
set_option maxRecDepth 1000000 in
set_option maxHeartbeats 4000000 in
theorem told_good (w : World) (base : Nat) (X : Nat → Prop) (B L tt cc : Nat) (h : Hs w base X B L tt cc) (hbs : base ≤ w.heap.size) (hnx : ∀ q, w.heap.size ≤ q → X q) (hcc : cc + 2 < 68719476736) (tv s : Tv) (ci cv : Array Value) (hi : Tin w tv ci) (hv : Tin w tv cv) (va vf : Value) (fr : List Nat) (ha : BSl w va fr) (hf : BSl w vf fr) (hfl : fr.length ≤ 1000000000)
    (hm : tmuch tv ≤ 20000) (hc : chkf tv 0 = 0) (hs : SrtR tv s) (hth : Thr tv s) (hT : Tabs w) : Calls Tryz.prog 9 #[.agg ci, va, .agg cv, vf, .pointer (some ⟨L, 0, none⟩)] w (Tol7 w base X B L tt cc) := by
  have hb0 : Below w.heap.size w ((w.alloc (.cells ci 65)).alloc (.cells cv 65)) := (below_alloc4 w _).trans ((below_alloc4 _ _).mono (below_alloc4 w _).size)
  have hsz : (w.alloc (.cells ci 65)).heap.size = w.heap.size + 1 := by simp
  have hga : ((w.alloc (.cells ci 65)).alloc (.cells cv 65)).heap[w.heap.size]? = some (.cells ci 65 (0, 0)) := blk_alloc _ (heap_alloc_new w (.cells ci 65))
  have hgb := heap_alloc_new (w.alloc (.cells ci 65)) (.cells cv 65)
  rw [hsz] at hgb
  have HB0 := hide hb0
  have HGA := hide hga
  have HGB := hide hgb
  have HSI := hide hi.size13
  have HSV := hide hv.size13
  have HTI := hide hi
  have HTV := hide hv
  have HHS := hide h
  have HBS := hide hbs
  have HNX := hide hnx
  have HCC := hide hcc
  have HA := hide ha
  have HF := hide hf
  have HFB := hide hf.byte
  have HFL := hide hfl
  have HM := hide hm
  have HC := hide hc
  have HSR := hide hs
  have HTH := hide hth
  have HT := hide hT
  clear h hbs hnx hcc hi hv ha hf hfl hm hc hs hth hT hb0 hsz hga hgb
  go_enter Tryz.func9, Tryz.ntmps9
  go_upto_region 1 with fail
  generalize (w.alloc (.cells ci 65)).alloc (.cells cv 65) = w0 at *
  have HVV : Hid (∀ wx, Below w0.heap.size w0 wx → ∀ j u, cv[j]? = some u → wx.cell? ⟨w.heap.size + 1, 0 + j, none⟩ = some u) := fun wx hb j u hu => by rw [Nat.zero_add]; exact keep_below hb _ _ (blk_cell HGB.out hu)
  have HVI : Hid (∀ wx, Below w0.heap.size w0 wx → ∀ j u, ci[j]? = some u → wx.cell? ⟨w.heap.size, 0 + j, none⟩ = some u) := fun wx hb j u hu => by rw [Nat.zero_add]; exact keep_below hb _ _ (blk_cell HGA.out hu)
  have HVV0 := hide (HVV.out w0 (Below.refl _ _))
  go_wp2_with (refine wpList_exec rfl (exec_valAt (g := w.heap.size + 1) (off := 0) (cs := cv) rfl rfl HSV.out HVV0.out) ?_)
  refine (rencode_good w0 tv s cv (HTV.out.move (keep_below HB0.out)) HC.out HSR.out HTH.out HM.out).mono ?_
  rintro e w1 ⟨vw, rfl, ho1, hb1⟩
  have HB1 := hide hb1
  have HOW := hide ho1
  have HZ01 : Hid (w0.heap.size ≤ w1.heap.size) := hb1.size
  have HVI1 := hide (HVI.out w1 hb1)
  clear ho1 hb1 HVV0
  go_wp2_with (refine wpList_exec rfl (exec_valAt (g := w.heap.size) (off := 0) (cs := ci) rfl rfl HSI.out HVI1.out) ?_)
  refine (encode_good w1 tv s ci (chk7_0 (by have := HM.out; omega) HC.out) (srt7_ex (by have := HM.out; omega) HC.out HSR.out) HTH.out.p (by have := HTH.out.l; omega) (HTI.out.move (fun p x hx => keep_below HB1.out _ _ (keep_below HB0.out _ _ hx))) ((HT.out.next HB0.out).next HB1.out)).mono ?_
  rintro e w2 ⟨vx, rfl, ho2, hb2⟩
  have HB2 : Hid (Below w0.heap.size w0 w2) := HB1.out.trans (hb2.mono HB1.out.size)
  have HOX : Hid (w2.ownsRow w1.heap.size 5 1 vx (tfm s).length (bv (tfm s))) := by show World.ownsRow _ _ _ _ _ _ _; simpa using ho2
  have HOW2 := hide ((Kp.of_below (S := fun _ => False) hb2).owns HOW.out (fun _ _ e => e))
  have HZ12 : Hid (w1.heap.size ≤ w2.heap.size) := hb2.size
  have HVI2 := hide (HVI.out w2 HB2.out)
  clear ho2 hb2 HVI1
  go_wp2_with (refine wpList_exec rfl (exec_valAt (g := w.heap.size) (off := 0) (cs := ci) rfl rfl HSI.out HVI2.out) ?_)
  have HFN : Hid ((tfm tv).length = (tfm s).length) := (trn_flen (srt_trn HSR.out (chk_trk HC.out)) (chk_trk HC.out)).symm
  refine (sizeTop7 w2 tv ci (chk7_0 (by have := HM.out; omega) HC.out) (chk_ptr HC.out) (by rw [HFN.out]; have := HTH.out.l; omega) (HTI.out.move (fun p x hx => keep_below HB2.out _ _ (keep_below HB0.out _ _ hx))) ((HT.out.next HB0.out).next HB2.out)).mono ?_
  rintro e w3 ⟨rfl, hb3⟩
  rw [HFN.out]
  have HB3 : Hid (Below w0.heap.size w0 w3) := HB2.out.trans (hb3.mono HB2.out.size)
  have HOX3 := hide ((Kp.of_below (S := fun _ => False) hb3).owns HOX.out (fun _ _ e => e))
  have HOW3 := hide ((Kp.of_below (S := fun _ => False) hb3).owns HOW2.out (fun _ _ e => e))
  have HVI3 := hide (HVI.out w3 HB3.out)
  have HXL : Hid (∀ k, vx.ownBlock = some k → w1.heap.size ≤ k ∧ k < w2.heap.size) := fun k hk => HOX.out.lt k hk
  have HWL : Hid (∀ k, vw.ownBlock = some k → w0.heap.size ≤ k ∧ k < w1.heap.size) := fun k hk => HOW.out.lt k hk

  have HZ23 : Hid (w1.heap.size ≤ w2.heap.size ∧ w2.heap.size ≤ w3.heap.size) := by
    refine ⟨?_, hb3.size⟩
    exact HZ12.out
  clear hb3 HVI2 HZ12
  go_wp2_with (refine wpList_exec rfl (exec_valAt (g := w.heap.size) (off := 0) (cs := ci) rfl rfl HSI.out HVI3.out) ?_)
  refine (append_good w3 va fr ((HA.out.move (keep_below HB0.out)).move (keep_below HB3.out)) HFL.out tv s ci (chk7_0 (by have := HM.out; omega) HC.out) (srt7_ex (by have := HM.out; omega) HC.out HSR.out) HTH.out.p (by have := HTH.out.l; omega) (HTI.out.move (fun p x hx => keep_below HB3.out _ _ (keep_below HB0.out _ _ hx))) ((HT.out.next HB0.out).next HB3.out)).mono ?_
  rintro e w4 ⟨vy, rfl, ho4, hb4⟩
  have HB4 : Hid (Below w0.heap.size w0 w4) := HB3.out.trans (hb4.mono HB3.out.size)
  have HOX4 := hide ((Kp.of_below (S := fun _ => False) hb4).owns HOX3.out (fun _ _ e => e))
  have HOW4 := hide ((Kp.of_below (S := fun _ => False) hb4).owns HOW3.out (fun _ _ e => e))
  have HOY4 := hide ho4
  have HZ34 : Hid (w3.heap.size ≤ w4.heap.size) := hb4.size
  have HSX : Hid (BSl w4 vx (tfm s)) := BSl.own HOX4.out HTH.out.y
  have HSW : Hid (BSl w4 vw (tfm s)) := BSl.own HOW4.out HTH.out.y
  clear ho4 hb4 HVI3 HOX HOX3 HOW HOW2 HOW3 HB1 HB2 HB3 HVV HVI HGA HGB HTI HTV HSI HSV
  obtain ⟨aw, cw, hvw⟩ : ∃ aw cw, vw = .slice aw (tfm s).length cw := by
    obtain ⟨⟨a, c, h, _⟩, _⟩ := HSW.out
    exact ⟨a, c, h⟩
  subst hvw
  have tx1 := HSX.out.text
  have tx2 := HSW.out.text
  generalize nstr (tfm s) = stx at *
  go_wp2_with fail
  refine (num7_any _ w4).mono ?_
  rintro e w9 ⟨rfl, hw9⟩
  have hw9 := hw9.symm
  subst hw9
  go_wp2_with fail
  refine (num7_any _ w4).mono ?_
  rintro e w9 ⟨rfl, hw9⟩
  have hw9 := hw9.symm
  subst hw9
  go_wp2_with fail
  refine (num7_any _ w4).mono ?_
  rintro e w9 ⟨rfl, hw9⟩
  have hw9 := hw9.symm
  subst hw9
  clear HSX
  have HBE := hide (below_alloc4 w4 (.cells #[] 5))
  have HOE : Hid ((w4.alloc (.cells #[] 5)).ownsRow w4.heap.size 5 1 (.slice (some ⟨w4.heap.size, 0, none⟩) 0 0) 0 (bv [])) := ⟨rfl, .inr ⟨w4.heap.size, 0, _, rfl, Nat.le_refl _, heap_alloc_new w4 _, Nat.le_refl _, by decide, rfl, rfl⟩⟩
  have HSF := hide (((HF.out.move (keep_below HB0.out)).move (keep_below HB4.out)).move (keep_below HBE.out))
  go_wp2_with (at_builtin; refine append_bsl_at rfl _ _ rfl w4.heap.size _ 0 [] rfl HOE.out _ fr rfl HSF.out ?b1 ?b2 ?_)
  case b1 => have := HFL.out; omega
  case b2 => exact HBE.out.size
  intro v5 w6 ho6 hg6 _
  have HO6 : Hid (w6.ownsRow w4.heap.size 5 1 v5 fr.length (bv fr)) := by show World.ownsRow _ _ _ _ _ _ _; simpa using ho6
  have HB6 : Hid (Below w4.heap.size w4 w6) := HBE.out.trans (((Kp.refl (fun q => _ = some q) _).grown hg6 (fun k _ e => e)).below HBE.out.size (fun q e => (HOE.out.lt q e).1))
  have HSW6 := hide (HSW.out.move (keep_below HB6.out))
  clear ho6 hg6 HOE HBE HSF tx1 tx2
  go_wp2_with (at_builtin; refine append_bsl_at rfl _ _ rfl w4.heap.size _ fr.length fr rfl HO6.out _ (tfm s) rfl HSW6.out ?b1 ?b2 ?_)
  case b1 => have := HFL.out; have := HTH.out.l; omega
  case b2 => exact HB6.out.size
  intro v7 w7 ho7 hg7 _
  have HB7 : Hid (Below w4.heap.size w4 w7) := HB6.out.trans (((Kp.refl (fun q => _ = some q) _).grown hg7 (fun k _ e => e)).below HB6.out.size (fun q e => (HO6.out.lt q e).1))
  have HOA7 : Hid (w7.ownsRow w4.heap.size 5 1 v7 (fr ++ tfm s).length (bv (fr ++ tfm s))) := by show World.ownsRow _ _ _ _ _ _ _; rw [List.length_append]; exact ho7
  have hk47 : Kp (fun _ => False) w4 w7 := Kp.of_below HB7.out
  have HOX7 := hide (hk47.owns HOX4.out (fun _ _ e => e))
  have HOW7 := hide (hk47.owns HOW4.out (fun _ _ e => e))
  have HOY7 := hide (hk47.owns HOY4.out (fun _ _ e => e))
  have HW7 : Hid (Below w.heap.size w w7) := HB0.out.trans ((HB4.out.mono HB0.out.size).trans (HB7.out.mono (Nat.le_trans HB0.out.size HB4.out.size)))
  have HH7 := hide (HHS.out.kp (Kp.of_below (S := fun _ => False) HW7.out) (fun _ _ _ _ e => e))
  have HZ0 : Hid (w.heap.size ≤ w0.heap.size ∧ w0.heap.size ≤ w4.heap.size ∧ w4.heap.size ≤ w7.heap.size ∧ w0.heap.size ≤ w1.heap.size) := ⟨HB0.out.size, HB4.out.size, HB7.out.size, HZ01.out⟩
  have HB_7 : Hid (base ≤ w7.heap.size) := Nat.le_trans HBS.out HW7.out.size
  have HXX : Hid (∀ k, vx.ownBlock = some k → X k) := fun k hk => HNX.out k (by have h1 := (HXL.out k hk).1; have h2 := HZ0.out; omega)
  have HWX : Hid (∀ k, (Value.slice aw (tfm s).length cw).ownBlock = some k → X k) := fun k hk => HNX.out k (by have h1 := (HWL.out k hk).1; have h2 := HZ0.out; omega)
  have HYL : Hid (∀ k, vy.ownBlock = some k → w3.heap.size ≤ k ∧ k < w4.heap.size) := fun k hk => HOY4.out.lt k hk
  have HAL : Hid (∀ k, v7.ownBlock = some k → w4.heap.size ≤ k ∧ k < w7.heap.size) := fun k hk => HOA7.out.lt k hk
  have HOXb : Hid (w7.ownsRow base 5 1 vx (tfm s).length (bv (tfm s))) := own_mono HOX7.out (by have := HBS.out; have := HZ0.out; omega)
  have HSW7 : Hid (BSl w7 (.slice aw (tfm s).length cw) (tfm s)) := BSl.own HOW7.out HTH.out.y
  clear ho7 hg7 hk47 HO6 HB6 HSW6 HSW HOX4 HOW4 HOY4 HA HF HT HC HSR HFN
  go_wp2_with fail
  refine (add_any HH7.out HB_7.out vx (.slice aw (tfm s).length cw) (tfm s) HOXb.out HTH.out.y (by have := HTH.out.l; omega) HXX.out HSW7.out HWX.out (by have := HCC.out; omega)).mono ?_
  rintro e w8 ⟨rfl, HA8⟩
  have HZ8 : Hid (w7.heap.size ≤ w8.heap.size) := HA8.out.2.size
  have HX8y : Hid (∀ k, vy.ownBlock = some k → X k ∧ vx.ownBlock ≠ some k ∧ k < w7.heap.size) := fun k hk => by
    have h1 := HYL.out k hk
    have h2 := HZ0.out
    have h3 := HZ23.out
    refine ⟨HNX.out k (by omega), fun e => ?_, by omega⟩
    have h4 := HXL.out k e
    omega
  have HX8a : Hid (∀ k, v7.ownBlock = some k → X k ∧ vx.ownBlock ≠ some k ∧ k < w7.heap.size) := fun k hk => by
    have h1 := HAL.out k hk
    have h2 := HZ0.out
    have h3 := HZ23.out
    have h5 := HZ34.out
    refine ⟨HNX.out k (by omega), fun e => ?_, by omega⟩
    have h4 := HXL.out k e
    omega
  have HOY8 := hide (HA8.out.2.owns HOY7.out (fun k hk e => e.2 (HX8y.out k hk).1))
  have HOA8 := hide (HA8.out.2.owns HOA7.out (fun k hk e => e.2 (HX8a.out k hk).1))
  have HB_8 : Hid (base ≤ w8.heap.size) := Nat.le_trans HB_7.out HZ8.out
  have HYB : Hid (∀ x ∈ fr ++ tfm s, x < 256) := fun x hx => (List.mem_append.1 hx).elim (fun h => HFB.out x h) (fun h => HTH.out.y x h)
  have HSA8 : Hid (BSl w8 v7 (fr ++ tfm s)) := BSl.own HOA8.out HYB.out
  have HOYb : Hid (w8.ownsRow base 5 1 vy (fr ++ tfm s).length (bv (fr ++ tfm s))) := own_mono HOY8.out (by have := HBS.out; have := HZ0.out; have := HZ23.out; omega)
  have HLL : Hid ((fr ++ tfm s).length < 68719476736) := by show _ < _; rw [List.length_append]; have := HFL.out; have := HTH.out.l; omega
  clear HOX7 HOW7 HOY7 HOA7 HOXb HSW7
  go_wp2_with fail
  refine (add_any HA8.out.1 HB_8.out vy v7 (fr ++ tfm s) HOYb.out HYB.out HLL.out HX8y.out HSA8.out HX8a.out (by have := HCC.out; omega)).mono ?_
  rintro e w9 ⟨rfl, HA9⟩
  have tx1 := (BSl.own (HA9.out.2.owns HOY8.out (fun k hk e => e.2 (HX8y.out k hk))) HYB.out).text
  have tx2 := (BSl.own (HA9.out.2.owns HOA8.out (fun k hk e => e.2 (HX8a.out k hk))) HYB.out).text
  generalize nstr (fr ++ tfm s) = sty at *
  go_wp2_with fail
  go_ret
  refine ⟨rfl, fun k => (((X k ∧ vx.ownBlock ≠ some k ∧ k < w7.heap.size) ∧ vy.ownBlock ≠ some k ∧ k < w8.heap.size) ∨ w9.heap.size ≤ k), HA9.out.1.mono (fun k _ h1 h2 => h2.elim id (fun h => by omega)), fun q hq => .inr hq, fun q hq hl => .inl ⟨⟨hq, fun e => ?_, ?_⟩, fun e => ?_, ?_⟩, ?_⟩
  · have h1 := HXL.out q e
    have h2 := HZ0.out
    omega
  · have := HW7.out.size
    omega
  · have h1 := HYL.out q e
    have h2 := HZ0.out
    have h3 := HZ23.out
    omega
  · have := HW7.out.size
    have := HZ8.out
    omega
  · refine ((Kp.of_below (S := fun k => base ≤ k ∧ ¬ X k) HW7.out).trans HA8.out.2 (fun k _ h => h)).trans HA9.out.2 (fun k hk h => ⟨h.1, fun hx => h.2 ⟨hx, fun e => ?_, ?_⟩⟩)
    · have h1 := HXL.out k e
      have h2 := HZ0.out
      omega
    · have := HW7.out.size
      omega
end
section
open Go.RowKit Go
set_option maxRecDepth 1000000 in
set_option maxHeartbeats 4000000 in
theorem told_bad (w : World) (base : Nat) (X : Nat → Prop) (B L tt cc : Nat) (h : Hs w base X B L tt cc) (hbs : base ≤ w.heap.size) (hnx : ∀ q, w.heap.size ≤ q → X q) (hcc : cc + 2 < 68719476736) (tv : Tv) (ci cv : Array Value) (hi : Tin w tv ci) (hv : Tin w tv cv) (va vf : Value) (fr : List Nat) (ha : BSl w va fr) (hf : BSl w vf fr) (hfl : fr.length ≤ 1000000000)
    (hm : tmuch tv ≤ 20000) (hc : chkf tv 0 ≠ 0) (hT : Tabs w) : Calls Tryz.prog 9 #[.agg ci, va, .agg cv, vf, .pointer (some ⟨L, 0, none⟩)] w (Tol7 w base X B L tt cc) := by
  have hb0 : Below w.heap.size w ((w.alloc (.cells ci 65)).alloc (.cells cv 65)) := (below_alloc4 w _).trans ((below_alloc4 _ _).mono (below_alloc4 w _).size)
  have hsz : (w.alloc (.cells ci 65)).heap.size = w.heap.size + 1 := by simp
  have hga : ((w.alloc (.cells ci 65)).alloc (.cells cv 65)).heap[w.heap.size]? = some (.cells ci 65 (0, 0)) := blk_alloc _ (heap_alloc_new w (.cells ci 65))
  have hgb := heap_alloc_new (w.alloc (.cells ci 65)) (.cells cv 65)
  rw [hsz] at hgb
  have HB0 := hide hb0
  have HGA := hide hga
  have HGB := hide hgb
  have HSI := hide hi.size13
  have HSV := hide hv.size13
  have HTI := hide hi
  have HTV := hide hv
  have HHS := hide h
  have HBS := hide hbs
  have HNX := hide hnx
  have HCC := hide hcc
  have HA := hide ha
  have HF := hide hf
  have HFB := hide hf.byte
  have HFL := hide hfl
  have HM := hide hm
  have HC := hide hc
  have HCK : Hid (ChkC7 tv (chkf tv 0)) := chk7_of (by omega)
  have g0 : (((chkf tv 0 : Nat) : Int) == 0) = false := beq_eq_false_iff_ne.2 (by omega)
  have HT := hide hT
  clear h hbs hnx hcc hi hv ha hf hfl hm hc hT hb0 hsz hga hgb
  go_enter Tryz.func9, Tryz.ntmps9
  go_upto_region 1 with fail
  generalize (w.alloc (.cells ci 65)).alloc (.cells cv 65) = w0 at *
  have HVV : Hid (∀ wx, Below w0.heap.size w0 wx → ∀ j u, cv[j]? = some u → wx.cell? ⟨w.heap.size + 1, 0 + j, none⟩ = some u) := fun wx hb j u hu => by rw [Nat.zero_add]; exact keep_below hb _ _ (blk_cell HGB.out hu)
  have HVI : Hid (∀ wx, Below w0.heap.size w0 wx → ∀ j u, ci[j]? = some u → wx.cell? ⟨w.heap.size, 0 + j, none⟩ = some u) := fun wx hb j u hu => by rw [Nat.zero_add]; exact keep_below hb _ _ (blk_cell HGA.out hu)
  have HVV0 := hide (HVV.out w0 (Below.refl _ _))
  go_wp2_with (refine wpList_exec rfl (exec_valAt (g := w.heap.size + 1) (off := 0) (cs := cv) rfl rfl HSV.out HVV0.out) ?_)
  refine (rencode_bad w0 tv cv (HTV.out.move (keep_below HB0.out)) HC.out HM.out).mono ?_
  rintro e w1 ⟨rfl, hb1⟩
  have HB1 := hide hb1
  have HVI1 := hide (HVI.out w1 hb1)
  clear hb1 HVV0
  go_wp2_with (refine wpList_exec rfl (exec_valAt (g := w.heap.size) (off := 0) (cs := ci) rfl rfl HSI.out HVI1.out) ?_)
  refine (encode_bad w1 tv ci (chkf tv 0) HC.out HCK.out (HTI.out.move (fun p x hx => keep_below HB1.out _ _ (keep_below HB0.out _ _ hx))) ((HT.out.next HB0.out).next HB1.out)).mono ?_
  rintro e w2 ⟨rfl, hb2⟩
  have HB2 : Hid (Below w0.heap.size w0 w2) := HB1.out.trans (hb2.mono HB1.out.size)
  have HVI2 := hide (HVI.out w2 HB2.out)
  clear hb2 HVI1
  go_wp2_with (refine wpList_exec rfl (exec_valAt (g := w.heap.size) (off := 0) (cs := ci) rfl rfl HSI.out HVI2.out) ?_)
  refine (sizeBad7 w2 tv ci (chkf tv 0) HC.out HCK.out (HTI.out.move (fun p x hx => keep_below HB2.out _ _ (keep_below HB0.out _ _ hx))) ((HT.out.next HB0.out).next HB2.out)).mono ?_
  rintro e w3 ⟨rfl, hb3⟩
  have HB3 : Hid (Below w0.heap.size w0 w3) := HB2.out.trans (hb3.mono HB2.out.size)
  have HVI3 := hide (HVI.out w3 HB3.out)
  clear hb3 HVI2
  go_wp2_with (refine wpList_exec rfl (exec_valAt (g := w.heap.size) (off := 0) (cs := ci) rfl rfl HSI.out HVI3.out) ?_)
  refine (append_bad w3 va tv ci (chkf tv 0) HC.out HCK.out (HTI.out.move (fun p x hx => keep_below HB3.out _ _ (keep_below HB0.out _ _ hx))) ((HT.out.next HB0.out).next HB3.out)).mono ?_
  rintro e w4 ⟨rfl, hb4⟩
  have HB4 : Hid (Below w0.heap.size w0 w4) := HB3.out.trans (hb4.mono HB3.out.size)
  clear hb4 HVI3 HB1 HB2 HB3 HVV HVI HGA HGB HTI HTV HSI HSV HCK HC
  have HSN : Hid (∀ wx : World, BSl wx (.slice none 0 0) []) := fun wx => bsl7 wx
  have tx1 := (HSN.out w4).text
  generalize nstr [] = stx at *
  generalize chkf tv 0 = E at *
  go_wp2_with fail
  refine (num7_any _ w4).mono ?_
  rintro e w9 ⟨rfl, hw9⟩
  have hw9 := hw9.symm
  subst hw9
  go_wp2_with fail
  refine (num7_any _ w4).mono ?_
  rintro e w9 ⟨rfl, hw9⟩
  have hw9 := hw9.symm
  subst hw9
  go_wp2_with fail
  refine (num7_any _ w4).mono ?_
  rintro e w9 ⟨rfl, hw9⟩
  have hw9 := hw9.symm
  subst hw9
  have HBE := hide (below_alloc4 w4 (.cells #[] 5))
  have HOE : Hid ((w4.alloc (.cells #[] 5)).ownsRow w4.heap.size 5 1 (.slice (some ⟨w4.heap.size, 0, none⟩) 0 0) 0 (bv [])) := ⟨rfl, .inr ⟨w4.heap.size, 0, _, rfl, Nat.le_refl _, heap_alloc_new w4 _, Nat.le_refl _, by decide, rfl, rfl⟩⟩
  have HSF := hide (((HF.out.move (keep_below HB0.out)).move (keep_below HB4.out)).move (keep_below HBE.out))
  go_wp2_with (at_builtin; refine append_bsl_at rfl _ _ rfl w4.heap.size _ 0 [] rfl HOE.out _ fr rfl HSF.out ?b1 ?b2 ?_)
  case b1 => have := HFL.out; omega
  case b2 => exact HBE.out.size
  intro v5 w6 ho6 hg6 _
  have HO6 : Hid (w6.ownsRow w4.heap.size 5 1 v5 fr.length (bv fr)) := by show World.ownsRow _ _ _ _ _ _ _; simpa using ho6
  have HB6 : Hid (Below w4.heap.size w4 w6) := HBE.out.trans (((Kp.refl (fun q => _ = some q) _).grown hg6 (fun k _ e => e)).below HBE.out.size (fun q e => (HOE.out.lt q e).1))
  have HSW6 := hide (HSN.out w6)
  clear ho6 hg6 HOE HBE HSF tx1
  go_wp2_with (at_builtin; refine append_bsl_at rfl _ _ rfl w4.heap.size _ fr.length fr rfl HO6.out _ [] rfl HSW6.out ?b1 ?b2 ?_)
  case b1 => have := HFL.out; show fr.length + 0 ≤ _; omega
  case b2 => exact HB6.out.size
  intro v7 w7 ho7 hg7 _
  have HB7 : Hid (Below w4.heap.size w4 w7) := HB6.out.trans (((Kp.refl (fun q => _ = some q) _).grown hg7 (fun k _ e => e)).below HB6.out.size (fun q e => (HO6.out.lt q e).1))
  have HW7 : Hid (Below w.heap.size w w7) := HB0.out.trans ((HB4.out.mono HB0.out.size).trans (HB7.out.mono (Nat.le_trans HB0.out.size HB4.out.size)))
  have HH7 := hide (HHS.out.kp (Kp.of_below (S := fun _ => False) HW7.out) (fun _ _ _ _ e => e))
  have HB_7 : Hid (base ≤ w7.heap.size) := Nat.le_trans HBS.out HW7.out.size
  clear ho7 hg7 HO6 HB6 HSW6 HA HF HT
  go_wp2_with fail
  refine (add_any HH7.out HB_7.out (.slice none 0 0) (.slice none 0 0) [] (World.ownsRow_nil _ _ _ _) (by simp) (by simp) (fun k hk => by cases hk) (HSN.out w7) (fun k hk => by cases hk) (by have := HCC.out; omega)).mono ?_
  rintro e w8 ⟨rfl, HA8⟩
  have HZ8 : Hid (w7.heap.size ≤ w8.heap.size) := HA8.out.2.size
  have HB_8 : Hid (base ≤ w8.heap.size) := Nat.le_trans HB_7.out HZ8.out
  go_wp2_with fail
  refine (add_any HA8.out.1 HB_8.out (.slice none 0 0) (.slice none 0 0) [] (World.ownsRow_nil _ _ _ _) (by simp) (by simp) (fun k hk => by cases hk) (HSN.out w8) (fun k hk => by cases hk) (by have := HCC.out; omega)).mono ?_
  rintro e w9 ⟨rfl, HA9⟩
  have tx1 := (HSN.out w9).text
  generalize nstr [] = sty at *
  go_wp2_with fail
  go_ret
  refine ⟨rfl, fun k => (((X k ∧ (Value.slice none 0 0).ownBlock ≠ some k ∧ k < w7.heap.size) ∧ (Value.slice none 0 0).ownBlock ≠ some k ∧ k < w8.heap.size) ∨ w9.heap.size ≤ k), HA9.out.1.mono (fun k _ h1 h2 => h2.elim id (fun h => by omega)), fun q hq => .inr hq, fun q hq hl => .inl ⟨⟨hq, (fun e => by cases e), ?_⟩, (fun e => by cases e), ?_⟩, ?_⟩
  · have := HW7.out.size
    omega
  · have := HW7.out.size
    have := HZ8.out
    omega
  · refine ((Kp.of_below (S := fun k => base ≤ k ∧ ¬ X k) HW7.out).trans HA8.out.2 (fun k _ h => h)).trans HA9.out.2 (fun k hk h => ⟨h.1, fun hx => h.2 ⟨hx, (fun e => by cases e), ?_⟩⟩)
    have := HW7.out.size
    omega
/-- told: of any value. -/
theorem told7_any (w : World) (base : Nat) (X : Nat → Prop) (B L tt cc : Nat) (h : Hs w base X B L tt cc) (hbs : base ≤ w.heap.size) (hnx : ∀ q, w.heap.size ≤ q → X q) (hcc : cc + 2 < 68719476736) (tv : Tv) (ci cv : Array Value) (hi : Tin w tv ci) (hv : Tin w tv cv) (va vf : Value) (fr : List Nat) (ha : BSl w va fr) (hf : BSl w vf fr) (hfl : fr.length ≤ 1000000000)
    (hm : tmuch tv ≤ 20000) (hT : Tabs w) : Calls Tryz.prog 9 #[.agg ci, va, .agg cv, vf, .pointer (some ⟨L, 0, none⟩)] w (Tol7 w base X B L tt cc) := by
  by_cases hc : chkf tv 0 = 0
  · obtain ⟨s, hs, hth⟩ := thr_ex7 hv hc hm
    exact told_good w base X B L tt cc h hbs hnx hcc tv s ci cv hi hv va vf fr ha hf hfl hm hc hs hth hT
  · exact told_bad w base X B L tt cc h hbs hnx hcc tv ci cv hi hv va vf fr ha hf hfl hm hc hT
end
section
open Go.RowKit Go
/-! ### Seat: a tree of places, written over in place -/
/-- A seat's cells. -/
def scs (vb vt vv vu : Value) : Array Value := #[vb, vt, .slice none 0 0, .slice none 0 0, vv, vu, .slice none 0 0, .slice none 0 0]
/-- Pointers to seats. -/
def sps (qs : List Nat) : List Value := qs.map fun q => .pointer (some ⟨q, 0, none⟩)
/-- What lies in a seat: rows of bytes, texts, values, the seats under it, and the blocks of each of these. -/
structure Sd where
  vb : Value
  vt : Value
  vv : Value
  vu : Value
  nb : Nat
  nt : Nat
  nv : Nat
  xb : List Value
  xt : List Value
  xv : List Value
  qs : List Nat
  Ms : Nat → Nat → Prop
/-- A seat's own blocks. -/
def Sd.own (d : Sd) (p q : Nat) : Prop := q = p ∨ d.vb.ownBlock = some q ∨ d.vt.ownBlock = some q ∨ d.vv.ownBlock = some q ∨ d.vu.ownBlock = some q
structure Seb (w : World) (p : Nat) (M : Nat → Prop) (d : Sd) : Prop where
  fp : w.heap[p]? = some (.cells (scs d.vb d.vt d.vv d.vu) 59 (0, 0))
  fb : w.ownsRow 0 5 1 d.vb d.nb d.xb
  ft : w.ownsRow 0 9 1 d.vt d.nt d.xt
  fv : w.ownsRow 0 65 13 d.vv d.nv d.xv
  fu : w.ownsRow 0 52 1 d.vu d.qs.length (sps d.qs)
  mo : ∀ q, d.own p q → M q
  ms : ∀ i, i < d.qs.length → ∀ x, d.Ms i x → M x ∧ ¬ d.own p x
  md : ∀ i j, i < d.qs.length → j < d.qs.length → i ≠ j → ∀ x, d.Ms i x → ¬ d.Ms j x
  lt : ∀ x, M x → x < w.heap.size
/-- A seat and all beneath it, within these blocks. -/
inductive Sea (w : World) : Nat → (Nat → Prop) → Prop
  | mk (p : Nat) (M : Nat → Prop) (d : Sd) (h : Seb w p M d) (hc : ∀ (i q : Nat), d.qs[i]? = some q → Sea w q (d.Ms i)) : Sea w p M
theorem Seb.kp {w w' : World} {p : Nat} {M S : Nat → Prop} {d : Sd} (h : Seb w p M d) (hk : Kp S w w') (hs : ∀ q, d.own p q → ¬ S q) : Seb w' p M d :=
  ⟨(hk.block p (blk_lt h.fp) (hs p (.inl rfl))).trans h.fp, hk.owns h.fb (fun k e => hs k (.inr (.inl e))), hk.owns h.ft (fun k e => hs k (.inr (.inr (.inl e)))), hk.owns h.fv (fun k e => hs k (.inr (.inr (.inr (.inl e))))), hk.owns h.fu (fun k e => hs k (.inr (.inr (.inr (.inr e))))), h.mo, h.ms, h.md, fun x hx => Nat.lt_of_lt_of_le (h.lt x hx) hk.size⟩
theorem Sea.kp {w w' : World} {p : Nat} {M S : Nat → Prop} (h : Sea w p M) (hk : Kp S w w') : (∀ q, M q → ¬ S q) → Sea w' p M := by
  induction h with
  | mk p M d h hc ih =>
    intro hs
    refine Sea.mk p M d (h.kp hk (fun q hq => hs q (h.mo q hq))) fun i q hq => ih i q hq fun x hx => hs x (h.ms i (List.getElem?_eq_some_iff.1 hq).1 x hx).1
theorem Sea.lt {w : World} {p : Nat} {M : Nat → Prop} (h : Sea w p M) : ∀ x, M x → x < w.heap.size := by
  cases h with
  | mk _ _ d h hc => exact h.lt
theorem Sea.next {w w' : World} {p : Nat} {M : Nat → Prop} (h : Sea w p M) (hb : Below w.heap.size w w') : Sea w' p M := h.kp (Kp.of_below (S := fun _ => False) hb) (fun _ _ h => h)
/-- A new seat. -/
theorem Sea.new (w : World) : Sea (w.alloc (.cells (scs (.slice none 0 0) (.slice none 0 0) (.slice none 0 0) (.slice none 0 0)) 59)) w.heap.size (fun q => q = w.heap.size) := by
  refine Sea.mk _ _ ⟨.slice none 0 0, .slice none 0 0, .slice none 0 0, .slice none 0 0, 0, 0, 0, [], [], [], [], fun _ _ => False⟩ ⟨heap_alloc_new w _, World.ownsRow_nil _ _ _ _, World.ownsRow_nil _ _ _ _, World.ownsRow_nil _ _ _ _, World.ownsRow_nil _ _ _ _, ?_, fun i hi => by simp at hi, fun i j hi => by simp at hi, fun x hx => by rw [hx]; simp⟩ (fun i q hq => by simp at hq)
  rintro q (h | h | h | h | h)
  · exact h
  · cases h
  · cases h
  · cases h
  · cases h
/-- A value in memory, all of it within these blocks. -/
def Tiw (w : World) (M : Nat → Prop) (t : Tv) (cs : Array Value) : Prop := ∀ w2, Kp (fun q => ¬ M q) w w2 → Tin w2 t cs
theorem Tiw.tin {w : World} {M : Nat → Prop} {t : Tv} {cs : Array Value} (h : Tiw w M t cs) : Tin w t cs := h w (Kp.refl _ _)
theorem Tiw.kp {w w' : World} {M S : Nat → Prop} {t : Tv} {cs : Array Value} (h : Tiw w M t cs) (hk : Kp S w w') (hs : ∀ q, M q → ¬ S q) : Tiw w' M t cs := fun w2 h2 => h w2 ((hk.mono (fun k _ hS hM => hs k hM hS)).trans h2 (fun _ _ h => h))
theorem Tiw.mono {w : World} {M M' : Nat → Prop} {t : Tv} {cs : Array Value} (h : Tiw w M t cs) (hm : ∀ q, M q → M' q) : Tiw w M' t cs := fun w2 h2 => h w2 (h2.mono (fun _ _ h1 h3 => h1 (hm _ h3)))
set_option maxRecDepth 1000000 in
/-- 'append(l, x...)' of texts; where it lies. -/
theorem append_ssl_at {ops : Array Oper} {rest : List Oper} {o : Oper} {a : Act} {Q : Exit → Act → World → Prop} {w : World} (hgd : o.guard = none) (s x : Operand)
    (ho : o.op = .call { callee := .builtin .append, args := #[s, x], argTypes := #[53, 53] }) (B : Nat) (v : Value) (n : Nat) (ds : List ByteArray) (hs : a.eval s = v) (hown : w.ownsRow B 9 1 v n (sv ds))
    (u : Value) (es : List ByteArray) (hx : a.eval x = u) (hu : SSl w u es) (hlen : n + es.length < 1099511627776) (hbase : B ≤ w.heap.size)
    (h : ∀ v' w', w'.ownsRow B 9 1 v' (n + es.length) (sv (ds ++ es)) → w.grownBy w' v.ownBlock → (v'.ownBlock = v.ownBlock ∨ v'.ownBlock = some w.heap.size) → wpList Tryz.prog ops Q rest (a.put o.dst v') w') : wpList Tryz.prog ops Q (o :: rest) a w := by
  obtain ⟨i, hi, hz0, hz1, hz2⟩ := info9_ex
  obtain ⟨⟨ad, cap, rfl, hn, hc⟩, hmax, _⟩ := hu
  cases ad with
  | none =>
    have hc0 := hn.2 rfl
    have he : es = [] := List.length_eq_zero_iff.1 (by omega)
    subst hc0
    subst he
    refine wpList_append_own_none hgd s x 53 ho B 9 i 1 Tryz.underlying53 hi v n (sv ds) hs hown hx (h v w ?_ ⟨rfl, rfl, rfl, Nat.le_refl _, fun _ _ _ => rfl⟩ (.inl rfl))
    simpa using hown
  | some ad =>
    refine wpList_append_own_at w hgd s x 53 ho B 9 i (.string ⟨#[]⟩) 1 16 Tryz.underlying53 hi hz0 hz1 hz2 rfl (by decide) v n (sv ds) hs hown ad es.length cap (sv es) hx (by rw [sv_len, Nat.mul_one]) (fun j u hu => ?_) (sv_one es) (by unfold maxLen; omega) (by omega) hbase fun v' w' h1 h2 _ h4 => h v' w' (by rw [sv_app]; exact h1) h2 h4
    have hjl : j < es.length := by
      rcases Nat.lt_or_ge j es.length with h | h
      · exact h
      · rw [List.getElem?_eq_none (by rw [sv_len]; exact h)] at hu
        cases hu
    rcases hc with hc | ⟨b, off, e, hc⟩
    · rw [hc] at hjl
      simp at hjl
    · injection e with e
      subst e
      rw [sv_get (List.getElem?_eq_getElem hjl)] at hu
      injection hu with hu
      rw [addr_add, hc j _ (List.getElem?_eq_getElem hjl), hu]
end
section
open Go.RowKit Go
set_option maxRecDepth 1000000 in
set_option maxHeartbeats 1000000 in
/-- Seat.Bytes. -/
theorem sbytes_any (w : World) (p : Nat) (vb vt vv vu : Value) (nb : Nat) (xb : List Value) (hp : w.heap[p]? = some (.cells (scs vb vt vv vu) 59 (0, 0))) (hb : w.ownsRow 0 5 1 vb nb xb) (v : Value) (ys : List Nat) (hv : BSl w v ys) (hl : ys.length ≤ 140737488351232) :
    Calls Tryz.prog 37 #[.pointer (some ⟨p, 0, none⟩), v] w fun e w' => ∃ vb', e = .returned vb' ∧ w'.heap[p]? = some (.cells (scs vb' vt vv vu) 59 (0, 0)) ∧ w'.ownsRow 0 5 1 vb' ys.length (bv ys) ∧ Kp (fun q => q = p ∨ vb.ownBlock = some q) w w' ∧ ∀ q, vb'.ownBlock = some q → vb.ownBlock = some q ∨ w.heap.size ≤ q := by
  obtain ⟨a, c, rfl, _⟩ := own_form hb
  have HP := hide hp
  have HB := hide hb
  have HV := hide hv
  have HL := hide hl
  have HZ := hide (own_zero hb)
  have q0 : w.cell? ⟨p, 0, none⟩ = some (.slice a nb c) := blk_cell (j := 0) hp rfl
  obtain ⟨⟨av, cv, rfl, _, _⟩, _, _⟩ := hv
  clear hp hb hl
  go_enter Tryz.func37, Tryz.ntmps37
  go_wp2_with (at_builtin; refine append_bsl_at rfl _ _ rfl 0 _ 0 [] rfl HZ.out _ ys rfl HV.out ?b1 ?b2 ?_)
  case b1 => have := HL.out; omega
  case b2 => omega
  intro v2 w2 ho2 hg2 hn2
  have hk : Kp (fun q => (Value.slice a nb c).ownBlock = some q) w w2 := (Kp.refl _ _).grown hg2 (fun k _ h => by rw [own_blk a nb 0 c c]; exact h)
  have HPP := hide ((hk.block p (blk_lt HP.out) (fun e => own_not HB.out HP.out (by decide) e)).trans HP.out)
  have HN : Hid (∀ q, v2.ownBlock = some q → (Value.slice a nb c).ownBlock = some q ∨ w.heap.size ≤ q) := fun q hq => by
    rcases hn2 with e | e
    · left
      rw [own_blk a nb 0 c c, ← e]
      exact hq
    · right
      rw [e] at hq
      injection hq with hq
      omega
  have HKF : Hid (Kp (fun q => q = p ∨ (Value.slice a nb c).ownBlock = some q) w (w2.setCell ⟨p, 0, none⟩ v2)) := (hk.mono (fun _ _ h => .inr h)).setCell _ _ (fun _ => .inl rfl)
  have HBF : Hid ((w2.setCell ⟨p, 0, none⟩ v2).heap[p]? = some (.cells (scs v2 vt vv vu) 59 (0, 0))) := blk_set 0 v2 HPP.out
  have HOF : Hid ((w2.setCell ⟨p, 0, none⟩ v2).ownsRow 0 5 1 v2 ys.length (bv ys)) := ((Kp.refl (fun q => q = p) w2).setCell _ _ (fun _ => rfl)).owns (by simpa using ho2) (fun k hk' e => own_not ho2 HPP.out (by decide) (by rw [hk', e]))
  have f0 : w2.frozen? ⟨p, 0, none⟩ = false := blk_frozen 0 HPP.out
  have q2 : w2.cell? ⟨p, 0, none⟩ = some (.slice a nb c) := blk_cell (j := 0) HPP.out rfl
  have q3 : (w2.setCell ⟨p, 0, none⟩ v2).cell? ⟨p, 0, none⟩ = some v2 := blk_cell (j := 0) HBF.out rfl
  obtain ⟨a2, c2, e2, _⟩ := own_form ho2
  subst e2
  clear hk hg2 hn2 ho2 q0
  go_wp2_with fail
  go_ret
  exact ⟨_, rfl, HBF.out, HOF.out, HKF.out, HN.out⟩
set_option maxRecDepth 1000000 in
set_option maxHeartbeats 1000000 in
/-- Seat.Texts. -/
theorem stexts_any (w : World) (p : Nat) (vb vt vv vu : Value) (nt : Nat) (xt : List Value) (hp : w.heap[p]? = some (.cells (scs vb vt vv vu) 59 (0, 0))) (hb : w.ownsRow 0 9 1 vt nt xt) (v : Value) (ks : List ByteArray) (hv : SSl w v ks) (hl : ks.length ≤ 6000000) :
    Calls Tryz.prog 38 #[.pointer (some ⟨p, 0, none⟩), v] w fun e w' => ∃ vt', e = .returned vt' ∧ w'.heap[p]? = some (.cells (scs vb vt' vv vu) 59 (0, 0)) ∧ w'.ownsRow 0 9 1 vt' ks.length (sv ks) ∧ Kp (fun q => q = p ∨ vt.ownBlock = some q) w w' ∧ ∀ q, vt'.ownBlock = some q → vt.ownBlock = some q ∨ w.heap.size ≤ q := by
  obtain ⟨a, c, rfl, _⟩ := own_form hb
  have HP := hide hp
  have HB := hide hb
  have HV := hide hv
  have HL := hide hl
  have HZ := hide (own_zero hb)
  have q0 : w.cell? ⟨p, 1, none⟩ = some (.slice a nt c) := blk_cell (j := 1) hp rfl
  obtain ⟨⟨av, cv, rfl, _, _⟩, _, _⟩ := hv
  clear hp hb hl
  go_enter Tryz.func38, Tryz.ntmps38
  go_wp2_with (at_builtin; refine append_ssl_at rfl _ _ rfl 0 _ 0 [] rfl HZ.out _ ks rfl HV.out ?b1 ?b2 ?_)
  case b1 => have := HL.out; omega
  case b2 => omega
  intro v2 w2 ho2 hg2 hn2
  have hk : Kp (fun q => (Value.slice a nt c).ownBlock = some q) w w2 := (Kp.refl _ _).grown hg2 (fun k _ h => by rw [own_blk a nt 0 c c]; exact h)
  have HPP := hide ((hk.block p (blk_lt HP.out) (fun e => own_not HB.out HP.out (by decide) e)).trans HP.out)
  have HN : Hid (∀ q, v2.ownBlock = some q → (Value.slice a nt c).ownBlock = some q ∨ w.heap.size ≤ q) := fun q hq => by
    rcases hn2 with e | e
    · left
      rw [own_blk a nt 0 c c, ← e]
      exact hq
    · right
      rw [e] at hq
      injection hq with hq
      omega
  have HKF : Hid (Kp (fun q => q = p ∨ (Value.slice a nt c).ownBlock = some q) w (w2.setCell ⟨p, 1, none⟩ v2)) := (hk.mono (fun _ _ h => .inr h)).setCell _ _ (fun _ => .inl rfl)
  have HBF : Hid ((w2.setCell ⟨p, 1, none⟩ v2).heap[p]? = some (.cells (scs vb v2 vv vu) 59 (0, 0))) := blk_set 1 v2 HPP.out
  have HOF : Hid ((w2.setCell ⟨p, 1, none⟩ v2).ownsRow 0 9 1 v2 ks.length (sv ks)) := ((Kp.refl (fun q => q = p) w2).setCell _ _ (fun _ => rfl)).owns (by simpa using ho2) (fun k hk' e => own_not ho2 HPP.out (by decide) (by rw [hk', e]))
  have f0 : w2.frozen? ⟨p, 1, none⟩ = false := blk_frozen 1 HPP.out
  have q2 : w2.cell? ⟨p, 1, none⟩ = some (.slice a nt c) := blk_cell (j := 1) HPP.out rfl
  have q3 : (w2.setCell ⟨p, 1, none⟩ v2).cell? ⟨p, 1, none⟩ = some v2 := blk_cell (j := 1) HBF.out rfl
  obtain ⟨a2, c2, e2, _⟩ := own_form ho2
  subst e2
  clear hk hg2 hn2 ho2 q0
  go_wp2_with fail
  go_ret
  exact ⟨_, rfl, HBF.out, HOF.out, HKF.out, HN.out⟩
end
section
open Go.RowKit Go
/-! ### Seat.Values: what stands in its loop -/
/-- The blocks that Values may write: the seat's cells, its row of values, its row of seats, and all beneath. -/
def Sd.inn (d : Sd) (p q : Nat) : Prop := q = p ∨ d.vv.ownBlock = some q ∨ d.vu.ownBlock = some q ∨ ∃ i, i < d.qs.length ∧ d.Ms i q
/-- So many values were laid: their cells are L. -/
structure Svs (w wx : World) (p : Nat) (d0 d : Sd) (ts : List Tv) (L : List (Array Value)) : Prop where
  k : Kp (d0.inn p) w wx
  fp : wx.heap[p]? = some (.cells (scs d0.vb d0.vt d.vv d.vu) 59 (0, 0))
  fv : wx.ownsRow 0 65 13 d.vv L.length (vfl L)
  fu : wx.ownsRow 0 52 1 d.vu d.qs.length (sps d.qs)
  ms : ∀ i, i < d.qs.length → ∀ x, d.Ms i x → x ≠ p ∧ d.vv.ownBlock ≠ some x ∧ d.vu.ownBlock ≠ some x
  md : ∀ i j, i < d.qs.length → j < d.qs.length → i ≠ j → ∀ x, d.Ms i x → ¬ d.Ms j x
  nw : ∀ x, d.inn p x → d0.inn p x ∨ w.heap.size ≤ x
  c : ∀ (i q : Nat), d.qs[i]? = some q → Sea wx q (d.Ms i)
  s : ∀ c ∈ L, c.size = 13
  t : ∀ (i : Nat) (u : Tv) (c : Array Value), ts[i]? = some u → L[i]? = some c → i < d.qs.length ∧ Tiw wx (d.Ms i) u c
  q : L.length ≤ d.qs.length
  z : w.heap.size ≤ wx.heap.size
theorem Svs.lt {w wx : World} {p : Nat} {d0 d : Sd} {ts : List Tv} {L : List (Array Value)} (h : Svs w wx p d0 d ts L) {i x : Nat} (hi : i < d.qs.length) (hx : d.Ms i x) : x < wx.heap.size := (h.c i _ (List.getElem?_eq_getElem hi)).lt x hx
/-- At the beginning: no values. -/
theorem Svs.start {w : World} {p : Nat} {M : Nat → Prop} {d : Sd} {ts : List Tv} (h : Seb w p M d) (hc : ∀ (i q : Nat), d.qs[i]? = some q → Sea w q (d.Ms i)) {a : Option Addr} {n c : Nat} (hv : d.vv = .slice a n c) : Svs w (w.setCell ⟨p, 4, none⟩ (.slice a 0 c)) p d { d with vv := .slice a 0 c, nv := 0, xv := [] } ts [] := by
  have hk : Kp (fun q => q = p) w (w.setCell ⟨p, 4, none⟩ (.slice a 0 c)) := (Kp.refl _ _).setCell _ _ (fun _ => rfl)
  have hvb : (Value.slice a 0 c).ownBlock = d.vv.ownBlock := by rw [hv]; exact own_blk a 0 n c c
  refine ⟨hk.mono (fun q _ e => .inl e), blk_set 4 _ h.fp, hk.owns ?_ (fun q hq e => own_not h.fv h.fp (by decide) (by rw [← hvb, hq, e])), hk.owns h.fu (fun q hq e => own_not h.fu h.fp (by decide) (by rw [hq, e])), fun i hi x hx => ?_, h.md, fun x hx => .inl ?_, fun i q hq => (hc i q hq).kp hk (fun x hx e => (h.ms i (List.getElem?_eq_some_iff.1 hq).1 x hx).2 (.inl e)), fun c hc => by simp at hc, fun i u c _ hc => by simp at hc, Nat.zero_le _, hk.size⟩
  · have h0 := h.fv
    rw [hv] at h0
    rcases h0.2 with ⟨e, h1⟩ | ⟨g, c', cur, e, hg, hb, h1, h2, h3, h4⟩
    · injection e with e1 e2 e3
      subst e1 e3
      exact World.ownsRow_nil _ _ _ _
    · injection e with e1 e2 e3
      subst e1 e3
      exact ⟨by simp [vfl], .inr ⟨g, c, cur, rfl, hg, hb, Nat.zero_le _, h2, h3, by simp [vfl]⟩⟩
  · have h1 := (h.ms i hi x hx).2
    refine ⟨fun e => h1 (.inl e), fun e => h1 (.inr (.inr (.inr (.inl ?_)))), fun e => h1 (.inr (.inr (.inr (.inr e))))⟩
    rw [← hvb]
    exact e
  · rcases hx with e | e | e | e
    · exact .inl e
    · refine .inr (.inl ?_)
      rw [← hvb]
      exact e
    · exact .inr (.inr (.inl e))
    · exact .inr (.inr (.inr e))
/-- Nothing of the loop's was written. -/
theorem Svs.next {w wx wy : World} {p : Nat} {d0 d : Sd} {ts : List Tv} {L : List (Array Value)} (h : Svs w wx p d0 d ts L) (hb : Below wx.heap.size wx wy) : Svs w wy p d0 d ts L := by
  have hk : Kp (fun _ => False) wx wy := Kp.of_below hb
  exact ⟨h.k.trans (Kp.of_below (S := d0.inn p) hb) (fun _ _ e => e), (hk.block p (blk_lt h.fp) (fun e => e)).trans h.fp, hk.owns h.fv (fun _ _ e => e), hk.owns h.fu (fun _ _ e => e), h.ms, h.md, h.nw, fun i q hq => (h.c i q hq).kp hk (fun _ _ e => e), h.s, fun i u c hu hc => ⟨(h.t i u c hu hc).1, (h.t i u c hu hc).2.kp hk (fun _ _ e => e)⟩, h.q, Nat.le_trans h.z hb.size⟩
end
section
open Go.RowKit Go
/-- One seat more under it. -/
theorem Svs.more {w wx w2 : World} {p : Nat} {d0 d : Sd} {ts : List Tv} {L : List (Array Value)} {vu' : Value} (h : Svs w wx p d0 d ts L)
    (hk : Kp (fun q => d.vu.ownBlock = some q) (wx.alloc (.cells (scs (.slice none 0 0) (.slice none 0 0) (.slice none 0 0) (.slice none 0 0)) 59)) w2)
    (ho : w2.ownsRow 0 52 1 vu' (d.qs.length + 1) (sps (d.qs ++ [wx.heap.size])))
    (hn : ∀ q, vu'.ownBlock = some q → d.vu.ownBlock = some q ∨ wx.heap.size + 1 ≤ q) :
    Svs w (w2.setCell ⟨p, 5, none⟩ vu') p d0 { d with vu := vu', qs := d.qs ++ [wx.heap.size], Ms := fun j x => if j = d.qs.length then x = wx.heap.size else d.Ms j x } ts L := by
  have hz1 : (wx.alloc (.cells (scs (.slice none 0 0) (.slice none 0 0) (.slice none 0 0) (.slice none 0 0)) 59)).heap.size = wx.heap.size + 1 := by simp
  have hnew := Sea.new wx
  have hb1 := below_alloc4 wx (.cells (scs (.slice none 0 0) (.slice none 0 0) (.slice none 0 0) (.slice none 0 0)) 59)
  have k02 : Kp (fun q => d.vu.ownBlock = some q) wx w2 := (Kp.of_below (S := fun q => d.vu.ownBlock = some q) hb1).trans hk (fun _ _ e => e)
  have fp2 := (k02.block p (blk_lt h.fp) (fun e => own_not h.fu h.fp (by decide) e)).trans h.fp
  have k23 : Kp (fun q => q = p) w2 (w2.setCell ⟨p, 5, none⟩ vu') := (Kp.refl _ _).setCell _ _ (fun _ => rfl)
  have k03 : Kp (fun q => q = p ∨ d.vu.ownBlock = some q) wx (w2.setCell ⟨p, 5, none⟩ vu') := (k02.mono (fun _ _ e => .inr e)).trans k23 (fun _ _ e => .inl e)
  have hpl := blk_lt h.fp
  have hvl : ∀ q, d.vv.ownBlock = some q → q < wx.heap.size := fun q hq => (h.fv.lt q hq).2
  have hul : ∀ q, d.vu.ownBlock = some q → q < wx.heap.size := fun q hq => (h.fu.lt q hq).2
  have hwz := h.z
  refine ⟨h.k.trans k03 (fun q hq e => ?_), blk_set 5 vu' fp2, k03.owns h.fv (fun q hq e => ?_), ?_, fun i hi x hx => ?_, fun i j hi hj hij x hx hy => ?_, fun x hx => ?_, fun i q hq => ?_, h.s, fun i u c hu hc => ?_, ?_, Nat.le_trans h.z k03.size⟩
  · rcases e with e | e
    · exact .inl e
    · exact (h.nw q (.inr (.inr (.inl e)))).resolve_right (by omega)
  · rcases e with e | e
    · exact own_not h.fv h.fp (by decide) (by rw [hq, e])
    · exact own_apart h.fv h.fu (by decide) hq e
  · show World.ownsRow _ _ _ _ _ (d.qs ++ [wx.heap.size]).length _
    rw [List.length_append, List.length_singleton]
    exact k23.owns ho (fun q hq e => own_not ho fp2 (by decide) (by rw [hq, e]))
  · have hi' : i < d.qs.length + 1 := by simpa using hi
    have hx' : if i = d.qs.length then x = wx.heap.size else d.Ms i x := hx
    by_cases e : i = d.qs.length
    · rw [if_pos e] at hx'
      refine ⟨by omega, fun e2 => by have := hvl x e2; omega, fun e2 => ?_⟩
      rcases hn x e2 with h3 | h3
      · have := hul x h3
        omega
      · omega
    · rw [if_neg e] at hx'
      have hil : i < d.qs.length := by omega
      have h1 := h.ms i hil x hx'
      refine ⟨h1.1, h1.2.1, fun e2 => ?_⟩
      rcases hn x e2 with h3 | h3
      · exact h1.2.2 h3
      · have := h.lt hil hx'
        omega
  · have hi' : i < d.qs.length + 1 := by simpa using hi
    have hj' : j < d.qs.length + 1 := by simpa using hj
    have hx' : if i = d.qs.length then x = wx.heap.size else d.Ms i x := hx
    have hy' : if j = d.qs.length then x = wx.heap.size else d.Ms j x := hy
    by_cases e : i = d.qs.length
    · rw [if_pos e] at hx'
      rw [if_neg (by omega)] at hy'
      have := h.lt (show j < d.qs.length by omega) hy'
      omega
    · rw [if_neg e] at hx'
      by_cases e2 : j = d.qs.length
      · rw [if_pos e2] at hy'
        have := h.lt (show i < d.qs.length by omega) hx'
        omega
      · rw [if_neg e2] at hy'
        exact h.md i j (by omega) (by omega) hij x hx' hy'
  · rcases hx with e | e | e | ⟨i, hi, e⟩
    · exact .inl (.inl e)
    · exact h.nw x (.inr (.inl e))
    · rcases hn x e with h3 | h3
      · exact h.nw x (.inr (.inr (.inl h3)))
      · exact .inr (by omega)
    · have hi' : i < d.qs.length + 1 := by simpa using hi
      have hx' : if i = d.qs.length then x = wx.heap.size else d.Ms i x := e
      by_cases e2 : i = d.qs.length
      · rw [if_pos e2] at hx'
        exact .inr (by omega)
      · rw [if_neg e2] at hx'
        exact h.nw x (.inr (.inr (.inr ⟨i, by omega, hx'⟩)))
  · have hq' : (d.qs ++ [wx.heap.size])[i]? = some q := hq
    show Sea _ q (fun x => if i = d.qs.length then x = wx.heap.size else d.Ms i x)
    by_cases e : i < d.qs.length
    · rw [List.getElem?_append_left e] at hq'
      have e2 : (fun x => if i = d.qs.length then x = wx.heap.size else d.Ms i x) = d.Ms i := by
        funext x
        rw [if_neg (by omega)]
      rw [e2]
      exact (h.c i q hq').kp k03 (fun x hx e3 => by
        have h1 := h.ms i e x hx
        rcases e3 with e3 | e3
        · exact h1.1 e3
        · exact h1.2.2 e3)
    · have hl := (List.getElem?_eq_some_iff.1 hq').1
      rw [List.length_append, List.length_singleton] at hl
      have e2 : i = d.qs.length := by omega
      subst e2
      rw [List.getElem?_append_right (Nat.le_refl _), Nat.sub_self] at hq'
      injection hq' with hq'
      subst hq'
      have e3 : (fun x => if d.qs.length = d.qs.length then x = wx.heap.size else d.Ms d.qs.length x) = (fun x => x = wx.heap.size) := by
        funext x
        rw [if_pos rfl]
      rw [e3]
      exact (hnew.kp hk (fun x hx e4 => by have := hul x e4; omega)).kp k23 (fun x hx e4 => by omega)
  · obtain ⟨h1, h2⟩ := h.t i u c hu hc
    refine ⟨by show i < (d.qs ++ [wx.heap.size]).length; rw [List.length_append, List.length_singleton]; omega, ?_⟩
    show Tiw _ (fun x => if i = d.qs.length then x = wx.heap.size else d.Ms i x) u c
    have e2 : (fun x => if i = d.qs.length then x = wx.heap.size else d.Ms i x) = d.Ms i := by
      funext x
      rw [if_neg (by omega)]
    rw [e2]
    exact h2.kp k03 (fun x hx e3 => by
      have h1 := h.ms i h1 x hx
      rcases e3 with e3 | e3
      · exact h1.1 e3
      · exact h1.2.2 e3)
  · show L.length ≤ (d.qs ++ [wx.heap.size]).length
    rw [List.length_append, List.length_singleton]
    have := h.q
    omega
/-- One value more. -/
theorem Svs.take {w wx wz : World} {p : Nat} {d0 d : Sd} {ts : List Tv} {L : List (Array Value)} {vv' : Value} {g : Nat} {M : Nat → Prop} {u : Tv} {c : Array Value} (h : Svs w wx p d0 d ts L) (hi : L.length < d.qs.length) (hg : d.qs[L.length]? = some g) (hu : ts[L.length]? = some u)
    (k : Kp (fun q => d.Ms L.length q ∨ d.vv.ownBlock = some q ∨ q = p) wx wz) (b : wz.heap[p]? = some (.cells (scs d0.vb d0.vt vv' d.vu) 59 (0, 0))) (o : wz.ownsRow 0 65 13 vv' (L.length + 1) (vfl (L ++ [c])))
    (n : ∀ q, vv'.ownBlock = some q → d.vv.ownBlock = some q ∨ wx.heap.size ≤ q) (s : Sea wz g M) (m : ∀ x, M x → d.Ms L.length x ∨ wx.heap.size ≤ x) (tt : Tiw wz M u c) (x : ∀ q, vv'.ownBlock = some q → ¬ M q) (c13 : c.size = 13) (nu : ∀ q, d.vu.ownBlock = some q → ¬ M q) :
    Svs w wz p d0 { d with vv := vv', Ms := fun j y => if j = L.length then M y else d.Ms j y } ts (L ++ [c]) := by
  have hwz := h.z
  have hpl := blk_lt h.fp
  have hvl : ∀ q, d.vv.ownBlock = some q → q < wx.heap.size := fun q hq => (h.fv.lt q hq).2
  have hul : ∀ q, d.vu.ownBlock = some q → q < wx.heap.size := fun q hq => (h.fu.lt q hq).2
  have hms := h.ms L.length hi
  have hMs : ∀ j, j ≠ L.length → (fun y => if j = L.length then M y else d.Ms j y) = d.Ms j := fun j hj => by funext y; rw [if_neg hj]
  have hMi : (fun y => if L.length = L.length then M y else d.Ms L.length y) = M := by funext y; rw [if_pos rfl]
  have oth : ∀ j, j < d.qs.length → j ≠ L.length → ∀ y, d.Ms j y → ¬ (d.Ms L.length y ∨ d.vv.ownBlock = some y ∨ y = p) := fun j hj hne y hy e => by
    have h1 := h.ms j hj y hy
    rcases e with e | e | e
    · exact h.md j L.length hj hi hne y hy e
    · exact h1.2.1 e
    · exact h1.1 e
  refine ⟨h.k.trans k (fun q hq e => ?_), b, ?_, k.owns h.fu (fun q hq e => ?_), fun i hi' y hy => ?_, fun i j hi' hj' hij y hy1 hy2 => ?_, fun y hy => ?_, fun i q hq => ?_, fun e he => ?_, fun i v e hv he => ?_, ?_, Nat.le_trans h.z k.size⟩
  · rcases e with e | e | e
    · exact (h.nw q (.inr (.inr (.inr ⟨_, hi, e⟩)))).resolve_right (by omega)
    · exact (h.nw q (.inr (.inl e))).resolve_right (by omega)
    · exact .inl e
  · rw [List.length_append, List.length_singleton]
    exact o
  · rcases e with e | e | e
    · exact (hms q e).2.2 hq
    · exact own_apart h.fu h.fv (by decide) hq e
    · exact own_not h.fu h.fp (by decide) (by rw [hq, e])
  · have hy' : if i = L.length then M y else d.Ms i y := hy
    by_cases e : i = L.length
    · rw [if_pos e] at hy'
      refine ⟨fun e2 => ?_, fun e2 => x y e2 hy', fun e2 => nu y e2 hy'⟩
      rcases m y hy' with h1 | h1
      · exact (hms y h1).1 e2
      · omega
    · rw [if_neg e] at hy'
      have h1 := h.ms i hi' y hy'
      refine ⟨h1.1, fun e2 => ?_, h1.2.2⟩
      rcases n y e2 with h3 | h3
      · exact h1.2.1 h3
      · have := h.lt hi' hy'
        omega
  · have a1 : if i = L.length then M y else d.Ms i y := hy1
    have a2 : if j = L.length then M y else d.Ms j y := hy2
    by_cases e : i = L.length
    · rw [if_pos e] at a1
      rw [if_neg (by omega)] at a2
      rcases m y a1 with h1 | h1
      · exact h.md j L.length hj' hi (by omega) y a2 h1
      · have := h.lt hj' a2
        omega
    · rw [if_neg e] at a1
      by_cases e2 : j = L.length
      · rw [if_pos e2] at a2
        rcases m y a2 with h1 | h1
        · exact h.md i L.length hi' hi e y a1 h1
        · have := h.lt hi' a1
          omega
      · rw [if_neg e2] at a2
        exact h.md i j hi' hj' hij y a1 a2
  · rcases hy with e | e | e | ⟨i, hi', e⟩
    · exact .inl (.inl e)
    · rcases n y e with h3 | h3
      · exact h.nw y (.inr (.inl h3))
      · exact .inr (by omega)
    · exact h.nw y (.inr (.inr (.inl e)))
    · have hy' : if i = L.length then M y else d.Ms i y := e
      by_cases e2 : i = L.length
      · rw [if_pos e2] at hy'
        rcases m y hy' with h1 | h1
        · exact h.nw y (.inr (.inr (.inr ⟨_, hi, h1⟩)))
        · exact .inr (by omega)
      · rw [if_neg e2] at hy'
        exact h.nw y (.inr (.inr (.inr ⟨i, hi', hy'⟩)))
  · have hl := (List.getElem?_eq_some_iff.1 hq).1
    show Sea _ q (fun y => if i = L.length then M y else d.Ms i y)
    by_cases e : i = L.length
    · subst e
      have e2 : g = q := Option.some.inj (hg.symm.trans hq)
      subst e2
      rw [hMi]
      exact s
    · rw [hMs i e]
      exact (h.c i q hq).kp k (fun y hy => oth i hl e y hy)
  · rcases List.mem_append.1 he with he | he
    · exact h.s e he
    · rw [List.mem_singleton.1 he]
      exact c13
  · have hl := (List.getElem?_eq_some_iff.1 he).1
    rw [List.length_append, List.length_singleton] at hl
    show i < d.qs.length ∧ Tiw _ (fun y => if i = L.length then M y else d.Ms i y) v e
    by_cases e1 : i < L.length
    · rw [List.getElem?_append_left e1] at he
      obtain ⟨h1, h2⟩ := h.t i v e hv he
      refine ⟨h1, ?_⟩
      rw [hMs i (by omega)]
      exact h2.kp k (fun y hy => oth i h1 (by omega) y hy)
    · have e2 : i = L.length := by omega
      subst e2
      rw [List.getElem?_append_right (Nat.le_refl _), Nat.sub_self] at he
      injection he with he
      subst he
      have e3 : u = v := Option.some.inj (hu.symm.trans hv)
      subst e3
      refine ⟨hi, ?_⟩
      rw [hMi]
      exact tt
  · rw [List.length_append, List.length_singleton]
    exact hi
end
section
open Go.RowKit Go
/-- The value was told, the row has one more, both were written. -/
theorem Svs.put {w wd wy w3 : World} {p : Nat} {d0 d : Sd} {ts : List Tv} {L : List (Array Value)} {g gi c5 : Nat} {M : Nat → Prop} {u : Tv} {c cur : Array Value} (h : Svs w wd p d0 d ts L) (hi : L.length < d.qs.length) (hg : d.qs[L.length]? = some g) (hu : ts[L.length]? = some u)
    (k : Kp (d.Ms L.length) wd wy) (s : Sea wy g M) (m : ∀ x, M x → d.Ms L.length x ∨ wd.heap.size ≤ x) (tt : Tiw wy M u c) (c13 : c.size = 13)
    (hk : Kp (fun q => d.vv.ownBlock = some q) wy w3) (ho : w3.ownsRow 0 65 13 (.slice (some ⟨gi, 0, none⟩) (L.length + 1) c5) (L.length + 1) (vfl L ++ zv.toList)) (hn : d.vv.ownBlock = some gi ∨ gi = wy.heap.size) (hcur : w3.heap[gi]? = some (.cells cur 65 (0, 0))) :
    Svs w ((w3.setRow gi (splice cur.toList (L.length * 13) c.toList).toArray).setCell ⟨p, 4, none⟩ (.slice (some ⟨gi, 0, none⟩) (L.length + 1) c5)) p d0 { d with vv := .slice (some ⟨gi, 0, none⟩) (L.length + 1) c5, Ms := fun j y => if j = L.length then M y else d.Ms j y } ts (L ++ [c]) := by
  have hpl := blk_lt h.fp
  have hyz := k.size
  have hms := h.ms L.length hi
  have hvl : ∀ q, d.vv.ownBlock = some q → q < wd.heap.size := fun q hq => (h.fv.lt q hq).2
  have hul : ∀ q, d.vu.ownBlock = some q → q < wd.heap.size := fun q hq => (h.fu.lt q hq).2
  have nvp : d.vv.ownBlock ≠ some p := own_not h.fv h.fp (by decide)
  have ngp : gi ≠ p := fun e => by
    rcases hn with h1 | h1
    · exact nvp (by rw [← e]; exact h1)
    · omega
  have nMv : ∀ x, M x → d.vv.ownBlock ≠ some x := fun x hx e => by
    rcases m x hx with h1 | h1
    · exact (hms x h1).2.1 e
    · have := hvl x e
      omega
  have nMg : ∀ x, M x → ¬ x = gi := fun x hx e => by
    rcases hn with h1 | h1
    · exact nMv x hx (by rw [e]; exact h1)
    · have := s.lt x hx
      omega
  have nMp : ∀ x, M x → ¬ x = p := fun x hx e => by
    rcases m x hx with h1 | h1
    · exact (hms x h1).1 e
    · omega
  have k4 := row_kp w3 gi (splice cur.toList (L.length * 13) c.toList).toArray
  have k5 : Kp (fun q => q = p) (w3.setRow gi (splice cur.toList (L.length * 13) c.toList).toArray) ((w3.setRow gi (splice cur.toList (L.length * 13) c.toList).toArray).setCell ⟨p, 4, none⟩ (.slice (some ⟨gi, 0, none⟩) (L.length + 1) c5)) := (Kp.refl _ _).setCell _ _ (fun _ => rfl)
  have fpy := (k.block p hpl (fun e => (hms p e).1 rfl)).trans h.fp
  have fp3 := (hk.block p (blk_lt fpy) nvp).trans fpy
  have fp4 := (k4.block p (blk_lt fp3) (fun e => ngp e.symm)).trans fp3
  refine h.take hi hg hu ?_ (blk_set 4 _ fp4) (k5.owns ?_ (fun q hq e => ?_)) (fun q hq => ?_) (((s.kp hk nMv).kp k4 nMg).kp k5 nMp) m (((tt.kp hk nMv).kp k4 nMg).kp k5 nMp) (fun q hq hM => ?_) c13 (fun q hq hM => ?_)
  · refine (((k.mono (fun q _ e => .inl e)).trans hk (fun q _ e => .inr (.inl e))).trans k4 (fun q hq e => ?_)).trans k5 (fun q _ e => .inr (.inr e))
    rcases hn with h1 | h1
    · exact .inr (.inl (by rw [e]; exact h1))
    · omega
  · have e1 : vfl L ++ zv.toList = vfl (L ++ [zv]) := by rw [vfl_app]; simp [vfl]
    rw [e1] at ho
    have h1 := own_part (c' := c) (j := L.length) ho (by rw [List.length_append, List.length_singleton]) (fun e he => by
      rcases List.mem_append.1 he with he | he
      · exact h.s e he
      · rw [List.mem_singleton.1 he]
        rfl) hcur (by omega) c13 (row_same hcur)
    have e2 : (L ++ [zv]).set L.length c = L ++ [c] := by
      rw [List.set_append_right _ _ (Nat.le_refl _), Nat.sub_self]
      rfl
    rw [e2] at h1
    exact h1
  · have e2 : gi = q := by simpa [Value.ownBlock] using hq
    omega
  · have e2 : gi = q := by simpa [Value.ownBlock] using hq
    subst e2
    rcases hn with h1 | h1
    · exact .inl h1
    · exact .inr (by omega)
  · have e2 : gi = q := by simpa [Value.ownBlock] using hq
    exact nMg q hM e2.symm
  · rcases m q hM with h1 | h1
    · exact (hms q h1).2.2 hq
    · have := hul q hq
      omega
theorem infoS_ex : ∃ i, Tryz.prog.info? 52 = some i ∧ i.zero = some (.pointer none) ∧ i.size = 1 ∧ i.bytes = 8 := by
  have h : (Tryz.prog.info? 52).map (fun i => (i.zero, i.size, i.bytes)) = some (some (.pointer none), 1, 8) := by kernel_rfl
  cases hi : Tryz.prog.info? 52 with
  | none => rw [hi] at h; cases h
  | some i =>
    rw [hi] at h
    injection h with h
    injection h with h1 h2
    injection h2 with h2 h3
    exact ⟨i, rfl, h1, h2, h3⟩
set_option maxRecDepth 1000000 in
/-- 'append(l, p)' of pointers to seats. -/
theorem append_sp {ops : Array Oper} {rest : List Oper} {o : Oper} {a : Act} {Q : Exit → Act → World → Prop} {w : World} (hgd : o.guard = none) (s x : Operand)
    (ho : o.op = .call { callee := .builtin .append, args := #[s, x], argTypes := #[56, 56] }) (v : Value) (n : Nat) (ds : List Value) (hs : a.eval s = v) (hown : w.ownsRow 0 52 1 v n ds)
    (y : Value) (S : Nat) (hS : w.heap.size = S) (hx : a.eval x = .slice (some ⟨S, 0, none⟩) 1 1) (hone : y.oneCell' = true) (hlen : n < 1099511627776)
    (h : ∀ v' w', w'.ownsRow 0 52 1 v' (n + 1) (ds ++ [y]) → (w.alloc (.cells #[y] 52)).grownBy w' v.ownBlock → (v'.ownBlock = v.ownBlock ∨ v'.ownBlock = some (w.heap.size + 1)) → wpList Tryz.prog ops Q rest (a.put o.dst v') w') : wpList Tryz.prog ops Q (o :: rest) a (w.alloc (.cells #[y] 52)) := by
  obtain ⟨i, hi, hz0, hz1, hz2⟩ := infoS_ex
  subst hS
  refine wpList_append_own_at _ hgd s x 56 ho 0 52 i (.pointer none) 1 8 Tryz.underlying56 hi hz0 hz1 hz2 rfl (by decide) v n ds hs (hown.alloc _) ⟨w.heap.size, 0, none⟩ 1 1 [y] hx rfl (cell_one_new _ _ _) ?_ (by unfold maxLen; omega) (by omega) (by simp) fun v' w' h1 h2 _ h4 => h v' w' h1 h2 (by simpa using h4)
  intro u hu
  simp at hu
  rw [hu]
  exact hone
end
end Go.Proofs.YtjlknnpgngaooaaGreatDoor

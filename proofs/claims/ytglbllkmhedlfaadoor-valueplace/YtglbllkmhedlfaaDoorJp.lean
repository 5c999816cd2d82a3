import Derived.Test.YtglbllkmhedlfaaDoorJn
import Derived.Test.YtglbllkmhedlfaaDoorJo
import Derived.Test.YtglbllkmhedlfaaDoorJg
import Derived.Test.YtglbllkmhedlfaaDoorJb
import Derived.Test.YtglbllkmhedlfaaDoorJi
import Derived.Test.YtglbllkmhedlfaaDoorJe
import Derived.Test.YtglbllkmhedlfaaDoorJa
import Derived.Test.YtglbllkmhedlfaaDoorJc
import Derived.Test.YtglbllkmhedlfaaDoorJd
import Derived.Test.YtglbllkmhedlfaaDoorJj
import Derived.Test.YtglbllkmhedlfaaDoorJk
import Derived.Test.YtglbllkmhedlfaaDoorJm
import Derived.Test.YtglbllkmhedlfaaDoorJf
import Derived.Test.YtglbllkmhedlfaaDoorJh
import Derived.Test.YtglbllkmhedlfaaDoorRows
import Derived.Lib.LaidU8T
import Derived.Lib.LaidIn
namespace Go.Proofs.YtglbllkmhedlfaaDoor
section
open Go.RowKit Go
theorem tidy_4 {t : Tv} (h : tidyf t = true) (h4 : t.k ≠ 4) : finb t.b = true := by
  have h1 := (cl_all (tidy_k h).2.2).2.2.2.1
  have e : t.zr.b = t.b := by
    unfold Tv.zr
    repeat' split
    all_goals first | rfl | (exfalso; omega)
  rw [e] at h1
  rw [h1]
  decide
theorem tidy_spare (t : Tv) : tidyf t = (decide (1 ≤ t.k ∧ t.k ≤ 9) && sparef t) := by
  unfold tidyf
  by_cases h : 1 ≤ t.k ∧ t.k ≤ 9
  · rw [sparef_eq h]
  · rw [decide_eq_false h]
    rfl
theorem nest_b (k : Int) (a : Nat) : (((k == 8) || (k == 9)) && decide (1024 ≤ (a : Int))) = decide ((k = 8 ∨ k = 9) ∧ 1024 ≤ a) := by
  rw [Bool.eq_iff_iff]
  simp
  omega
set_option maxRecDepth 1000000 in
set_option maxHeartbeats 4000000 in
theorem one_any (t : Tv) (a : Nat) (w : World) (cs : Array Value) (ht : Tin w t cs) (hm : tmuch t ≤ 100000) : Calls Tryd.prog 37 #[.agg cs, .int .i64 (a : Nat)] w fun e w' => e = .returned (.int .i64 (onef t a : Nat)) ∧ Below w.heap.size w w' := by
  have HTN := hide ht
  have HSZ := hide ht.size13
  have hme := tmuch_eq t
  have HKL : Hid (t.ks.length ≤ 100000) := by show _ ≤ _; omega
  have HOE : Hid (onef t a = if (t.k = 8 ∨ t.k = 9) ∧ 1024 ≤ a then 60 else if tidyf t = false then 61 else if finb t.b = false then 62 else if (badb t.s || t.ks.any badb) = true then 63 else if t.k = 7 ∧ ¬ lok t.l then 64 else if t.k = 9 ∧ ¬ (t.ks.length = t.is.length ∧ t.ks.Nodup) then 65 else 0) := rfl
  generalize onef t a = E at *
  obtain ⟨vy, vk, vi, rfl, hy, hk, hv, hb⟩ := ht.parts
  have HKS := hide hk
  have HBD := hide hb
  obtain ⟨⟨ay, cy, rfl, _, _⟩, _⟩ := hy
  obtain ⟨⟨ak, ck, rfl, _, hkf⟩, hkm, hks⟩ := hk
  obtain ⟨⟨ai, ci, rfl, _, _⟩, _⟩ := hv
  have HKF := hide hkf
  have HKZ := hide hks
  clear ht hb hm hme hkf hks
  have HQ0 : Hid (Aln w (w.alloc (.cells (vcs t (.slice ay t.y.length cy) (.slice ak t.ks.length ck) (.slice ai t.is.length ci)) 38)) (vcs t (.slice ay t.y.length cy) (.slice ak t.ks.length ck) (.slice ai t.is.length ci))) := box_mk0 w _
  have HLK : Hid (∀ wx, Aln w wx (vcs t (.slice ay t.y.length cy) (.slice ak t.ks.length ck) (.slice ai t.is.length ci)) → ∀ j x, (lcs t.l)[j]? = some x → wx.cell? ⟨w.heap.size, 7 + j, none⟩ = some x) := fun wx h => h.lk
  have HC0 : Hid ((vcs t (.slice ay t.y.length cy) (.slice ak t.ks.length ck) (.slice ai t.is.length ci))[0]? = some (.int .i64 t.k)) := rfl
  have HC4 : Hid ((vcs t (.slice ay t.y.length cy) (.slice ak t.ks.length ck) (.slice ai t.is.length ci))[4]? = some (.int .u64 (t.b : Nat))) := rfl
  have HC5 : Hid ((vcs t (.slice ay t.y.length cy) (.slice ak t.ks.length ck) (.slice ai t.is.length ci))[5]? = some (.string t.s)) := rfl
  have HC11 : Hid ((vcs t (.slice ay t.y.length cy) (.slice ak t.ks.length ck) (.slice ai t.is.length ci))[11]? = some (.slice ak t.ks.length ck)) := rfl
  generalize vcs t (.slice ay t.y.length cy) (.slice ak t.ks.length ck) (.slice ai t.is.length ci) = cs at *
  have q0 : (w.alloc (.cells cs 38)).cell? ⟨w.heap.size, 0, none⟩ = some (.int .i64 t.k) := blk_cell HQ0.out.2 HC0.out
  have HB8 : Hid (t.k = 8 ↔ (t.k == 8) = true) := beq_iff_eq.symm
  have HB9 : Hid (t.k = 9 ↔ (t.k == 9) = true) := beq_iff_eq.symm
  go_enter Tryd.func37, Tryd.ntmps37
  go_upto_region 1 with fail
  generalize w.alloc (.cells cs 38) = w1 at *
  go_cut [17] from 6 to 16 (fun xx wx => xx = .bool (((t.k == 8) || (t.k == 9)) && decide (1024 ≤ (a : Int))) ∧ wx = w1)
  case first => as_aux_lemma =>
    rcases Bool.eq_false_or_eq_true (t.k == 8) with g8 | g8
    · as_aux_lemma =>
      go_wp2_with fail
      go_meet
      case rel => exact ⟨by rw [g8]; rfl, rfl⟩
    · rcases Bool.eq_false_or_eq_true (t.k == 9) with g9 | g9
      · as_aux_lemma =>
        go_wp2_with fail
        go_meet
        case rel => exact ⟨by rw [g8, g9]; rfl, rfl⟩
      · as_aux_lemma =>
        go_wp2_with fail
        go_meet
        case rel => exact ⟨by rw [g8, g9]; rfl, rfl⟩
  case rest =>
    obtain ⟨rfl, hww⟩ := hcut
    have hww := hww.symm
    subst hww
    rw [nest_b]
    by_cases h1 : (t.k = 8 ∨ t.k = 9) ∧ 1024 ≤ a
    · as_aux_lemma =>
      have HE : Hid (E = 60) := by show _ = _; rw [HOE.out, if_pos h1]
      rw [decide_eq_true h1]
      clear h1
      go_wp2_with fail
      go_ret
      exact ⟨by rw [HE.out]; rfl, HQ0.out.1⟩
    rw [if_neg h1] at HOE
    rw [decide_eq_false h1]
    clear h1 HB8 HB9
    go_upto_region 3 with fail
    go_cut [30] from 18 to 29 (fun xx wx => xx = .bool (!tidyf t) ∧ Hid (Aln w wx cs))
    case first => as_aux_lemma =>
      have HTS := hide (tidy_spare t)
      by_cases gk1 : t.k < 1
      · as_aux_lemma =>
        rw [decide_eq_false (show ¬ (1 ≤ t.k ∧ t.k ≤ 9) by omega)] at HTS
        go_wp2_with fail
        go_meet
        case rel => exact ⟨by rw [HTS.out]; rfl, HQ0⟩
      · by_cases gk9 : 9 < t.k
        · as_aux_lemma =>
          rw [decide_eq_false (show ¬ (1 ≤ t.k ∧ t.k ≤ 9) by omega)] at HTS
          go_wp2_with fail
          go_meet
          case rel => exact ⟨by rw [HTS.out]; rfl, HQ0⟩
        · as_aux_lemma =>
          rw [decide_eq_true (show (1 ≤ t.k ∧ t.k ≤ 9) by omega)] at HTS
          have HV0 := hide HQ0.out.va
          go_wp2_with (refine wpList_valAt rfl rfl w.heap.size 0 cs rfl HSZ.out HV0.out ?_)
          refine (spare_any t _ cs (HTN.out.move (keep_below HQ0.out.1))).mono ?_
          rintro e w2 ⟨rfl, hb2⟩
          have HQ2 := hide (HQ0.out.next hb2)
          clear hb2
          go_wp2_with fail
          go_meet
          case rel => exact ⟨by rw [HTS.out]; rfl, HQ2⟩
    case rest =>
      obtain ⟨rfl, hcw⟩ := hcut
      obtain ⟨w2, hw2⟩ : ∃ x, x = wc := ⟨_, rfl⟩
      subst hw2
      have HQ2 := hcw
      clear hcw
      clear HQ0 q0
      rcases Bool.eq_false_or_eq_true (tidyf t) with h2 | h2
      case inr => as_aux_lemma =>
        have HE : Hid (E = 61) := by show _ = _; rw [HOE.out, if_pos h2]
        rw [h2]
        clear h2
        go_wp2_with fail
        go_ret
        exact ⟨by rw [HE.out]; rfl, HQ2.out.1⟩
      rw [if_neg (by rw [h2]; simp)] at HOE
      have HTD := hide h2
      rw [h2]
      clear h2
      have p0 : w2.cell? ⟨w.heap.size, 0, none⟩ = some (.int .i64 t.k) := blk_cell HQ2.out.2 HC0.out
      have p4 : w2.cell? ⟨w.heap.size, 4, none⟩ = some (.int .u64 (t.b : Nat)) := blk_cell HQ2.out.2 HC4.out
      go_upto_region 5 with fail
      go_cut [39] from 31 to 38 (fun xx wx => xx = .bool (!finb t.b) ∧ Hid (Aln w wx cs))
      case first => as_aux_lemma =>
        rcases Bool.eq_false_or_eq_true (t.k == 4) with g4 | g4
        · as_aux_lemma =>
          go_wp2_with fail
          refine (isFinite_any t.b HBD.out.b _).mono ?_
          rintro e w3 ⟨rfl, hb3⟩
          have HQ3 := hide (HQ2.out.next hb3)
          clear hb3
          go_wp2_with fail
          go_meet
          case rel => exact ⟨rfl, HQ3⟩
        · as_aux_lemma =>
          have HF : Hid (finb t.b = true) := tidy_4 HTD.out (beq_eq_false_iff_ne.1 g4)
          go_wp2_with fail
          go_meet
          case rel => exact ⟨by rw [HF.out]; rfl, HQ2⟩
      case rest =>
        obtain ⟨rfl, hcw⟩ := hcut
        obtain ⟨w3, hw2⟩ : ∃ x, x = wc := ⟨_, rfl⟩
        subst hw2
        have HQ3 := hcw
        clear hcw
        clear HQ2 p0 p4
        rcases Bool.eq_false_or_eq_true (finb t.b) with h3 | h3
        case inr => as_aux_lemma =>
          have HE : Hid (E = 62) := by show _ = _; rw [HOE.out, if_pos h3]
          rw [h3]
          clear h3
          go_wp2_with fail
          go_ret
          exact ⟨by rw [HE.out]; rfl, HQ3.out.1⟩
        rw [if_neg (by rw [h3]; simp)] at HOE
        rw [h3]
        clear h3
        have p5 : w3.cell? ⟨w.heap.size, 5, none⟩ = some (.string t.s) := blk_cell HQ3.out.2 HC5.out
        go_wp2_with fail
        refine (good6_any w3 t.s (by have := HBD.out.s; omega)).mono ?_
        rintro e w4 ⟨rfl, hw4⟩
        have hw4 := hw4.symm
        subst hw4
        rw [bad_good] at HOE
        rcases Bool.eq_false_or_eq_true (ugood (sl t.s)) with h4 | h4
        case inr => as_aux_lemma =>
          have HE : Hid (E = 63) := by show _ = _; rw [HOE.out, h4]; exact if_pos (by simp)
          rw [h4]
          clear h4
          go_wp2_with fail
          go_ret
          exact ⟨by rw [HE.out]; rfl, HQ3.out.1⟩
        rw [h4, Bool.not_true, Bool.false_or] at HOE
        rw [h4]
        clear h4
        go_wp2_with fail
        go_loopw [5] (fun ii wx => ∃ i : Nat, i ≤ t.ks.length ∧ ii = .int .i64 (i : Nat) ∧ Hid (∀ (j : Nat) (x : ByteArray), j < i → t.ks[j]? = some x → badb x = false) ∧ wx = w3) (fun ii _ => t.ks.length - (intOf ii).toNat)
        case atStart => exact ⟨0, by omega, rfl, fun j x hj => absurd hj (by omega), rfl⟩
        case round =>
          obtain ⟨i, hi, rfl, HI, hwr⟩ := hrel
          have hwr := hwr.symm
          subst hwr
          have p11 : w3.cell? ⟨w.heap.size, 11, none⟩ = some (.slice ak t.ks.length ck) := blk_cell HQ3.out.2 HC11.out
          by_cases hlt : i < t.ks.length
          · have g1 : (i : Int) < (t.ks.length : Int) := by omega
            obtain ⟨x, hx⟩ : ∃ x, t.ks[i]? = some x := ⟨t.ks[i], List.getElem?_eq_getElem hlt⟩
            obtain ⟨b, off, rfl, hcc⟩ := HKF.out.resolve_left (fun h => by rw [h] at hlt; simp at hlt)
            have c1 : w3.cell? ⟨b, off + i, none⟩ = some (.string x) := keep_below HQ3.out.1 _ _ (hcc i x hx)
            have HSX := hide (HKZ.out x (List.mem_of_getElem? hx))
            have HBX := hide (bad_good x)
            clear hcc
            rcases Bool.eq_false_or_eq_true (ugood (sl x)) with h5 | h5
            · as_aux_lemma =>
              have HI2 : Hid (∀ (j : Nat) (x : ByteArray), j < i + 1 → t.ks[j]? = some x → badb x = false) := fun j y hj hy => by
                by_cases hji : j = i
                · subst hji
                  rw [hx] at hy
                  injection hy with hy
                  rw [← hy, HBX.out, h5]
                  rfl
                · exact HI.out j y (by omega) hy
              clear hx HI
              go_wp2_with fail
              refine (good6_any w3 x (by have := HSX.out; omega)).mono ?_
              rintro e w4 ⟨rfl, hw4⟩
              have hw4 := hw4.symm
              subst hw4
              rw [h5]
              clear h5
              go_wp2_with fail
              go_roundw
              case rel => exact ⟨i + 1, by omega, by go_num, HI2, by first | rfl | trivial⟩
              case measure => simp [intOf]; omega
            · as_aux_lemma =>
              have HE : Hid (E = 63) := by
                show _ = _
                rw [HOE.out, if_pos (List.any_eq_true.2 ⟨x, List.mem_of_getElem? hx, by rw [HBX.out, h5]; rfl⟩)]
              clear hx HI
              go_wp2_with fail
              refine (good6_any w3 x (by have := HSX.out; omega)).mono ?_
              rintro e w4 ⟨rfl, hw4⟩
              have hw4 := hw4.symm
              subst hw4
              rw [h5]
              clear h5
              go_wp2_with fail
              go_ret
              exact ⟨by rw [HE.out]; rfl, HQ3.out.1⟩
          · have g1 : ¬ (i : Int) < (t.ks.length : Int) := by omega
            have hany : ¬ t.ks.any badb = true := fun h => by
              obtain ⟨x, hx, hbx⟩ := List.any_eq_true.1 h
              obtain ⟨j, hj⟩ := List.getElem?_of_mem hx
              have := HI.out j x (by have := (List.getElem?_eq_some_iff.1 hj).1; omega) hj
              rw [this] at hbx
              cases hbx
            rw [if_neg hany] at HOE
            clear hany HI
            have p0 : w3.cell? ⟨w.heap.size, 0, none⟩ = some (.int .i64 t.k) := blk_cell HQ3.out.2 HC0.out
            have HL3 := hide (HLK.out w3 HQ3.out)
            by_cases hk7 : t.k = 7
            · have g7 : (t.k == 7) = true := beq_iff_eq.2 hk7
              have g9 : (t.k == 9) = false := beq_eq_false_iff_ne.2 (by omega)
              have hk9 : ¬ t.k = 9 := by omega
              have HCK : Hid (Calls Tryd.prog 54 #[.agg (lcs t.l)] w3 fun e w' => e = .returned (.int .i64 (if lok t.l then 0 else 40)) ∧ Below w3.heap.size w3 w') := by
                have h := refCheck_any w3 t.l.v t.l.c t.l.h (nstr t.l.d) HBD.out.l.h (by rw [HBD.out.l.size]; exact HBD.out.l.n)
                rw [sl_nstr HBD.out.l.d] at h
                exact h
              by_cases hlo : lok t.l
              · as_aux_lemma =>
                have HE : Hid (E = 0) := by show _ = _; rw [HOE.out, if_neg (fun h => h.2 hlo), if_neg (fun h => hk9 h.1)]
                rw [if_pos hlo] at HCK
                clear hk7 hk9 hlo
                go_wp2_with (refine wpList_lkAt rfl rfl w.heap.size 7 t.l rfl HL3.out ?_)
                refine (Hid.out HCK).mono ?_
                rintro e w5 ⟨rfl, hb5⟩
                have HQ5 := hide (HQ3.out.next hb5)
                have r0 : w5.cell? ⟨w.heap.size, 0, none⟩ = some (.int .i64 t.k) := blk_cell HQ5.out.2 HC0.out
                clear hb5
                go_wp2_with fail
                go_ret
                exact ⟨by rw [HE.out]; rfl, HQ5.out.1⟩
              · as_aux_lemma =>
                have HE : Hid (E = 64) := by show _ = _; rw [HOE.out, if_pos ⟨hk7, hlo⟩]
                rw [if_neg hlo] at HCK
                clear hk7 hk9 hlo
                go_wp2_with (refine wpList_lkAt rfl rfl w.heap.size 7 t.l rfl HL3.out ?_)
                refine (Hid.out HCK).mono ?_
                rintro e w5 ⟨rfl, hb5⟩
                have HQ5 := hide (HQ3.out.next hb5)
                clear hb5
                go_wp2_with fail
                go_ret
                exact ⟨by rw [HE.out]; rfl, HQ5.out.1⟩
            · have g7 : (t.k == 7) = false := beq_eq_false_iff_ne.2 hk7
              rw [if_neg (fun h => hk7 h.1)] at HOE
              by_cases hk9 : t.k = 9
              · have g9 : (t.k == 9) = true := beq_iff_eq.2 hk9
                have HV3 := hide HQ3.out.va
                by_cases hP : t.ks.length = t.is.length ∧ t.ks.Nodup
                · as_aux_lemma =>
                  have HE : Hid (E = 0) := by show _ = _; rw [HOE.out, if_neg (fun h => h.2 hP)]
                  have HKC := hide (keys_any t true (by simp [hP]) w3 cs (HTN.out.move (keep_below HQ3.out.1)) HKL.out)
                  clear hk7 hk9 hP
                  go_wp2_with (refine wpList_valAt rfl rfl w.heap.size 0 cs rfl HSZ.out HV3.out ?_)
                  refine (Hid.out HKC).mono ?_
                  rintro e w5 ⟨rfl, hb5⟩
                  have HQ5 := hide (HQ3.out.next hb5)
                  clear hb5
                  go_wp2_with fail
                  go_ret
                  exact ⟨by rw [HE.out]; rfl, HQ5.out.1⟩
                · as_aux_lemma =>
                  have HE : Hid (E = 65) := by show _ = _; rw [HOE.out, if_pos ⟨hk9, hP⟩]
                  have HKC := hide (keys_any t false (by simp only [Bool.false_eq_true, false_iff]; exact hP) w3 cs (HTN.out.move (keep_below HQ3.out.1)) HKL.out)
                  clear hk7 hk9 hP
                  go_wp2_with (refine wpList_valAt rfl rfl w.heap.size 0 cs rfl HSZ.out HV3.out ?_)
                  refine (Hid.out HKC).mono ?_
                  rintro e w5 ⟨rfl, hb5⟩
                  have HQ5 := hide (HQ3.out.next hb5)
                  clear hb5
                  go_wp2_with fail
                  go_ret
                  exact ⟨by rw [HE.out]; rfl, HQ5.out.1⟩
              · as_aux_lemma =>
                have g9 : (t.k == 9) = false := beq_eq_false_iff_ne.2 hk9
                have HE : Hid (E = 0) := by show _ = _; rw [HOE.out, if_neg (fun h => hk9 h.1)]
                clear hk7 hk9
                go_wp2_with fail
                go_ret
                exact ⟨by rw [HE.out]; rfl, HQ3.out.1⟩
end
section
open Go.RowKit Go
/-- What the reference's check does. -/
def ChkR (t : Tv) : Prop := ∀ (a : Nat) (w : World) (cs : Array Value), Tin w t cs → a + tmuch t ≤ 200000 → tmuch t ≤ 100000 → Calls Tryd.prog 18 #[.agg cs, .int .i64 (a : Nat)] w fun e w' => e = .returned (.int .i64 (chkf t a : Nat)) ∧ Below w.heap.size w w'
set_option maxRecDepth 1000000 in
set_option maxHeartbeats 2000000 in
theorem checkR_step (t : Tv) (ih : ∀ u ∈ t.is, ChkR u) : ChkR t := by
  intro a w cs ht hat hm
  have HIH := hide ih
  have HTN := hide ht
  have HSZ := hide ht.size13
  have hme := tmuch_eq t
  have HML : Hid (a + 1 + tmuchL t.is ≤ 200000 ∧ tmuchL t.is ≤ 100000) := ⟨by omega, by omega⟩
  have HMM := hide hm
  have haa : a ≤ 200000 := by omega
  have HCE := hide (chkf_eq t a)
  clear ih hat hm hme
  obtain ⟨vy, vk, vi, rfl, hy, hk, hv, hb⟩ := ht.parts
  obtain ⟨⟨ai, ci, rfl, _, hform⟩, hmax⟩ := hv
  have HF := hide hform
  have HCI : Hid ((vcs t vy vk (.slice ai t.is.length ci))[12]? = some (.slice ai t.is.length ci)) := rfl
  generalize vcs t vy vk (.slice ai t.is.length ci) = cs at *
  clear ht hy hk hb hform
  generalize chkf t a = E at *
  have HQ0 : Hid (Aln w (w.alloc (.cells cs 38)) cs) := box_mk0 w _
  have HV0 := hide HQ0.out.va
  go_enter Tryd.func18, Tryd.ntmps18
  go_wp2_with (refine wpList_valAt rfl rfl w.heap.size 0 cs rfl HSZ.out HV0.out ?_)
  refine (one_any t a _ cs (HTN.out.move (keep_below HQ0.out.1)) HMM.out).mono ?_
  rintro e w1 ⟨rfl, hb1⟩
  have HQ1 := hide (HQ0.out.next hb1)
  have HO : Hid ((onef t a = 0 ∧ onef t a = 0 ∧ ∀ (j : Nat) (v : Tv), j < 0 → t.is[j]? = some v → chkf v (a + 1) = 0) ∨ (onef t a ≠ 0 ∧ E = onef t a)) := by
    by_cases h : onef t a = 0
    · exact .inl ⟨h, h, fun j v hj => absurd hj (by omega)⟩
    · exact .inr ⟨h, by rw [HCE.out, if_neg h]⟩
  have HO1 := HO
  clear hb1 HQ0 HV0 HO
  go_wp2_with fail
  go_loopw [5, 6] (fun ee ii wx => ∃ (i e : Nat), i ≤ t.is.length ∧ ii = .int .i64 (i : Nat) ∧ ee = .int .i64 (e : Nat) ∧ Hid ((e = 0 ∧ onef t a = 0 ∧ ∀ (j : Nat) (v : Tv), j < i → t.is[j]? = some v → chkf v (a + 1) = 0) ∨ (e ≠ 0 ∧ E = e)) ∧ Hid (Aln w wx cs)) (fun _ ii _ => t.is.length - (intOf ii).toNat)
  case atStart => exact ⟨0, _, by omega, rfl, rfl, HO1, HQ1⟩
  case round =>
    clear HQ1 HO1
    obtain ⟨i, e, hi, rfl, rfl, HI, HQ⟩ := hrel
    have q12 := blk_cell HQ.out.2 HCI.out
    by_cases hlt : i < t.is.length
    · have g1 : (i : Int) < (t.is.length : Int) := by omega
      by_cases he : e = 0
      · as_aux_lemma =>
        subst he
        obtain ⟨u, hu⟩ : ∃ u, t.is[i]? = some u := ⟨t.is[i], List.getElem?_eq_getElem hlt⟩
        obtain ⟨b, off, rfl, hcells⟩ := HF.out.resolve_left (fun h => by rw [h] at hlt; simp at hlt)
        obtain ⟨cu, hcu, hcc⟩ := hcells i u hu
        have HCC : Hid (∀ j v, cu[j]? = some v → wr.cell? ⟨b, off + i * 13 + j, none⟩ = some v) := fun j v hv => keep_below HQ.out.1 _ _ (hcc j v hv)
        have hmem := List.mem_of_getElem? hu
        have HZ1 := hide hcu.size13
        have hmu := tmuchL_mem hmem
        have HCA := hide (HIH.out u hmem (a + 1) _ cu (hcu.move (keep_below HQ.out.1)) (by have := HML.out; omega) (by have := HML.out; omega))
        have ec : ((a + 1 : Nat) : Int) = (a : Int) + 1 := by omega
        rw [ec] at HCA
        have HI2 : Hid ((chkf u (a + 1) = 0 ∧ onef t a = 0 ∧ ∀ (j : Nat) (v : Tv), j < i + 1 → t.is[j]? = some v → chkf v (a + 1) = 0) ∨ (chkf u (a + 1) ≠ 0 ∧ E = chkf u (a + 1))) := by
          rcases HI.out with ⟨_, h1, h2⟩ | ⟨h1, _⟩
          · by_cases h3 : chkf u (a + 1) = 0
            · refine .inl ⟨h3, h1, fun j v hj hv => ?_⟩
              by_cases hji : j = i
              · subst hji
                rw [hu] at hv
                injection hv with hv
                rw [← hv]
                exact h3
              · exact h2 j v (by omega) hv
            · exact .inr ⟨h3, by rw [HCE.out, if_pos h1, chkL_at h2 hu h3]⟩
          · exact absurd rfl h1
        clear hu hcells hcu hcc hmem hmu ec HI
        go_wp2_with (refine wpList_valAt rfl rfl b (off + i * 13) cu rfl HZ1.out HCC.out ?_)
        refine HCA.out.mono ?_
        rintro e w5 ⟨rfl, hb5⟩
        have HQ5 := hide (HQ.out.next hb5)
        clear hb5 HQ HCC HCA q12
        go_wp2_with fail
        go_roundw
        case rel => exact ⟨i + 1, _, by omega, by go_num, rfl, HI2, HQ5⟩
        case measure => simp [intOf]; omega
      · as_aux_lemma =>
        have HE : Hid (E = e) := by
          rcases HI.out with ⟨h, _⟩ | ⟨_, h⟩
          · exact absurd h he
          · exact h
        have g2 : ((e : Int) == 0) = false := beq_eq_false_iff_ne.2 (by omega)
        clear he HI
        go_wp2_with fail
        go_ret
        exact ⟨by rw [HE.out]; rfl, HQ.out.1⟩
    · as_aux_lemma =>
      have g1 : ¬ (i : Int) < (t.is.length : Int) := by omega
      have HE : Hid (E = e) := by
        rcases HI.out with ⟨h0, h1, h2⟩ | ⟨_, h⟩
        · show _ = _
          rw [HCE.out, if_pos h1, h0]
          refine chkL_none (fun u hu => ?_)
          obtain ⟨j, hj, e⟩ := List.getElem_of_mem hu
          exact h2 j u (by omega) (by rw [List.getElem?_eq_getElem hj, e])
        · exact h
      clear HI
      go_wp2_with fail
      go_ret
      exact ⟨by rw [HE.out]; rfl, HQ.out.1⟩
theorem checkR_any (t : Tv) : ChkR t := by
  have h : ∀ N, ∀ t : Tv, SizeOf.sizeOf t = N → ChkR t := by
    intro N
    induction N using Nat.strongRecOn with
    | _ N ih => exact fun t hN => checkR_step t (fun u hu => ih _ (by rw [← hN]; exact Tv.is_lt hu) u rfl)
  exact h _ t rfl
set_option maxRecDepth 1000000 in
theorem rcheck_any (t : Tv) (w : World) (cs : Array Value) (ht : Tin w t cs) (hm : tmuch t ≤ 100000) : Calls Tryd.prog 5 #[.agg cs] w fun e w' => e = .returned (.int .i64 (chkf t 0 : Nat)) ∧ Below w.heap.size w w' := by
  have HTN := hide ht
  have HSZ := hide ht.size13
  have HQ0 : Hid (Aln w (w.alloc (.cells cs 38)) cs) := box_mk0 w _
  have HV0 := hide HQ0.out.va
  have HMM := hide hm
  clear ht hm
  have HCA := hide (checkR_any t 0 _ cs (HTN.out.move (keep_below HQ0.out.1)) (by have := HMM.out; omega) HMM.out)
  generalize chkf t 0 = E at *
  go_enter Tryd.func5, Tryd.ntmps5
  go_wp2_with (refine wpList_valAt rfl rfl w.heap.size 0 cs rfl HSZ.out HV0.out ?_)
  refine HCA.out.mono ?_
  rintro e w1 ⟨rfl, hb1⟩
  have HQ1 := hide (HQ0.out.next hb1)
  clear hb1
  go_wp2_with fail
  go_ret
  exact ⟨rfl, HQ1.out.1⟩
end
section
open Go.RowKit Go

end
section
open Go.RowKit Go

end
section
open Go.RowKit Go
theorem qstep_nelk {C : World → Prop} {ops : Array Oper} {o : Oper} {a : Act} {K : Act → Prop} {x y : Operand} {T2 : TypeId} (hgd : Region.wanted o (yielded ops a.tmps) = true) (ho : o.op = .binOp .neq 36 x y T2) (A B : Array Value) (r : Bool)
    (hx : a.eval x = .agg A) (hy : a.eval y = .agg B) (he : ∀ w, C w → (Op.equalIn 10000 36 (.agg A) (.agg B)).run Tryd.prog w = .ok r w)
    (h : K (a.put o.dst (.bool (!r)))) : if Region.wanted o (yielded ops a.tmps) = true then o.quiet Tryd.prog a C K else K (a.put o.dst undef) := by
  rw [if_pos hgd]
  refine ⟨.bool (!r), fun w hC => ?_, h⟩
  unfold Oper.quietAt
  rw [exec_nelk ho hx hy (he w hC)]
  exact ⟨rfl, rfl⟩
end
section
open Go.RowKit Go
/-- A slice of links, plainly. -/
structure LSl (w : World) (v : Value) (ls : List Lk) : Prop where
  form : ∃ a cap, v = .slice a ls.length cap ∧ (ls.length ≤ cap ∧ (a = none → cap = 0)) ∧ (ls = [] ∨ ∃ b off, a = some ⟨b, off, none⟩ ∧ ∀ i l, ls[i]? = some l → ∀ j u, (lcs l)[j]? = some u → w.cell? ⟨b, off + i * 4 + j, none⟩ = some u)
  max : ls.length ≤ 140737488351232
  bd : ∀ l ∈ ls, Lkb l
theorem LSl.move {w w' : World} {v : Value} {ls : List Lk} (h : LSl w v ls) (hm : ∀ p u, w.cell? p = some u → w'.cell? p = some u) : LSl w' v ls := by
  obtain ⟨⟨a, c, hv, hn, hc⟩, h1, h2⟩ := h
  refine ⟨⟨a, c, hv, hn, ?_⟩, h1, h2⟩
  rcases hc with hc | ⟨b, off, ha, hc⟩
  · exact .inl hc
  · exact .inr ⟨b, off, ha, fun i l hi j u hj => hm _ _ (hc i l hi j u hj)⟩
set_option maxRecDepth 1000000 in
set_option maxHeartbeats 400000 in
theorem eqLinks_any {w : World} {v u : Value} {ks ls : List Lk} (hv : LSl w v ks) (hu : LSl w u ls) :
    Calls Tryd.prog 11 #[v, u] w fun e w' => e = .returned (.bool (decide (ks = ls))) ∧ Below w.heap.size w w' := by
  generalize hR : decide (ks = ls) = R
  have HR := hide hR
  clear hR
  obtain ⟨⟨av, cv, rfl, _, hf⟩, hkm, hkb⟩ := hv
  obtain ⟨⟨au, cu, rfl, _, hg⟩, hlm, hlb⟩ := hu
  have HKB := hide hkb
  have HLB := hide hlb
  clear hkb hlb
  have HF := hide hf
  have HG := hide hg
  clear hf hg
  by_cases hl : ks.length = ls.length
  · have g0 : ((ks.length : Int) != (ls.length : Int)) = false := by rw [nat_ne]; simp [hl]
    have HL := hide hl
    clear hl
    go_enter Tryd.func11, Tryd.ntmps11
    go_wp2_with fail
    go_loopw [5] (fun ii wx => ∃ i : Nat, i ≤ ks.length ∧ ii = .int .i64 (i : Nat) ∧ Hid (∀ j, j < i → ks[j]? = ls[j]?) ∧ Hid (Below w.heap.size w wx)) (fun ii _ => ks.length - (intOf ii).toNat)
    case atStart => exact ⟨0, by omega, rfl, fun j hj => absurd hj (by omega), Below.refl _ _⟩
    case round =>
      obtain ⟨i, hi, rfl, HI, HBw⟩ := hrel
      by_cases hlt : i < ks.length
      · have g1 : (i : Int) < (ks.length : Int) := by omega
        have hlt2 : i < ls.length := by rw [← HL.out]; exact hlt
        have g2 : (i : Int) < (ls.length : Int) := by omega
        obtain ⟨s, hs⟩ : ∃ s, ks[i]? = some s := ⟨ks[i], List.getElem?_eq_getElem hlt⟩
        obtain ⟨t, ht⟩ : ∃ s, ls[i]? = some s := ⟨ls[i], List.getElem?_eq_getElem hlt2⟩
        obtain ⟨b, off, rfl, hcc⟩ := HF.out.resolve_left (fun h => by rw [h] at hlt; simp at hlt)
        obtain ⟨b2, off2, rfl, hcd⟩ := HG.out.resolve_left (fun h => by rw [h] at hlt2; simp at hlt2)
        have HQ1 : Hid (∀ wx, (∃ x : Ext wr, wx = x.w') → ∀ j x, (lcs s)[j]? = some x → wx.cell? ⟨b, off + i * 4 + j, none⟩ = some x) := by
          rintro _ ⟨y, rfl⟩ j x hx
          exact keep_below y.h _ _ (keep_below HBw.out _ _ (hcc i s hs j x hx))
        have HQ2 : Hid (∀ wx, (∃ x : Ext wr, wx = x.w') → ∀ j x, (lcs t)[j]? = some x → wx.cell? ⟨b2, off2 + i * 4 + j, none⟩ = some x) := by
          rintro _ ⟨y, rfl⟩ j x hx
          exact keep_below y.h _ _ (keep_below HBw.out _ _ (hcd i t ht j x hx))
        have HEQ : Hid (∀ wx : World, (Op.equalIn 10000 36 (.agg (lcs s)) (.agg (lcs t))).run Tryd.prog wx = .ok (decide (s = t)) wx) := fun wx => eqlk wx (HKB.out s (List.mem_of_getElem? hs)).d (HLB.out t (List.mem_of_getElem? ht)).d
        clear hcc hcd HF HG
        by_cases he : s = t
        · as_aux_lemma =>
          rw [decide_eq_true he] at HEQ
          have HI2 : Hid (∀ j, j < i + 1 → ks[j]? = ls[j]?) := fun j hj => by
            by_cases hji : j = i
            · rw [hji, hs, ht, he]
            · exact HI.out j (by omega)
          clear he hs ht HI
          go_wp2_with fail
          refine region_ext (by kernel_rfl) (by kernel_rfl) ?_
          repeat (
            refine wpQuiet_step (fun K hK => ?_)
            first
              | (refine qstep_lkAt rfl rfl b (off + i * 4) s rfl HQ1.out (hK _ ?_); clear hK K)
              | (refine qstep_lkAt rfl rfl b2 (off2 + i * 4) t rfl HQ2.out (hK _ ?_); clear hK K)
              | (refine qstep_nelk rfl rfl (lcs s) (lcs t) true rfl rfl (fun wx _ => HEQ.out wx) (hK _ ?_); clear hK K)
              | (go_simp
                 refine hK _ ?_; clear hK K))
          refine wpQuiet_nil ?_
          rintro _ ⟨tq, rfl⟩
          have HB2 : Hid (Below w.heap.size w tq.w') := HBw.out.trans (tq.h.mono HBw.out.size)
          go_wp2_with fail
          go_roundw
          case rel => exact ⟨i + 1, by omega, by go_num, HI2, HB2⟩
          case measure => simp [intOf]; omega
        · as_aux_lemma =>
          rw [decide_eq_false he] at HEQ
          have HN : Hid (ks ≠ ls) := fun h => by
            rw [h, ht] at hs
            exact he (Option.some.inj hs).symm
          clear he hs ht HI
          go_wp2_with fail
          refine region_ext (by kernel_rfl) (by kernel_rfl) ?_
          repeat (
            refine wpQuiet_step (fun K hK => ?_)
            first
              | (refine qstep_lkAt rfl rfl b (off + i * 4) s rfl HQ1.out (hK _ ?_); clear hK K)
              | (refine qstep_lkAt rfl rfl b2 (off2 + i * 4) t rfl HQ2.out (hK _ ?_); clear hK K)
              | (refine qstep_nelk rfl rfl (lcs s) (lcs t) false rfl rfl (fun wx _ => HEQ.out wx) (hK _ ?_); clear hK K)
              | (go_simp
                 refine hK _ ?_; clear hK K))
          refine wpQuiet_nil ?_
          rintro _ ⟨tq, rfl⟩
          have HB2 : Hid (Below w.heap.size w tq.w') := HBw.out.trans (tq.h.mono HBw.out.size)
          go_wp2_with fail
          go_ret
          exact ⟨by rw [← HR.out, decide_eq_false HN.out]; rfl, HB2.out⟩
      · as_aux_lemma =>
        have g1 : ¬ (i : Int) < (ks.length : Int) := by omega
        have HN : Hid (ks = ls) := List.ext_getElem? fun j => by
          by_cases hj : j < i
          · exact HI.out j hj
          · rw [List.getElem?_eq_none (by omega), List.getElem?_eq_none (by rw [← HL.out]; omega)]
        go_wp2_with fail
        go_ret
        exact ⟨by rw [← HR.out, decide_eq_true HN.out]; rfl, HBw.out⟩
  · as_aux_lemma =>
    have g0 : ((ks.length : Int) != (ls.length : Int)) = true := by rw [nat_ne]; simp [hl]
    have HN : Hid (ks ≠ ls) := fun h => hl (by rw [h])
    clear hl HF HG
    go_enter Tryd.func11, Tryd.ntmps11
    go_wp2_with fail
    go_ret
    exact ⟨by rw [← HR.out, decide_eq_false HN.out]; rfl, Below.refl _ _⟩
end
section
open Go.RowKit Go
theorem LSl.own {w : World} {B n : Nat} {v : Value} {ls : List Lk} (h : w.ownsRow B 36 4 v n (fcl ls)) (hn : n = ls.length) (hm : ls.length ≤ 140737488351232) (hb : ∀ l ∈ ls, Lkb l) : LSl w v ls := by
  subst hn
  rcases id h.2 with ⟨hv, he⟩ | ⟨g, cap, cur, hv, _, _, h1, _⟩
  · subst hv
    have e : ls = [] := List.length_eq_zero_iff.1 he
    subst e
    exact ⟨⟨none, 0, rfl, ⟨by simp, fun _ => rfl⟩, .inl rfl⟩, hm, hb⟩
  · subst hv
    refine ⟨⟨_, cap, rfl, ⟨by omega, fun h => by cases h⟩, .inr ⟨g, 0, rfl, fun i l hl j u hu => ?_⟩⟩, hm, hb⟩
    have := h.cells (g := g) rfl (i * 4 + j) u (fcl_get ls i l j u hl hu)
    have hadd : (⟨g, 0, none⟩ : Addr).add (i * 4 + j) = ⟨g, i * 4 + j, none⟩ := by unfold Addr.add; split <;> simp_all
    rw [hadd] at this
    rw [Nat.zero_add]
    exact this
theorem lnkf_bd {w : World} (t : Tv) : ∀ c, Tin w t c → ∀ l ∈ lnkf t, Lkb l := by
  have key : ∀ N, ∀ t : Tv, SizeOf.sizeOf t = N → ∀ c, Tin w t c → ∀ l ∈ lnkf t, Lkb l := by
    intro N
    induction N using Nat.strongRecOn with
    | _ N ih =>
      intro t hN c ht l hl
      obtain ⟨vy, vk, vi, rfl, _, _, hv, hb⟩ := ht.parts
      by_cases h7 : t.k = 7
      · rw [lnkf_7 h7, List.mem_singleton] at hl
        rw [hl]
        exact hb.l
      · by_cases h8 : t.k = 8 ∨ t.k = 9
        · rw [lnkf_n h7 h8] at hl
          obtain ⟨p, _, hp⟩ := List.mem_flatMap.1 hl
          by_cases hpl : p < t.is.length
          · have e := List.getElem?_eq_getElem hpl
            rw [lnx_at e] at hp
            obtain ⟨⟨a, cap, hva, _, hform⟩, _⟩ := hv
            obtain ⟨b, off, _, hc⟩ := hform.resolve_left (fun h => by rw [h] at hpl; simp at hpl)
            obtain ⟨d, hd, _⟩ := hc p _ e
            exact ih _ (by rw [← hN]; exact Tv.is_lt (List.getElem_mem hpl)) _ rfl d hd l hp
          · unfold lnx at hp
            rw [dif_neg hpl] at hp
            cases hp
        · rw [lnkf_0 h7 h8] at hl
          cases hl
  exact key _ t rfl
/-- Links of a tree, as a row that may be held against another. -/
theorem links_lsl (t : Tv) (w : World) (cs : Array Value) (ht : Tin w t cs) (hm : tmuch t ≤ 100000) : Calls Tryd.prog 12 #[.agg cs] w fun e w' => ∃ v', e = .returned v' ∧ LSl w' v' (lnkf t) ∧ Below w.heap.size w w' := by
  refine (links6_any t w cs ht hm).mono ?_
  rintro e w' ⟨v', he, ho, hb⟩
  exact ⟨v', he, LSl.own ho rfl (by have := lnkf_le t; omega) (lnkf_bd t cs ht), hb⟩
end
section
open Go.RowKit Go
/-- Pass one that is not wanted. -/
theorem heldSkip {P : Program} {Q : Exit → Act → World → Prop} {S : World → Prop} {l : List Oper} {fuel : Nat} {listed : Array Bool} {a : Act} {w : World} (i : Nat) {oi : Oper} (hi : l[i]? = some oi) (hs : Region.noSelect l.toArray = true) (hf : Region.free .any l.toArray listed i = true) (hr : (Region.ready .any l.toArray listed).contains i = true)
    (hQ : ∀ c a w, Q (.panic c) (a.put oi.dst undef) w → Q (.panic c) a w) (hw : Region.wanted oi (yielded l.toArray a.tmps) = false) (hS : S w)
    (h : wpAnyH P .any l.toArray Q S fuel (listed.setIfInBounds i true) (a.put oi.dst undef) w) : wpAnyH P .any l.toArray Q S (fuel + 1) listed a w :=
  wpAnyH_take (by simpa using hi) hs hf hr hQ (.inr ⟨hw, rfl⟩) hS h
end
section
open Go.RowKit Go
/-- What ValuePlace has in hand: the seat. -/
structure Vpl (w wr : World) (P : Nat) (M : Nat → Prop) : Prop where
  s : Sea wr P M
  m : ∀ q, M q → w.heap.size ≤ q
  b : Below w.heap.size w wr
theorem Vpl.next {w wr wy : World} {P : Nat} {M : Nat → Prop} (h : Vpl w wr P M) (hb : Below wr.heap.size wr wy) : Vpl w wy P M := ⟨h.s.next hb, h.m, h.b.trans (hb.mono h.b.size)⟩
theorem Vpl.seat {w wr wy : World} {P : Nat} {M M' : Nat → Prop} (h : Vpl w wr P M) (hs : Sea wy P M') (hm : ∀ x, M' x → M x ∨ wr.heap.size ≤ x) (hk : Kp M wr wy) : Vpl w wy P M' :=
  ⟨hs, fun q hq => by
    rcases hm q hq with e | e
    · exact h.m q e
    · exact Nat.le_trans h.b.size e, h.b.trans (hk.below h.b.size h.m)⟩
set_option maxRecDepth 1000000 in
set_option maxHeartbeats 8000000 in
theorem vplace_any (w : World) (vL : Value) (is : List Tv) (hv : VSl w vL is) (hT : Tabs w) : Calls Tryd.prog 3 #[vL] w fun e w' => e = .returned (.bool true) ∧ Below w.heap.size w w' := by
  have HT := hide hT
  have HVL := hide hv
  obtain ⟨⟨a, cap, rfl, _, hform⟩, hmax⟩ := hv
  have HF := hide hform
  clear hT hform
  go_enter Tryd.func3, Tryd.ntmps3
  go_wp2_with fail
  refine (much_any is w _ 60000 HVL.out (by omega)).mono ?_
  rintro e w2 ⟨r, rfl, hmu, hb2⟩
  have HW2 := hide hb2
  have HMU0 := hide hmu
  clear hmu hb2
  by_cases hr : 60000 < r
  · as_aux_lemma =>
    have g0 : (60000 : Int) < (r : Int) := by omega
    go_wp2_with fail
    go_ret
    exact ⟨rfl, HW2.out⟩
  have g0 : ¬ (60000 : Int) < (r : Int) := by omega
  have HM : Hid (tmuchL is ≤ 60000) := by have := HMU0.out.eq (by omega); show _ ≤ _; omega
  have HV0 : Hid (Vpl w (w2.alloc (.cells #[.slice none 0 0, .slice none 0 0, .slice none 0 0, .slice none 0 0, .slice none 0 0, .slice none 0 0, .slice none 0 0, .slice none 0 0] 32)) w2.heap.size (fun q => q = w2.heap.size)) := ⟨Sea.new w2, fun q hq => by rw [hq]; exact HW2.out.size, HW2.out.trans ((below_alloc4 w2 _).mono HW2.out.size)⟩
  clear HMU0 hr
  go_wp2_with fail
  generalize w2.alloc (.cells #[.slice none 0 0, .slice none 0 0, .slice none 0 0, .slice none 0 0, .slice none 0 0, .slice none 0 0, .slice none 0 0, .slice none 0 0] 32) = w3 at *
  generalize w2.heap.size = P at *
  clear HW2 HVL
  go_loopw [4] (fun ii wr => ∃ (i : Nat) (M : Nat → Prop), i ≤ is.length ∧ ii = .int .i64 (i : Nat) ∧ Hid (Vpl w wr P M)) (fun ii _ => is.length - (intOf ii).toNat)
  case atStart => exact ⟨0, _, by omega, rfl, HV0⟩
  case round =>
    rename World => wr
    clear HV0
    obtain ⟨i, M, hi, rfl, HV⟩ := hrel
    by_cases hlt : i < is.length
    · as_aux_lemma =>
      have g1 : (i : Int) < (is.length : Int) := by omega
      obtain ⟨u, hu⟩ : ∃ u, is[i]? = some u := ⟨is[i], List.getElem?_eq_getElem hlt⟩
      obtain ⟨b, off, rfl, hcells⟩ := HF.out.resolve_left (fun h => by rw [h] at hlt; simp at hlt)
      obtain ⟨cu, hcu, hcc⟩ := hcells i u hu
      have HMU : Hid (tmuch u ≤ 60000) := Nat.le_trans (tmuchL_mem (List.mem_of_getElem? hu)) HM.out
      have HSU := hide hcu.size13
      have HTU : Hid (∀ wx, Below w.heap.size w wx → Tin wx u cu) := fun wx hb => hcu.move (keep_below hb)
      have HTS : Hid (∀ wx M, Below w.heap.size w wx → (∀ q, M q → w.heap.size ≤ q) → Tis wx M u cu) := fun wx M hb hm => (Tis.of_tin hcu hm).kp (Kp.of_below (S := M) hb)
      have HCU : Hid (∀ wx, Below w.heap.size w wx → ∀ k x, cu[k]? = some x → wx.cell? ⟨b, off + i * 13 + k, none⟩ = some x) := fun wx hb k x hx => keep_below hb _ _ (hcc k x hx)
      have HTB : Hid (∀ wx, Below w.heap.size w wx → Tabs wx) := fun wx hb => HT.out.next hb
      have HC0 := hide (HCU.out wr HV.out.b)
      obtain ⟨E, hE⟩ : ∃ E : Nat, E = chkf u 0 := ⟨_, rfl⟩
      have HRC : Hid (∀ wx, Below w.heap.size w wx → Calls Tryd.prog 5 #[.agg cu] wx fun e w' => e = .returned (.int .i64 (E : Nat)) ∧ Below wx.heap.size wx w') := fun wx hb => by rw [hE]; exact rcheck_any u wx cu (HTU.out wx hb) (by have := HMU.out; omega)
      have HCK : Hid (∀ wx c, Tin wx u c → Tabs wx → Calls Tryd.prog 8 #[.agg c] wx fun e w' => e = .returned (.int .i64 (E : Nat)) ∧ Below wx.heap.size wx w') := fun wx c hc ht => by rw [hE]; exact check6_any u wx c hc (by have := HMU.out; omega) ht
      have HEE := hide hE
      clear hE
      clear hu hcells hcu hcc HF
      go_wp2_with (refine wpList_valAt rfl rfl b (off + i * 13) cu rfl HSU.out HC0.out ?_)
      refine (HRC.out wr HV.out.b).mono ?_
      rintro e w4 ⟨rfl, hb4⟩
      have HV4 := hide (HV.out.next hb4)
      have HC4 := hide (HCU.out w4 HV4.out.b)
      clear hb4 HV HC0
      go_wp2_with (refine wpList_valAt rfl rfl b (off + i * 13) cu rfl HSU.out HC4.out ?_)
      refine (svalue_any u w4 P M cu HV4.out.s (HTS.out w4 M HV4.out.b HV4.out.m) (by have := HMU.out; omega)).mono ?_
      rintro e w5 ⟨c2, M2, rfl, hs5, hm5, hk5, ht5⟩
      have HV5 := hide (HV4.out.seat hs5 hm5 hk5)
      have HT5 := hide ht5.tin
      have HZ2 := hide ht5.tin.size13
      have HA2 := hide ht5.tin.all1
      have HG6 : Hid ((w5.alloc (.cells c2 38)).heap[w5.heap.size]? = some (.cells c2 38 (0, 0))) := heap_alloc_new w5 _
      have HGZ : Hid ((w5.alloc (.cells zv 38)).heap[w5.heap.size]? = some (.cells zv 38 (0, 0))) := heap_alloc_new w5 _
      have HIN : Hid ((Tryd.prog.info? 38).map (·.size) = some c2.size) := by show _ = _; rw [HZ2.out]; exact infoV
      have HZV : Hid (zv.size = c2.size) := by show _ = _; rw [HZ2.out]; rfl
      have HB6 := hide (below_alloc4 w5 (.cells c2 38))
      have HV6 := hide (HV5.out.next HB6.out)
      have HT6 := hide (HT5.out.move (keep_below HB6.out))
      have HX6 : Hid (∀ j x, c2[j]? = some x → (w5.alloc (.cells c2 38)).cell? ⟨w5.heap.size, 0 + j, none⟩ = some x) := fun j x hx => by rw [Nat.zero_add]; exact blk_cell HG6.out hx
      clear hs5 hm5 hk5 ht5 HV4 HC4 HV5 HT5 HB6
      go_wp2_with (first
        | (refine wpList_storeRow rfl rfl w5.heap.size zv c2 38 rfl rfl HGZ.out HIN.out HZV.out HA2.out ?_; rw [World.setRow_alloc_new])
        | (refine wpList_valAt rfl rfl w5.heap.size 0 c2 rfl HZ2.out HX6.out ?_))
      generalize w5.alloc (.cells c2 38) = w6 at *
      refine (HCK.out w6 c2 HT6.out (HTB.out w6 HV6.out.b)).mono ?_
      rintro e w7 ⟨rfl, hb7⟩
      have HV7 := hide (HV6.out.next hb7)
      have HT7 := hide (HT6.out.move (keep_below hb7))
      have HG7 : Hid (w7.heap[w5.heap.size]? = some (.cells c2 38 (0, 0))) := (hb7.block _ (blk_lt HG6.out)).trans HG6.out
      clear hb7 HV6 HT6 HG6 HX6 HGZ HIN HZV HA2
      have HG6 := HG7
      clear HG7
      have gne : (((E : Nat) : Int) != ((E : Nat) : Int)) = false := by simp
      go_wp2_with fail
      refine (num6_any _ w7).mono ?_
      rintro e w70 ⟨rfl, hw70⟩
      have hw70 := hw70.symm
      subst hw70
      go_wp2_with fail
      have hS0 : Below w7.heap.size w7 w7.drew := by refine Below.drew ?_; exact Below.refl _ _
      by_cases h0 : E = 0
      · as_aux_lemma =>
          have HE0 : Hid (chkf u 0 = 0) := by show _ = _; rw [← HEE.out]; exact h0
          have ge0 : (((E : Nat) : Int) == 0) = true := by rw [h0]; rfl
          refine heldStart (S := fun wy => Below w7.heap.size w7 wy) (by kernel_rfl) ?_
          have hS : Below w7.heap.size w7 w7.drew := hS0
          generalize w7.drew = w8 at *
          clear hS0
          refine heldTake 0 _ rfl (by kernel_rfl) (by kernel_rfl) (by kernel_rfl) (fun _ _ _ h => h) rfl hS (fun wy hy => by first | (go_simp; done) | (go_simp; rfl) | rfl) ?_
          (try simp only [Act.put]); (try simp only [List.setIfInBounds_toArray, List.set_cons_zero, List.set_cons_succ])
          refine heldTake 1 (.bool true) rfl (by kernel_rfl) (by kernel_rfl) (by kernel_rfl) (fun _ _ _ h => h) rfl hS (fun wy hy => by first | (go_simp; done) | (go_simp; rfl)) ?_
          (try simp only [Act.put]); (try simp only [List.setIfInBounds_toArray, List.set_cons_zero, List.set_cons_succ])
          refine heldTake 2 _ rfl (by kernel_rfl) (by kernel_rfl) (by kernel_rfl) (fun _ _ _ h => h) rfl hS (fun wy hy => by first | (go_simp; done) | (go_simp; rfl) | rfl) ?_
          (try simp only [Act.put]); (try simp only [List.setIfInBounds_toArray, List.set_cons_zero, List.set_cons_succ])
          refine heldTake 3 _ rfl (by kernel_rfl) (by kernel_rfl) (by kernel_rfl) (fun _ _ _ h => h) rfl hS (fun wy hy => exec_valAt (g := w5.heap.size) (off := 0) (cs := c2) rfl rfl HZ2.out (fun k y hy2 => by rw [Nat.zero_add]; exact keep_below hy _ _ (blk_cell HG6.out hy2))) ?_
          (try simp only [Act.put]); (try simp only [List.setIfInBounds_toArray, List.set_cons_zero, List.set_cons_succ])
          refine heldTake 5 _ rfl (by kernel_rfl) (by kernel_rfl) (by kernel_rfl) (fun _ _ _ h => h) rfl hS (fun wy hy => by first | (go_simp; done) | (go_simp; rfl) | rfl) ?_
          (try simp only [Act.put]); (try simp only [List.setIfInBounds_toArray, List.set_cons_zero, List.set_cons_succ])
          refine heldTake 6 _ rfl (by kernel_rfl) (by kernel_rfl) (by kernel_rfl) (fun _ _ _ h => h) rfl hS (fun wy hy => by first | (go_simp; done) | (go_simp; rfl) | rfl) ?_
          (try simp only [Act.put]); (try simp only [List.setIfInBounds_toArray, List.set_cons_zero, List.set_cons_succ])
          refine heldTake 7 _ rfl (by kernel_rfl) (by kernel_rfl) (by kernel_rfl) (fun _ _ _ h => h) rfl hS (fun wy hy => by first | (go_simp; done) | (go_simp; rfl) | rfl) ?_
          (try simp only [Act.put]); (try simp only [List.setIfInBounds_toArray, List.set_cons_zero, List.set_cons_succ])
          refine heldTake 8 _ rfl (by kernel_rfl) (by kernel_rfl) (by kernel_rfl) (fun _ _ _ h => h) rfl hS (fun wy hy => exec_valAt (g := b) (off := off + i * 13) (cs := cu) rfl rfl HSU.out (fun k y hy2 => HCU.out wy (HV7.out.b.trans (hy.mono HV7.out.b.size)) k y hy2)) ?_
          (try simp only [Act.put]); (try simp only [List.setIfInBounds_toArray, List.set_cons_zero, List.set_cons_succ])
          refine heldStep 4 rfl (by kernel_rfl) (fun K hK => ?_)
          go_simp
          refine (depth_any u w8 c2 (HT7.out.move (keep_below hS)) (by have := tdepth_much u; have := HMU.out; omega)).mono ?_
          rintro e w9 ⟨rfl, hb9⟩
          refine (Hid.out hK) _ _ (hS.trans (hb9.mono hS.size)) (fun hS2 => ?_)
          clear hK K hS
          have hS := hS2
          clear hS2
          (try simp only [Act.put]); (try simp only [List.setIfInBounds_toArray, List.set_cons_zero, List.set_cons_succ])
          have HB9 : Hid (Below w7.heap.size w7 w9) := hS
          clear hb9
          refine heldStep 9 rfl (by kernel_rfl) (fun K hK => ?_)
          go_simp
          refine (rdepth_any u w9 cu (HTU.out w9 (HV7.out.b.trans (hS.mono HV7.out.b.size))) (by have := tdepth_much u; have := HMU.out; omega)).mono ?_
          rintro e w10 ⟨rfl, hb10⟩
          refine (Hid.out hK) _ _ (hS.trans (hb10.mono hS.size)) (fun hS2 => ?_)
          clear hK K hS
          have hS := hS2
          clear hS2
          (try simp only [Act.put]); (try simp only [List.setIfInBounds_toArray, List.set_cons_zero, List.set_cons_succ])
          clear hb10
          generalize tdepth u = dd at *
          have gdd : (((dd : Nat) : Int) != ((dd : Nat) : Int)) = false := by simp
          refine heldTake 10 (.bool false) rfl (by kernel_rfl) (by kernel_rfl) (by kernel_rfl) (fun _ _ _ h => h) rfl hS (fun wy hy => by first | (go_simp; done) | (go_simp; rfl)) ?_
          (try simp only [Act.put]); (try simp only [List.setIfInBounds_toArray, List.set_cons_zero, List.set_cons_succ])
          refine heldTake 11 _ rfl (by kernel_rfl) (by kernel_rfl) (by kernel_rfl) (fun _ _ _ h => h) rfl hS (fun wy hy => by first | (go_simp; done) | (go_simp; rfl) | rfl) ?_
          (try simp only [Act.put]); (try simp only [List.setIfInBounds_toArray, List.set_cons_zero, List.set_cons_succ])
          refine heldTake 12 _ rfl (by kernel_rfl) (by kernel_rfl) (by kernel_rfl) (fun _ _ _ h => h) rfl hS (fun wy hy => exec_valAt (g := w5.heap.size) (off := 0) (cs := c2) rfl rfl HZ2.out (fun k y hy2 => by rw [Nat.zero_add]; exact keep_below hy _ _ (blk_cell HG6.out hy2))) ?_
          (try simp only [Act.put]); (try simp only [List.setIfInBounds_toArray, List.set_cons_zero, List.set_cons_succ])
          refine heldTake 14 _ rfl (by kernel_rfl) (by kernel_rfl) (by kernel_rfl) (fun _ _ _ h => h) rfl hS (fun wy hy => by first | (go_simp; done) | (go_simp; rfl) | rfl) ?_
          (try simp only [Act.put]); (try simp only [List.setIfInBounds_toArray, List.set_cons_zero, List.set_cons_succ])
          refine heldTake 15 _ rfl (by kernel_rfl) (by kernel_rfl) (by kernel_rfl) (fun _ _ _ h => h) rfl hS (fun wy hy => by first | (go_simp; done) | (go_simp; rfl) | rfl) ?_
          (try simp only [Act.put]); (try simp only [List.setIfInBounds_toArray, List.set_cons_zero, List.set_cons_succ])
          refine heldTake 16 _ rfl (by kernel_rfl) (by kernel_rfl) (by kernel_rfl) (fun _ _ _ h => h) rfl hS (fun wy hy => by first | (go_simp; done) | (go_simp; rfl) | rfl) ?_
          (try simp only [Act.put]); (try simp only [List.setIfInBounds_toArray, List.set_cons_zero, List.set_cons_succ])
          refine heldTake 17 _ rfl (by kernel_rfl) (by kernel_rfl) (by kernel_rfl) (fun _ _ _ h => h) rfl hS (fun wy hy => exec_valAt (g := b) (off := off + i * 13) (cs := cu) rfl rfl HSU.out (fun k y hy2 => HCU.out wy (HV7.out.b.trans (hy.mono HV7.out.b.size)) k y hy2)) ?_
          (try simp only [Act.put]); (try simp only [List.setIfInBounds_toArray, List.set_cons_zero, List.set_cons_succ])
          refine heldStep 13 rfl (by kernel_rfl) (fun K hK => ?_)
          go_simp
          refine (links_lsl u w10 c2 (HT7.out.move (keep_below hS)) (by have := HMU.out; omega)).mono ?_
          rintro e w11 ⟨v11, rfl, hl11, hb11⟩
          refine (Hid.out hK) _ _ (hS.trans (hb11.mono hS.size)) (fun hS2 => ?_)
          clear hK K hS
          have hS := hS2
          clear hS2
          (try simp only [Act.put]); (try simp only [List.setIfInBounds_toArray, List.set_cons_zero, List.set_cons_succ])
          have HL11 := hide hl11
          clear hl11 hb11
          refine heldStep 18 rfl (by kernel_rfl) (fun K hK => ?_)
          go_simp
          refine (rlinks_any u w11 cu 0 (HTU.out w11 (HV7.out.b.trans (hS.mono HV7.out.b.size))) HE0.out (by have := HMU.out; omega)).mono ?_
          rintro e w12 ⟨v12, rfl, ho12, hb12⟩
          have HL12 : Hid (LSl w12 v12 (lnkf u)) := LSl.own ho12 rfl (by have := lnkf_le u; have := HMU.out; omega) (lnkf_bd u cu (HTU.out w11 (HV7.out.b.trans (hS.mono HV7.out.b.size))))
          have HL13 : Hid (LSl w12 v11 (lnkf u)) := HL11.out.move (keep_below hb12)
          refine (Hid.out hK) _ _ (hS.trans (hb12.mono hS.size)) (fun hS2 => ?_)
          clear hK K hS
          have hS := hS2
          clear hS2
          (try simp only [Act.put]); (try simp only [List.setIfInBounds_toArray, List.set_cons_zero, List.set_cons_succ])
          clear ho12 hb12 HL11
          refine heldStep 19 rfl (by kernel_rfl) (fun K hK => ?_)
          go_simp
          refine (eqLinks_any HL13.out HL12.out).mono ?_
          rintro e w13 ⟨he13, hb13⟩
          rw [decide_eq_true (rfl : lnkf u = lnkf u)] at he13
          subst he13
          refine (Hid.out hK) _ _ (hS.trans (hb13.mono hS.size)) (fun hS2 => ?_)
          clear hK K hS
          have hS := hS2
          clear hS2
          (try simp only [Act.put]); (try simp only [List.setIfInBounds_toArray, List.set_cons_zero, List.set_cons_succ])
          clear hb13 HL12 HL13
          refine heldTake 20 _ rfl (by kernel_rfl) (by kernel_rfl) (by kernel_rfl) (fun _ _ _ h => h) rfl hS (fun wy hy => by first | (go_simp; done) | (go_simp; rfl) | rfl) ?_
          (try simp only [Act.put]); (try simp only [List.setIfInBounds_toArray, List.set_cons_zero, List.set_cons_succ])
          refine heldTake 21 _ rfl (by kernel_rfl) (by kernel_rfl) (by kernel_rfl) (fun _ _ _ h => h) rfl hS (fun wy hy => by first | (go_simp; done) | (go_simp; rfl) | rfl) ?_
          (try simp only [Act.put]); (try simp only [List.setIfInBounds_toArray, List.set_cons_zero, List.set_cons_succ])
          refine heldTake 22 _ rfl (by kernel_rfl) (by kernel_rfl) (by kernel_rfl) (fun _ _ _ h => h) rfl hS (fun wy hy => by first | (go_simp; done) | (go_simp; rfl) | rfl) ?_
          (try simp only [Act.put]); (try simp only [List.setIfInBounds_toArray, List.set_cons_zero, List.set_cons_succ])
          refine heldTake 23 _ rfl (by kernel_rfl) (by kernel_rfl) (by kernel_rfl) (fun _ _ _ h => h) rfl hS (fun wy hy => exec_valAt (g := w5.heap.size) (off := 0) (cs := c2) rfl rfl HZ2.out (fun k y hy2 => by rw [Nat.zero_add]; exact keep_below hy _ _ (blk_cell HG6.out hy2))) ?_
          (try simp only [Act.put]); (try simp only [List.setIfInBounds_toArray, List.set_cons_zero, List.set_cons_succ])
          refine heldTake 25 _ rfl (by kernel_rfl) (by kernel_rfl) (by kernel_rfl) (fun _ _ _ h => h) rfl hS (fun wy hy => by first | (go_simp; done) | (go_simp; rfl) | rfl) ?_
          (try simp only [Act.put]); (try simp only [List.setIfInBounds_toArray, List.set_cons_zero, List.set_cons_succ])
          refine heldTake 26 _ rfl (by kernel_rfl) (by kernel_rfl) (by kernel_rfl) (fun _ _ _ h => h) rfl hS (fun wy hy => by first | (go_simp; done) | (go_simp; rfl) | rfl) ?_
          (try simp only [Act.put]); (try simp only [List.setIfInBounds_toArray, List.set_cons_zero, List.set_cons_succ])
          refine heldTake 27 _ rfl (by kernel_rfl) (by kernel_rfl) (by kernel_rfl) (fun _ _ _ h => h) rfl hS (fun wy hy => by first | (go_simp; done) | (go_simp; rfl) | rfl) ?_
          (try simp only [Act.put]); (try simp only [List.setIfInBounds_toArray, List.set_cons_zero, List.set_cons_succ])
          refine heldTake 28 _ rfl (by kernel_rfl) (by kernel_rfl) (by kernel_rfl) (fun _ _ _ h => h) rfl hS (fun wy hy => exec_valAt (g := b) (off := off + i * 13) (cs := cu) rfl rfl HSU.out (fun k y hy2 => HCU.out wy (HV7.out.b.trans (hy.mono HV7.out.b.size)) k y hy2)) ?_
          (try simp only [Act.put]); (try simp only [List.setIfInBounds_toArray, List.set_cons_zero, List.set_cons_succ])
          refine heldStep 24 rfl (by kernel_rfl) (fun K hK => ?_)
          go_simp
          refine (sorted6_any u w13 c2 (HT7.out.move (keep_below hS)) (by have := HMU.out; omega)).mono ?_
          rintro e w14 ⟨c14, s14, rfl, hr14, hn14, hb14⟩
          refine (Hid.out hK) _ _ (hS.trans (hb14.mono hS.size)) (fun hS2 => ?_)
          clear hK K hS
          have hS := hS2
          clear hS2
          (try simp only [Act.put]); (try simp only [List.setIfInBounds_toArray, List.set_cons_zero, List.set_cons_succ])
          have HN14 := hide hn14.tin
          have HS14 := hide hr14
          clear hr14 hn14 hb14
          refine heldStep 29 rfl (by kernel_rfl) (fun K hK => ?_)
          go_simp
          refine (rsorted_any u w14 cu (HTU.out w14 (HV7.out.b.trans (hS.mono HV7.out.b.size))) (chk_trk HE0.out) (by have := HMU.out; omega)).mono ?_
          rintro e w15 ⟨c15, s15, rfl, ht15, hr15, hb15⟩
          have hse : s14 = s15 := srt_one HS14.out (chk_trk HE0.out) hr15
          subst hse
          have HN15 := hide ht15.tin
          have HN16 := hide (HN14.out.move (keep_below hb15))
          refine (Hid.out hK) _ _ (hS.trans (hb15.mono hS.size)) (fun hS2 => ?_)
          clear hK K hS
          have hS := hS2
          clear hS2
          (try simp only [Act.put]); (try simp only [List.setIfInBounds_toArray, List.set_cons_zero, List.set_cons_succ])
          clear ht15 hr15 hb15 HN14 HS14
          refine heldStep 30 rfl (by kernel_rfl) (fun K hK => ?_)
          go_simp
          refine (eqValue_any s14 s14 true (by simp) w15 c14 c15 HN16.out HN15.out).mono ?_
          rintro e w16 ⟨rfl, hb16⟩
          refine (Hid.out hK) _ _ (hS.trans (hb16.mono hS.size)) (fun hS2 => ?_)
          clear hK K hS
          have hS := hS2
          clear hS2
          (try simp only [Act.put]); (try simp only [List.setIfInBounds_toArray, List.set_cons_zero, List.set_cons_succ])
          clear hb16 HN15 HN16
          refine heldTake 31 _ rfl (by kernel_rfl) (by kernel_rfl) (by kernel_rfl) (fun _ _ _ h => h) rfl hS (fun wy hy => by first | (go_simp; done) | (go_simp; rfl) | rfl) ?_
          (try simp only [Act.put]); (try simp only [List.setIfInBounds_toArray, List.set_cons_zero, List.set_cons_succ])
          refine heldTake 32 _ rfl (by kernel_rfl) (by kernel_rfl) (by kernel_rfl) (fun _ _ _ h => h) rfl hS (fun wy hy => by first | (go_simp; done) | (go_simp; rfl) | rfl) ?_
          (try simp only [Act.put]); (try simp only [List.setIfInBounds_toArray, List.set_cons_zero, List.set_cons_succ])
          refine heldTake 33 _ rfl (by kernel_rfl) (by kernel_rfl) (by kernel_rfl) (fun _ _ _ h => h) rfl hS (fun wy hy => by first | (go_simp; done) | (go_simp; rfl) | rfl) ?_
          (try simp only [Act.put]); (try simp only [List.setIfInBounds_toArray, List.set_cons_zero, List.set_cons_succ])
          refine heldDone (by kernel_rfl) ?_
          have HV16 := hide (HV7.out.next hS)
          clear hS
          go_wp2_with fail
          go_roundw
          case rel => exact ⟨i + 1, M2, by omega, by go_num, HV16⟩
          case measure => simp [intOf]; omega
      · as_aux_lemma =>
          have ge0 : (((E : Nat) : Int) == 0) = false := beq_eq_false_iff_ne.2 (by omega)
          refine heldStart (S := fun wy => Below w7.heap.size w7 wy) (by kernel_rfl) ?_
          have hS : Below w7.heap.size w7 w7.drew := hS0
          generalize w7.drew = w8 at *
          clear hS0
          refine heldTake 0 _ rfl (by kernel_rfl) (by kernel_rfl) (by kernel_rfl) (fun _ _ _ h => h) rfl hS (fun wy hy => by first | (go_simp; done) | (go_simp; rfl) | rfl) ?_
          (try simp only [Act.put]); (try simp only [List.setIfInBounds_toArray, List.set_cons_zero, List.set_cons_succ])
          refine heldTake 1 (.bool false) rfl (by kernel_rfl) (by kernel_rfl) (by kernel_rfl) (fun _ _ _ h => h) rfl hS (fun wy hy => by first | (go_simp; done) | (go_simp; rfl)) ?_
          (try simp only [Act.put]); (try simp only [List.setIfInBounds_toArray, List.set_cons_zero, List.set_cons_succ])
          refine heldTake 2 _ rfl (by kernel_rfl) (by kernel_rfl) (by kernel_rfl) (fun _ _ _ h => h) rfl hS (fun wy hy => by first | (go_simp; done) | (go_simp; rfl) | rfl) ?_
          (try simp only [Act.put]); (try simp only [List.setIfInBounds_toArray, List.set_cons_zero, List.set_cons_succ])
          refine heldSkip 3 rfl (by kernel_rfl) (by kernel_rfl) (by kernel_rfl) (fun _ _ _ h => h) rfl hS ?_
          (try simp only [Act.put]); (try simp only [List.setIfInBounds_toArray, List.set_cons_zero, List.set_cons_succ])
          refine heldSkip 4 rfl (by kernel_rfl) (by kernel_rfl) (by kernel_rfl) (fun _ _ _ h => h) rfl hS ?_
          (try simp only [Act.put]); (try simp only [List.setIfInBounds_toArray, List.set_cons_zero, List.set_cons_succ])
          refine heldSkip 5 rfl (by kernel_rfl) (by kernel_rfl) (by kernel_rfl) (fun _ _ _ h => h) rfl hS ?_
          (try simp only [Act.put]); (try simp only [List.setIfInBounds_toArray, List.set_cons_zero, List.set_cons_succ])
          refine heldSkip 6 rfl (by kernel_rfl) (by kernel_rfl) (by kernel_rfl) (fun _ _ _ h => h) rfl hS ?_
          (try simp only [Act.put]); (try simp only [List.setIfInBounds_toArray, List.set_cons_zero, List.set_cons_succ])
          refine heldSkip 7 rfl (by kernel_rfl) (by kernel_rfl) (by kernel_rfl) (fun _ _ _ h => h) rfl hS ?_
          (try simp only [Act.put]); (try simp only [List.setIfInBounds_toArray, List.set_cons_zero, List.set_cons_succ])
          refine heldSkip 8 rfl (by kernel_rfl) (by kernel_rfl) (by kernel_rfl) (fun _ _ _ h => h) rfl hS ?_
          (try simp only [Act.put]); (try simp only [List.setIfInBounds_toArray, List.set_cons_zero, List.set_cons_succ])
          refine heldSkip 9 rfl (by kernel_rfl) (by kernel_rfl) (by kernel_rfl) (fun _ _ _ h => h) rfl hS ?_
          (try simp only [Act.put]); (try simp only [List.setIfInBounds_toArray, List.set_cons_zero, List.set_cons_succ])
          refine heldSkip 10 rfl (by kernel_rfl) (by kernel_rfl) (by kernel_rfl) (fun _ _ _ h => h) rfl hS ?_
          (try simp only [Act.put]); (try simp only [List.setIfInBounds_toArray, List.set_cons_zero, List.set_cons_succ])
          refine heldSkip 11 rfl (by kernel_rfl) (by kernel_rfl) (by kernel_rfl) (fun _ _ _ h => h) rfl hS ?_
          (try simp only [Act.put]); (try simp only [List.setIfInBounds_toArray, List.set_cons_zero, List.set_cons_succ])
          refine heldSkip 12 rfl (by kernel_rfl) (by kernel_rfl) (by kernel_rfl) (fun _ _ _ h => h) rfl hS ?_
          (try simp only [Act.put]); (try simp only [List.setIfInBounds_toArray, List.set_cons_zero, List.set_cons_succ])
          refine heldSkip 13 rfl (by kernel_rfl) (by kernel_rfl) (by kernel_rfl) (fun _ _ _ h => h) rfl hS ?_
          (try simp only [Act.put]); (try simp only [List.setIfInBounds_toArray, List.set_cons_zero, List.set_cons_succ])
          refine heldSkip 14 rfl (by kernel_rfl) (by kernel_rfl) (by kernel_rfl) (fun _ _ _ h => h) rfl hS ?_
          (try simp only [Act.put]); (try simp only [List.setIfInBounds_toArray, List.set_cons_zero, List.set_cons_succ])
          refine heldSkip 15 rfl (by kernel_rfl) (by kernel_rfl) (by kernel_rfl) (fun _ _ _ h => h) rfl hS ?_
          (try simp only [Act.put]); (try simp only [List.setIfInBounds_toArray, List.set_cons_zero, List.set_cons_succ])
          refine heldSkip 16 rfl (by kernel_rfl) (by kernel_rfl) (by kernel_rfl) (fun _ _ _ h => h) rfl hS ?_
          (try simp only [Act.put]); (try simp only [List.setIfInBounds_toArray, List.set_cons_zero, List.set_cons_succ])
          refine heldSkip 17 rfl (by kernel_rfl) (by kernel_rfl) (by kernel_rfl) (fun _ _ _ h => h) rfl hS ?_
          (try simp only [Act.put]); (try simp only [List.setIfInBounds_toArray, List.set_cons_zero, List.set_cons_succ])
          refine heldSkip 18 rfl (by kernel_rfl) (by kernel_rfl) (by kernel_rfl) (fun _ _ _ h => h) rfl hS ?_
          (try simp only [Act.put]); (try simp only [List.setIfInBounds_toArray, List.set_cons_zero, List.set_cons_succ])
          refine heldSkip 19 rfl (by kernel_rfl) (by kernel_rfl) (by kernel_rfl) (fun _ _ _ h => h) rfl hS ?_
          (try simp only [Act.put]); (try simp only [List.setIfInBounds_toArray, List.set_cons_zero, List.set_cons_succ])
          refine heldSkip 20 rfl (by kernel_rfl) (by kernel_rfl) (by kernel_rfl) (fun _ _ _ h => h) rfl hS ?_
          (try simp only [Act.put]); (try simp only [List.setIfInBounds_toArray, List.set_cons_zero, List.set_cons_succ])
          refine heldSkip 21 rfl (by kernel_rfl) (by kernel_rfl) (by kernel_rfl) (fun _ _ _ h => h) rfl hS ?_
          (try simp only [Act.put]); (try simp only [List.setIfInBounds_toArray, List.set_cons_zero, List.set_cons_succ])
          refine heldSkip 22 rfl (by kernel_rfl) (by kernel_rfl) (by kernel_rfl) (fun _ _ _ h => h) rfl hS ?_
          (try simp only [Act.put]); (try simp only [List.setIfInBounds_toArray, List.set_cons_zero, List.set_cons_succ])
          refine heldSkip 23 rfl (by kernel_rfl) (by kernel_rfl) (by kernel_rfl) (fun _ _ _ h => h) rfl hS ?_
          (try simp only [Act.put]); (try simp only [List.setIfInBounds_toArray, List.set_cons_zero, List.set_cons_succ])
          refine heldSkip 24 rfl (by kernel_rfl) (by kernel_rfl) (by kernel_rfl) (fun _ _ _ h => h) rfl hS ?_
          (try simp only [Act.put]); (try simp only [List.setIfInBounds_toArray, List.set_cons_zero, List.set_cons_succ])
          refine heldSkip 25 rfl (by kernel_rfl) (by kernel_rfl) (by kernel_rfl) (fun _ _ _ h => h) rfl hS ?_
          (try simp only [Act.put]); (try simp only [List.setIfInBounds_toArray, List.set_cons_zero, List.set_cons_succ])
          refine heldSkip 26 rfl (by kernel_rfl) (by kernel_rfl) (by kernel_rfl) (fun _ _ _ h => h) rfl hS ?_
          (try simp only [Act.put]); (try simp only [List.setIfInBounds_toArray, List.set_cons_zero, List.set_cons_succ])
          refine heldSkip 27 rfl (by kernel_rfl) (by kernel_rfl) (by kernel_rfl) (fun _ _ _ h => h) rfl hS ?_
          (try simp only [Act.put]); (try simp only [List.setIfInBounds_toArray, List.set_cons_zero, List.set_cons_succ])
          refine heldSkip 28 rfl (by kernel_rfl) (by kernel_rfl) (by kernel_rfl) (fun _ _ _ h => h) rfl hS ?_
          (try simp only [Act.put]); (try simp only [List.setIfInBounds_toArray, List.set_cons_zero, List.set_cons_succ])
          refine heldSkip 29 rfl (by kernel_rfl) (by kernel_rfl) (by kernel_rfl) (fun _ _ _ h => h) rfl hS ?_
          (try simp only [Act.put]); (try simp only [List.setIfInBounds_toArray, List.set_cons_zero, List.set_cons_succ])
          refine heldSkip 30 rfl (by kernel_rfl) (by kernel_rfl) (by kernel_rfl) (fun _ _ _ h => h) rfl hS ?_
          (try simp only [Act.put]); (try simp only [List.setIfInBounds_toArray, List.set_cons_zero, List.set_cons_succ])
          refine heldSkip 31 rfl (by kernel_rfl) (by kernel_rfl) (by kernel_rfl) (fun _ _ _ h => h) rfl hS ?_
          (try simp only [Act.put]); (try simp only [List.setIfInBounds_toArray, List.set_cons_zero, List.set_cons_succ])
          refine heldSkip 32 rfl (by kernel_rfl) (by kernel_rfl) (by kernel_rfl) (fun _ _ _ h => h) rfl hS ?_
          (try simp only [Act.put]); (try simp only [List.setIfInBounds_toArray, List.set_cons_zero, List.set_cons_succ])
          refine heldTake 33 _ rfl (by kernel_rfl) (by kernel_rfl) (by kernel_rfl) (fun _ _ _ h => h) rfl hS (fun wy hy => by first | (go_simp; done) | (go_simp; rfl) | rfl) ?_
          (try simp only [Act.put]); (try simp only [List.setIfInBounds_toArray, List.set_cons_zero, List.set_cons_succ])
          refine heldDone (by kernel_rfl) ?_
          have HV8 := hide (HV7.out.next hS)
          clear hS
          go_wp2_with fail
          go_roundw
          case rel => exact ⟨i + 1, M2, by omega, by go_num, HV8⟩
          case measure => simp [intOf]; omega
    · as_aux_lemma =>
      have g1 : ¬ (i : Int) < (is.length : Int) := by omega
      have HTB := hide (HT.out.next HV.out.b)
      go_wp2_with fail
      refine (wakes_any wr HTB.out).mono ?_
      rintro e w4 ⟨rfl, hb4⟩
      have HV4 := hide (HV.out.next hb4)
      clear hb4 HV
      go_wp2_with fail
      go_ret
      exact ⟨rfl, HV4.out.b⟩
end
section
open Go.RowKit Go
theorem acc_eq : (Rows.laid_unicode_utf8_acceptRanges : DataW Unit) = Lib.acceptData := by kernel_rfl
theorem fst_eq : Rows.laid_unicode_utf8_first = Lib.firstData := by kernel_rfl
theorem tabs_of_laid {W : World} (h : laidMet Tryd.prog [("unicode/utf8.acceptRanges", Rows.laid_unicode_utf8_acceptRanges), ("unicode/utf8.first", Rows.laid_unicode_utf8_first)] W) : Tabs W := by
  rw [acc_eq, fst_eq] at h
  exact utf8Tabs_of_readsT (U8Types.of196 Tryd.laysValid) ⟨by kernel_rfl, by kernel_rfl, by kernel_rfl, by kernel_rfl, by kernel_rfl, by kernel_rfl, by kernel_rfl⟩ (Lib.laidMet.reads h (.tail _ (.head _))) (Lib.laidMet.reads h (.head _))
/-- The settled world, the tables laid. -/
noncomputable def laidWorld6 (os : Os) : World :=
  let w0 := World.holding Tryd.prog os ⟨#[], #[], []⟩
  let put (h : Array Obj) (g : Nat) (cs : Array Value) : Array Obj := h.modify g fun
    | .cells _ t frozen => .cells cs t frozen
    | o => o
  let h1 := put w0.heap 1 (Lib.firstTab.map fun z => Value.int .u8 z).toArray
  let h2 := put h1 2 ((List.range 16).flatMap fun i => [Value.int .u8 (Lib.accLo i), Value.int .u8 (Lib.accHi i)]).toArray
  { w0 with heap := h2 }
theorem laid_met6 (os : Os) (args : Array Value) : laidMet Tryd.prog [("unicode/utf8.acceptRanges", Rows.laid_unicode_utf8_acceptRanges), ("unicode/utf8.first", Rows.laid_unicode_utf8_first)] ((laidWorld6 os).forCall (fun _ _ => 0) ⟨#[], args, []⟩).memory := by
  rw [acc_eq, fst_eq]
  exact (LaidIn.of_run (l := [("unicode/utf8.acceptRanges", Lib.acceptData), ("unicode/utf8.first", Lib.firstData)]) [2, 1] 8 (by kernel_rfl) (by kernel_rfl) (by kernel_rfl) (by kernel_rfl)).met
end
section
open Go.ChangeShapes Go.WideShapes Go.ChangeAt Go.RowKit Go.Deep Go.Joins Go
theorem weight_le {H : Type} {t : TypeId} {d : DataW H} (h : (d.weights Tryd.prog t).all (· ≤ reachBytes) = true) {n : Nat} (hn : n ∈ d.weights Tryd.prog t) : n ≤ 140737488351232 := by
  have := List.all_eq_true.1 h n hn
  unfold reachBytes at this
  simpa using this
theorem weight_each {H : Type} {ts : List TypeId} {ds : List (DataW H)} (h : (DataW.weightsEach Tryd.prog ts ds).all (· ≤ reachBytes) = true) {j : Nat} {t : TypeId} {d : DataW H} (ht : ts[j]? = some t) (hd : ds[j]? = some d) : (d.weights Tryd.prog t).all (· ≤ reachBytes) = true :=
  List.all_eq_true.2 fun n hn => List.all_eq_true.1 h n (DataW.weights_mem_each ht hd n hn)
theorem bsl_open6 {H : Type} {enc : TypeId × Value → H} {w : World} {base fuel : Nat} {held : Bool} {v : Value} {x : DataW H × List MemPlace} (h : DataW.trod enc Tryd.prog w base (fun _ => true) held fuel 25 [v] = some x) (hW : (x.1.weights Tryd.prog 25).all (· ≤ reachBytes) = true) : ∃ xs, BSl w v xs ∧ xs.length ≤ 140737488351232 := by
  rcases open_ints Tryd.underlying25 Tryd.underlying5 Tryd.cells5 h with ⟨hcs, _⟩ | ⟨a, len, cap, zs, hcs, _, hl, hm, hz, hx, hcell, hwz⟩
  · injection hcs with hcs _
    subst hcs
    exact ⟨_, bsl_of_row none 0 0 [] (Nat.le_refl _) (Nat.zero_le _) rfl (by simp) (fun _ => rfl) (fun _ hh => by cases hh), by simp⟩
  · injection hcs with hcs _
    subst hcs
    simp only [if_true] at hz
    refine ⟨_, bsl_of_row (some a) len cap zs hl hm hz hwz (fun hh => by cases hh) (fun a' hh c hc => by cases hh; exact hcell c (by omega)), ?_⟩
    have h1 := weight_le hW (n := cap) (by rw [hx]; exact row_weight a len cap zs hz)
    have hlen : ((zs.take len).map Int.toNat).length = len := by simp; omega
    omega
theorem Tryd.bytesStr : Tryd.prog.bytesOf 9 = 16 := by kernel_rfl
theorem Tryd.bytesValue : Tryd.prog.bytesOf 38 = 160 := by kernel_rfl
theorem ssl_open {H : Type} {enc : TypeId × Value → H} {w : World} {base fuel : Nat} {held : Bool} {v : Value} {x : DataW H × List MemPlace} (h : DataW.trod enc Tryd.prog w base (fun _ => true) held fuel 26 [v] = some x) (hW : (x.1.weights Tryd.prog 26).all (· ≤ reachBytes) = true) : ∃ ks, SSl w v ks := by
  rcases open_strings Tryd.underlying26 Tryd.underlying9 Tryd.cells_str h with ⟨hcs, _⟩ | ⟨a, len, cap, ss, hcs, _, hl, hm, hmm, hx, hel, hsz⟩
  · injection hcs with hcs _
    subst hcs
    exact ⟨[], ⟨none, 0, rfl, ⟨by simp, fun _ => rfl⟩, .inl rfl⟩, by simp, by simp⟩
  · injection hcs with hcs _
    subst hcs
    simp only [if_true] at hmm
    have hlen : (ss.take len).length = len := by rw [List.length_take]; omega
    unfold maxLen at hm
    have hw1 : len ≤ 140737488351232 := by
      have h1 := weight_le hW (n := ((strs (H := H) (ss.take len)).length + (strs (H := H) (ss.drop len)).length) * Tryd.prog.bytesOf 9) (by rw [hx]; simp only [DataW.weights, Tryd.underlying26]; exact List.mem_cons_self ..)
      rw [Tryd.bytesStr] at h1
      have h2 : (strs (H := H) (ss.take len)).length = len := by simp [strs]; omega
      omega
    have hw2 : ∀ s ∈ ss.take len, s.size ≤ 140737488351232 := fun s hs => by
      refine weight_le hW ?_
      rw [hx]
      simp only [DataW.weights, Tryd.underlying26]
      refine List.mem_cons.2 (.inr (List.mem_append.2 (.inl (weights_all (d := .lit (.string s.data.toList)) (List.mem_map.2 ⟨s, hs, rfl⟩) _ ?_))))
      simp only [DataW.weights, List.mem_singleton]
      rfl
    refine ⟨ss.take len, ⟨some a, cap, by rw [hlen], ⟨by rw [hlen]; exact hl, fun h => by cases h⟩, ?_⟩, by rw [hlen]; exact hw1, hw2⟩
    by_cases hz : len = 0
    · exact .inl (by rw [hz]; rfl)
    · obtain ⟨b, off, spot⟩ := a
      have hspot : spot = none := by
        have := hel 0 (by omega)
        simpa [Addr.add] using World.cell?_spot this
      subst hspot
      refine .inr ⟨b, off, rfl, fun j s hj => ?_⟩
      have hjl : j < len := by
        have := (List.getElem?_eq_some_iff.1 hj).1
        omega
      have h1 := hel j (by omega)
      rw [addr_add] at h1
      rw [h1]
      rw [List.getElem?_take_of_lt hjl] at hj
      rw [List.getD_eq_getElem?_getD, hj]
      rfl
theorem vsl_of {w : World} {a : Addr} {len cap : Nat} (hl : len ≤ cap) (hm : len ≤ 140737488351232) (each : ∀ i, i < len → ∃ t cs', Tin w t cs' ∧ ∀ j u, cs'[j]? = some u → w.cell? ((a.add (i * 13)).add j) = some u) : ∃ is, VSl w (.slice (some a) len cap) is := by
  have hch : ∀ i, ∃ t : Tv, i < len → ∃ cs', Tin w t cs' ∧ ∀ j u, cs'[j]? = some u → w.cell? ((a.add (i * 13)).add j) = some u := fun i => by
    by_cases hi : i < len
    · obtain ⟨t, h⟩ := each i hi
      exact ⟨t, fun _ => h⟩
    · exact ⟨.mk 0 false false 0 0 ByteArray.empty [] ⟨0, 0, 0, []⟩ [] [], fun h => absurd h hi⟩
  obtain ⟨f, hf⟩ := Classical.axiomOfChoice hch
  have hln : ((List.range len).map f).length = len := by simp
  refine ⟨(List.range len).map f, ⟨some a, cap, by rw [hln], ⟨by rw [hln]; exact hl, fun h => by cases h⟩, ?_⟩, by rw [hln]; omega⟩
  by_cases hz : len = 0
  · exact .inl (by rw [hz]; rfl)
  · obtain ⟨b, off, spot⟩ := a
    have hspot : spot = none := by
      obtain ⟨t, cs', ht, hc⟩ := each 0 (by omega)
      obtain ⟨vy, vk, vi, he, _⟩ := ht.parts
      have := hc 0 (.int .i64 t.k) (by rw [he]; rfl)
      simpa [Addr.add] using World.cell?_spot this
    subst hspot
    refine .inr ⟨b, off, rfl, fun i t hi => ?_⟩
    have hil : i < len := by
      have := (List.getElem?_eq_some_iff.1 hi).1
      omega
    rw [List.getElem?_map, List.getElem?_range hil] at hi
    injection hi with hi
    subst hi
    obtain ⟨cs', h1, h2⟩ := hf i hil
    refine ⟨cs', h1, fun j u hu => ?_⟩
    have := h2 j u hu
    rw [addr_add, addr_add] at this
    exact this
theorem Tryd.cellsValue : Tryd.prog.cellsOf 38 = 13 := by kernel_rfl
theorem Tryd.cells_bool : Tryd.prog.cellsOf 4 = 1 := by kernel_rfl
theorem Tryd.cells_strs : Tryd.prog.cellsOf 26 = 1 := by kernel_rfl
theorem Tryd.cells_values : Tryd.prog.cellsOf 22 = 1 := by kernel_rfl
theorem Tryd.cells_bytes6 : Tryd.prog.cellsOf 25 = 1 := by kernel_rfl
set_option maxRecDepth 100000 in
/-- A value opened. -/
theorem value_open {H : Type} {enc : TypeId × Value → H} {w : World} {base : Nat} {held : Bool} : ∀ (fuel : Nat) (cs : List Value) (x : DataW H × List MemPlace), DataW.trod enc Tryd.prog w base (fun _ => true) held fuel 38 cs = some x → (x.1.weights Tryd.prog 38).all (· ≤ reachBytes) = true → ∃ t, Tin w t cs.toArray := by
  intro fuel
  induction fuel using Nat.strongRecOn with
  | _ fuel ih =>
    intro cs x h hW
    obtain ⟨xs, n, hfu, hx, hlen, hxl, hf⟩ := DataW.trod_struct Tryd.underlying38 h
    rw [Tryd.cellsValue] at hlen
    match cs, hlen, xs, hxl with
    | [c0, c1, c2, c3, c4, c5, c6, c7, c8, c9, c10, c11, c12], _, [y0, y1, y2, y3, y4, y5, y6, y7, y8, y9], _ =>
      have g0 : DataW.trod enc Tryd.prog w base (fun _ => true) held n 3 [c0] = some y0 := by simpa [Tryd.cells_int] using hf 0 _ rfl
      have g1 : DataW.trod enc Tryd.prog w base (fun _ => true) held n 4 [c1] = some y1 := by simpa [Tryd.cells_bool] using hf 1 _ rfl
      have g2 : DataW.trod enc Tryd.prog w base (fun _ => true) held n 4 [c2] = some y2 := by simpa [Tryd.cells_bool] using hf 2 _ rfl
      have g3 : DataW.trod enc Tryd.prog w base (fun _ => true) held n 34 [c3] = some y3 := by simpa [Tryd.cells_u64] using hf 3 _ rfl
      have g4 : DataW.trod enc Tryd.prog w base (fun _ => true) held n 34 [c4] = some y4 := by simpa [Tryd.cells_u64] using hf 4 _ rfl
      have g5 : DataW.trod enc Tryd.prog w base (fun _ => true) held n 9 [c5] = some y5 := by simpa [Tryd.cells_str] using hf 5 _ rfl
      have g6 : DataW.trod enc Tryd.prog w base (fun _ => true) held n 25 [c6] = some y6 := by simpa [Tryd.cells_bytes6] using hf 6 _ rfl
      have g7 : DataW.trod enc Tryd.prog w base (fun _ => true) held n 36 [c7, c8, c9, c10] = some y7 := by simpa [Tryd.cellsLink] using hf 7 _ rfl
      have g8 : DataW.trod enc Tryd.prog w base (fun _ => true) held n 26 [c11] = some y8 := by simpa [Tryd.cells_strs] using hf 8 _ rfl
      have g9 : DataW.trod enc Tryd.prog w base (fun _ => true) held n 22 [c12] = some y9 := by simpa [Tryd.cells_values] using hf 9 _ rfl
      have hWE : (DataW.weightsEach Tryd.prog [3, 4, 4, 34, 34, 9, 25, 36, 26, 22] [y0.1, y1.1, y2.1, y3.1, y4.1, y5.1, y6.1, y7.1, y8.1, y9.1]).all (· ≤ reachBytes) = true := by
        rw [hx] at hW
        simp only [DataW.weights, Tryd.underlying38] at hW
        exact hW
      obtain ⟨n0, f0, _, _⟩ := DataW.trod_int (fuel := n) (cs := [c0]) Tryd.underlying3 g0
      obtain ⟨b1, f1, _⟩ := DataW.trod_bool (fuel := n) (cs := [c1]) Tryd.underlying4 g1
      obtain ⟨b2, f2, _⟩ := DataW.trod_bool (fuel := n) (cs := [c2]) Tryd.underlying4 g2
      obtain ⟨n3, f3, _, w3⟩ := DataW.trod_int (fuel := n) (cs := [c3]) Tryd.underlying34 g3
      obtain ⟨n4, f4, _, w4⟩ := DataW.trod_int (fuel := n) (cs := [c4]) Tryd.underlying34 g4
      obtain ⟨s5, f5, hx5, hs5⟩ := DataW.trod_string (fuel := n) (cs := [c5]) Tryd.underlying9 g5
      obtain ⟨y, hy, hyl⟩ := bsl_open6 g6 (weight_each hWE (j := 6) rfl rfl)
      obtain ⟨z0, z1, z2, z3, k, hx7, _, e0, e1, e2, e3⟩ := trod_struct4 Tryd.underlying36 g7
      obtain ⟨m0, f7, _, _⟩ := DataW.trod_int (fuel := k) (cs := [c7]) Tryd.underlying3 (by simpa [Tryd.cells_int] using e0)
      obtain ⟨m1, f8, _, w8⟩ := DataW.trod_int (fuel := k) (cs := [c8]) Tryd.underlying34 (by simpa [Tryd.cells_u64] using e1)
      obtain ⟨m2, f9, _, w9⟩ := DataW.trod_int (fuel := k) (cs := [c9]) Tryd.underlying34 (by simpa [Tryd.cells_u64] using e2)
      obtain ⟨s10, f10, hx10, hs10⟩ := DataW.trod_string (fuel := k) (cs := [c10]) Tryd.underlying9 (by simpa [Tryd.cells_str] using e3)
      obtain ⟨ks, hk⟩ := ssl_open g8 (weight_each hWE (j := 8) rfl rfl)
      injection f0 with f0 _
      injection f1 with f1 _
      injection f2 with f2 _
      injection f3 with f3 _
      injection f4 with f4 _
      injection f5 with f5 _
      injection f7 with f7 _
      injection f8 with f8 _
      injection f9 with f9 _
      injection f10 with f10 _
      subst f0 f1 f2 f3 f4 f5 f7 f8 f9 f10
      have b3 := bounds_u64 w3
      have b4 := bounds_u64 w4
      have b8 := bounds_u64 w8
      have b9 := bounds_u64 w9
      have hs5 : s5.size ≤ 140737488351232 := weight_le (weight_each hWE (j := 5) (t := 9) rfl rfl) (by rw [hx5]; simp only [DataW.weights, List.mem_singleton]; rfl)
      have hW7 := weight_each hWE (j := 7) (t := 36) rfl rfl
      have hs10 : s10.size ≤ 140737488351232 := by
        rw [hx7] at hW7
        simp only [DataW.weights, Tryd.underlying36] at hW7
        exact weight_le (weight_each hW7 (j := 3) (t := 9) rfl rfl) (by rw [hx10]; simp only [DataW.weights, List.mem_singleton]; rfl)
      have hW9 := weight_each hWE (j := 9) (t := 22) rfl rfl
      have hv : ∃ is, VSl w c12 is := by
        rcases DataW.trod_slice Tryd.underlying22 g9 with ⟨hcs, _⟩ | ⟨a, len, cap, elems, rest, m, hfm, hcs, hx9, hb, hl, hm, hlen2, hel, _, _⟩
        · injection hcs with hcs _
          subst hcs
          exact ⟨[], ⟨none, 0, rfl, ⟨by simp, fun _ => rfl⟩, .inl rfl⟩, by simp⟩
        · injection hcs with hcs _
          subst hcs
          have hm2 : len ≤ 140737488351232 := by
            have h1 := weight_le hW9 (n := ((elems.map (·.1)).length + (rest.map (·.1)).length) * Tryd.prog.bytesOf 38) (by rw [hx9]; simp only [DataW.weights, Tryd.underlying22]; exact List.mem_cons_self ..)
            rw [Tryd.bytesValue, List.length_map] at h1
            omega
          have hwe : ∀ (i : Nat) (z : DataW H × List MemPlace), elems[i]? = some z → (z.1.weights Tryd.prog 38).all (· ≤ reachBytes) = true := fun i z hz => List.all_eq_true.2 fun n hn => by
            refine List.all_eq_true.1 hW9 n ?_
            rw [hx9]
            simp only [DataW.weights, Tryd.underlying22]
            exact List.mem_cons.2 (.inr (List.mem_append.2 (.inl (weights_all (List.mem_map.2 ⟨z, List.mem_of_getElem? hz, rfl⟩) n hn))))
          have each : ∀ i, i < len → ∃ t cs', Tin w t cs' ∧ ∀ j u, cs'[j]? = some u → w.cell? ((a.add (i * 13)).add j) = some u := by
            intro i hi
            have h1 := hel i hi
            rw [Tryd.cellsValue] at h1
            have h2 : ∃ z, elems[i]? = some z := ⟨elems[i]'(by omega), List.getElem?_eq_getElem (by omega)⟩
            obtain ⟨z, hz⟩ := h2
            rw [hz] at h1
            obtain ⟨cs', h3, h4⟩ := Option.bind_eq_some_iff.1 h1
            obtain ⟨t, ht⟩ := ih m (by omega) cs' z h4 (hwe i z hz)
            obtain ⟨_, hln, hcell⟩ := World.cells?_some h3
            refine ⟨t, cs'.toArray, ht, fun j u hu => ?_⟩
            rw [List.getElem?_toArray] at hu
            have hj : j < 13 := by
              have := (List.getElem?_eq_some_iff.1 hu).1
              omega
            rw [hcell j hj]
            exact hu
          exact vsl_of hl hm2 each
      obtain ⟨is, hi⟩ := hv
      refine ⟨.mk n0 b1 b2 n3.toNat n4.toNat s5 y ⟨m0, m1.toNat, m2.toNat, sl s10⟩ ks is, ?_⟩
      have q3 : ((n3.toNat : Nat) : Int) = n3 := by omega
      have q4 : ((n4.toNat : Nat) : Int) = n4 := by omega
      have q8 : ((m1.toNat : Nat) : Int) = m1 := by omega
      have q9 : ((m2.toNat : Nat) : Int) = m2 := by omega
      have hT := Tin.of (t := .mk n0 b1 b2 n3.toNat n4.toNat s5 y ⟨m0, m1.toNat, m2.toNat, sl s10⟩ ks is) (vy := c6) (vk := c11) (vi := c12) hy hk hi ⟨by show n3.toNat < _; omega, by show n4.toNat < _; omega, hs5, hyl, ⟨by show m1.toNat < _; omega, by show m2.toNat < _; omega, sl_byte s10, by show (sl s10).length ≤ _; rw [sl_len]; omega⟩, by show (sl s10).length ≤ _; rw [sl_len]; exact hs10⟩
      have e : vcs (.mk n0 b1 b2 n3.toNat n4.toNat s5 y ⟨m0, m1.toNat, m2.toNat, sl s10⟩ ks is) c6 c11 c12 = [.int .i64 n0, .bool b1, .bool b2, .int .u64 n3, .int .u64 n4, .string s5, c6, .int .i64 m0, .int .u64 m1, .int .u64 m2, .string s10, c11, c12].toArray := by
        simp only [vcs, Tv.k, Tv.f, Tv.g, Tv.n, Tv.b, Tv.s, Tv.l, nstr_sl, q3, q4, q8, q9]
      rw [e] at hT
      exact hT
/-- A slice of values opened. -/
theorem values_open {H : Type} {enc : TypeId × Value → H} {w : World} {base fuel : Nat} {held : Bool} {v : Value} {x : DataW H × List MemPlace} (h : DataW.trod enc Tryd.prog w base (fun _ => true) held fuel 22 [v] = some x) (hW : (x.1.weights Tryd.prog 22).all (· ≤ reachBytes) = true) : ∃ is, VSl w v is := by
  rcases DataW.trod_slice Tryd.underlying22 h with ⟨hcs, _⟩ | ⟨a, len, cap, elems, rest, m, hfm, hcs, hx9, hb, hl, hm, hlen2, hel, _, _⟩
  · injection hcs with hcs _
    subst hcs
    exact ⟨[], ⟨none, 0, rfl, ⟨by simp, fun _ => rfl⟩, .inl rfl⟩, by simp⟩
  · injection hcs with hcs _
    subst hcs
    have hm2 : len ≤ 140737488351232 := by
      have h1 := weight_le hW (n := ((elems.map (·.1)).length + (rest.map (·.1)).length) * Tryd.prog.bytesOf 38) (by rw [hx9]; simp only [DataW.weights, Tryd.underlying22]; exact List.mem_cons_self ..)
      rw [Tryd.bytesValue, List.length_map] at h1
      omega
    have hwe : ∀ (i : Nat) (z : DataW H × List MemPlace), elems[i]? = some z → (z.1.weights Tryd.prog 38).all (· ≤ reachBytes) = true := fun i z hz => List.all_eq_true.2 fun n hn => by
      refine List.all_eq_true.1 hW n ?_
      rw [hx9]
      simp only [DataW.weights, Tryd.underlying22]
      exact List.mem_cons.2 (.inr (List.mem_append.2 (.inl (weights_all (List.mem_map.2 ⟨z, List.mem_of_getElem? hz, rfl⟩) n hn))))
    refine vsl_of hl hm2 fun i hi => ?_
    have h1 := hel i hi
    rw [Tryd.cellsValue] at h1
    have h2 : ∃ z, elems[i]? = some z := ⟨elems[i]'(by omega), List.getElem?_eq_getElem (by omega)⟩
    obtain ⟨z, hz⟩ := h2
    rw [hz] at h1
    obtain ⟨cs', h3, h4⟩ := Option.bind_eq_some_iff.1 h1
    obtain ⟨t, ht⟩ := value_open m cs' z h4 (hwe i z hz)
    obtain ⟨_, hln, hcell⟩ := World.cells?_some h3
    refine ⟨t, cs'.toArray, ht, fun j u hu => ?_⟩
    rw [List.getElem?_toArray] at hu
    have hj : j < 13 := by
      have := (List.getElem?_eq_some_iff.1 hu).1
      omega
    rw [hcell j hj]
    exact hu
end
end Go.Proofs.YtglbllkmhedlfaaDoor

import Derived.Test.YtagkogpjckjobaaGreatDoorJd
import Derived.Test.YtagkogpjckjobaaGreatDoorSlcf
import Derived.Lib.TrimUEq
namespace Go.Proofs.YtagkogpjckjobaaGreatDoor
section
open Go.RowKit Go
/-! ### Names -/
theorem decN_ge {n b0 b1 b2 b3 : Nat} (h : ¬ b0 < 128) : 128 ≤ (Lib.decodeN n b0 b1 b2 b3).1 := by
  unfold Lib.decodeN
  rw [if_neg h]
  repeat' split
  all_goals simp only
  all_goals omega
theorem nby_hi {r : Nat} (h : 128 ≤ r) : nby r = false := by
  unfold nby
  simp only [Bool.or_eq_false_iff, decide_eq_false_iff_not]
  omega
def strg (r : Nat) : Bool := !nby r
theorem idx_name (s : ByteArray) : ∀ (f pos : Nat), s.data.toList.length ≤ pos + f → decide (0 ≤ Lib.idxFuncFrom strg true s f pos) = !((s.data.toList.drop pos).all fun c => nby c.toNat)
  | 0, pos, h => by
    rw [List.drop_of_length_le (by omega)]
    rfl
  | f + 1, pos, h => by
    unfold Lib.idxFuncFrom
    have hs : s.size = s.data.toList.length := by rw [Array.length_toList]; rfl
    by_cases hp : pos < s.size
    · rw [if_pos hp]
      have hp' : pos < s.data.toList.length := by omega
      have hd := Lib.decode_N s pos
      have hg : s.data.toList.getD pos 0 = s.data.toList[pos] := by simp [List.getD, List.getElem?_eq_getElem hp']
      rw [hg] at hd
      rw [List.drop_eq_getElem_cons hp', List.all_cons]
      generalize s.data.toList[pos] = c at *
      by_cases hc : c.toNat < 128
      · have hd2 : Utf8.decode s pos = (c.toNat, 1) := by rw [hd]; unfold Lib.decodeN; rw [if_pos hc]
        rw [hd2]
        simp only [strg]
        rcases Bool.eq_false_or_eq_true (nby c.toNat) with hn | hn
        · simp only [hn, Bool.not_true, Bool.false_eq_true, if_false, Bool.true_and]
          exact idx_name s f (pos + 1) (by omega)
        · simp [hn]
      · have h1 : strg (Utf8.decode s pos).1 = true := by
          unfold strg
          rw [hd, nby_hi (decN_ge hc)]
          rfl
        rw [if_pos h1, nby_hi (by omega : 128 ≤ c.toNat)]
        simp
    · rw [if_neg hp, List.drop_of_length_le (by omega)]
      rfl
theorem idx_all (s : ByteArray) : decide (0 ≤ Lib.idxFunc strg true s) = !(s.data.toList.all fun c => nby c.toNat) := by
  have h := idx_name s s.size 0 (by rw [Array.length_toList, Nat.zero_add]; exact Nat.le_refl _)
  rw [List.drop_zero] at h
  exact h
set_option maxRecDepth 1000000 in
set_option maxHeartbeats 1000000 in
theorem strange_any (r : Nat) (w : World) : Calls Tryz.prog 68 #[.int .i32 (r : Int)] w fun e w' => e = .returned (.bool (strg r)) ∧ w' = w := by
  by_cases h1 : 97 ≤ r
  · have g1 : (97 : Int) ≤ (r : Int) := by omega
    by_cases h2 : r ≤ 122
    · have g2 : (r : Int) ≤ 122 := by omega
      have HK : Hid (strg r = false) := by show _ = _; unfold strg nby; rw [decide_eq_true (show 97 ≤ r ∧ r ≤ 122 from ⟨h1, h2⟩)]; rfl
      clear h1 h2
      go_enter Tryz.func68, Tryz.ntmps68
      go_wp2_with fail
      go_ret
      exact ⟨by rw [HK.out]; rfl, rfl⟩
    · have g2 : ¬ (r : Int) ≤ 122 := by omega
      have g3 : (65 : Int) ≤ (r : Int) := by omega
      have g4 : ¬ (r : Int) ≤ 90 := by omega
      have g5 : (48 : Int) ≤ (r : Int) := by omega
      have g6 : ¬ (r : Int) ≤ 57 := by omega
      have g7 : ((r : Int) == 45) = false := beq_eq_false_iff_ne.2 (by omega)
      have g8 : ((r : Int) == 46) = false := beq_eq_false_iff_ne.2 (by omega)
      have g9 : ((r : Int) == 95) = false := beq_eq_false_iff_ne.2 (by omega)
      have HK : Hid (strg r = true) := by
        show _ = _
        unfold strg nby
        rw [Bool.not_eq_true']
        simp only [Bool.or_eq_false_iff, decide_eq_false_iff_not]
        omega
      clear h1 h2
      go_enter Tryz.func68, Tryz.ntmps68
      go_wp2_with fail
      go_ret
      exact ⟨by rw [HK.out]; rfl, rfl⟩
  have g1 : ¬ (97 : Int) ≤ (r : Int) := by omega
  by_cases h3 : 65 ≤ r
  · have g3 : (65 : Int) ≤ (r : Int) := by omega
    by_cases h4 : r ≤ 90
    · have g4 : (r : Int) ≤ 90 := by omega
      have HK : Hid (strg r = false) := by
        show _ = _
        unfold strg nby
        rw [Bool.not_eq_false']
        simp only [Bool.or_eq_true, decide_eq_true_eq]
        omega
      clear h1 h3 h4
      go_enter Tryz.func68, Tryz.ntmps68
      go_wp2_with fail
      go_ret
      exact ⟨by rw [HK.out]; rfl, rfl⟩
    · have g4 : ¬ (r : Int) ≤ 90 := by omega
      have g5 : (48 : Int) ≤ (r : Int) := by omega
      have g6 : ¬ (r : Int) ≤ 57 := by omega
      have g7 : ((r : Int) == 45) = false := beq_eq_false_iff_ne.2 (by omega)
      have g8 : ((r : Int) == 46) = false := beq_eq_false_iff_ne.2 (by omega)
      obtain ⟨b9, hb9⟩ : ∃ b, b = decide (r = 95) := ⟨_, rfl⟩
      have g9 : ((r : Int) == 95) = b9 := by
        rw [hb9, Bool.eq_iff_iff, beq_iff_eq, decide_eq_true_eq]
        omega
      have HK : Hid (strg r = !b9) := by
        show _ = _
        unfold strg nby
        rw [hb9]
        congr 1
        rw [Bool.eq_iff_iff]
        simp only [Bool.or_eq_true, decide_eq_true_eq]
        omega
      clear h1 h3 h4 hb9
      go_enter Tryz.func68, Tryz.ntmps68
      go_wp2_with fail
      go_ret
      exact ⟨by rw [HK.out]; rfl, rfl⟩
  have g3 : ¬ (65 : Int) ≤ (r : Int) := by omega
  by_cases h5 : 48 ≤ r
  · have g5 : (48 : Int) ≤ (r : Int) := by omega
    by_cases h6 : r ≤ 57
    · have g6 : (r : Int) ≤ 57 := by omega
      have HK : Hid (strg r = false) := by
        show _ = _
        unfold strg nby
        rw [Bool.not_eq_false']
        simp only [Bool.or_eq_true, decide_eq_true_eq]
        omega
      clear h1 h3 h5 h6
      go_enter Tryz.func68, Tryz.ntmps68
      go_wp2_with fail
      go_ret
      exact ⟨by rw [HK.out]; rfl, rfl⟩
    · have g6 : ¬ (r : Int) ≤ 57 := by omega
      have g7 : ((r : Int) == 45) = false := beq_eq_false_iff_ne.2 (by omega)
      have g8 : ((r : Int) == 46) = false := beq_eq_false_iff_ne.2 (by omega)
      have g9 : ((r : Int) == 95) = false := beq_eq_false_iff_ne.2 (by omega)
      have HK : Hid (strg r = true) := by
        show _ = _
        unfold strg nby
        rw [Bool.not_eq_true']
        simp only [Bool.or_eq_false_iff, decide_eq_false_iff_not]
        omega
      clear h1 h3 h5 h6
      go_enter Tryz.func68, Tryz.ntmps68
      go_wp2_with fail
      go_ret
      exact ⟨by rw [HK.out]; rfl, rfl⟩
  have g5 : ¬ (48 : Int) ≤ (r : Int) := by omega
  by_cases h7 : r = 45
  · have g7 : ((r : Int) == 45) = true := beq_iff_eq.2 (by omega)
    have HK : Hid (strg r = false) := by
      show _ = _
      unfold strg nby
      rw [Bool.not_eq_false']
      simp only [Bool.or_eq_true, decide_eq_true_eq]
      omega
    clear h1 h3 h5 h7
    go_enter Tryz.func68, Tryz.ntmps68
    go_wp2_with fail
    go_ret
    exact ⟨by rw [HK.out]; rfl, rfl⟩
  have g7 : ((r : Int) == 45) = false := beq_eq_false_iff_ne.2 (by omega)
  by_cases h8 : r = 46
  · have g8 : ((r : Int) == 46) = true := beq_iff_eq.2 (by omega)
    have HK : Hid (strg r = false) := by
      show _ = _
      unfold strg nby
      rw [Bool.not_eq_false']
      simp only [Bool.or_eq_true, decide_eq_true_eq]
      omega
    clear h1 h3 h5 h7 h8
    go_enter Tryz.func68, Tryz.ntmps68
    go_wp2_with fail
    go_ret
    exact ⟨by rw [HK.out]; rfl, rfl⟩
  have g8 : ((r : Int) == 46) = false := beq_eq_false_iff_ne.2 (by omega)
  have g9 : ((r : Int) == 95) = false := beq_eq_false_iff_ne.2 (by omega)
  have HK : Hid (strg r = true) := by
    show _ = _
    unfold strg nby
    rw [Bool.not_eq_true']
    simp only [Bool.or_eq_false_iff, decide_eq_false_iff_not]
    omega
  clear h1 h3 h5 h7 h8
  go_enter Tryz.func68, Tryz.ntmps68
  go_wp2_with fail
  go_ret
  exact ⟨by rw [HK.out]; rfl, rfl⟩
theorem contF_any (s : ByteArray) (w : World) : Calls Tryz.prog 69 #[.string s, .func (.func 68) #[] #[]] w fun e w' => e = .returned (.bool (!(s.data.toList.all fun c => nby c.toNat))) ∧ Below w.heap.size w w' := by
  have h := Any.strings_ContainsFunc Tryz.laysCont 68 #[] (_root_.Go.Proofs.enters_of Tryz.func68 (by kernel_rfl) rfl) strg s w (fun W x _ => by
    refine (strange_any x W).mono ?_
    rintro e w' ⟨rfl, rfl⟩
    exact ⟨rfl, 0, rfl⟩)
  rw [idx_all] at h
  exact h
set_option maxRecDepth 1000000 in
set_option maxHeartbeats 1000000 in
theorem nameable_any (s : ByteArray) (w : World) : Calls Tryz.prog 42 #[.string s] w fun e w' => e = .returned (.bool (nbl s)) ∧ Below w.heap.size w w' := by
  have HCF := hide (contF_any s w)
  obtain ⟨al, hal⟩ : ∃ al, al = s.data.toList.all fun c => nby c.toNat := ⟨_, rfl⟩
  rw [← hal] at HCF
  have HAL := hide hal
  clear hal
  by_cases h0 : s.size = 0
  · have he : s = ⟨#[]⟩ := by
      obtain ⟨⟨l⟩⟩ := s
      have : l.length = 0 := h0
      rw [List.length_eq_zero_iff.1 this]
    have g0 : (s.toList == []) = true := by rw [he, ByteArray.toList_eq]; rfl
    have HK : Hid (nbl s = false) := by show _ = _; unfold nbl; rw [h0]; rfl
    clear h0 he
    go_enter Tryz.func42, Tryz.ntmps42
    go_wp2_with fail
    go_ret
    exact ⟨by rw [HK.out]; rfl, Below.refl _ _⟩
  · have he : s ≠ ⟨#[]⟩ := fun e => h0 (by rw [e]; rfl)
    have g0 : (s.toList == []) = false := by
      have h := str_no he
      rw [show (ByteArray.mk #[]).toList = [] by rw [ByteArray.toList_eq]] at h
      exact h
    by_cases h64 : s.size ≤ 64
    · have g1 : (s.size : Int) ≤ 64 := by omega
      have HK : Hid (nbl s = al) := by
        show _ = _
        unfold nbl
        rw [decide_eq_true (show 0 < s.size by omega), decide_eq_true h64, ← HAL.out]
        rfl
      clear h0 he h64 HAL
      go_enter Tryz.func42, Tryz.ntmps42
      go_wp2_with fail
      refine HCF.out.mono ?_
      rintro e w' ⟨rfl, hb⟩
      have HB := hide hb
      clear hb HCF
      go_wp2_with fail
      go_ret
      exact ⟨by rw [HK.out]; simp, HB.out⟩
    · have g1 : ¬ (s.size : Int) ≤ 64 := by omega
      have HK : Hid (nbl s = false) := by show _ = _; unfold nbl; rw [decide_eq_false h64, Bool.and_false, Bool.false_and]
      clear h0 he h64
      go_enter Tryz.func42, Tryz.ntmps42
      go_wp2_with fail
      go_ret
      exact ⟨by rw [HK.out]; rfl, Below.refl _ _⟩
end
section
open Go.RowKit Go
theorem emp_list : (ByteArray.mk #[]).toList = [] := by rw [ByteArray.toList_eq]
theorem emp_iff (s : ByteArray) : s.toList = [] ↔ s = ⟨#[]⟩ := by
  refine ⟨fun h => ?_, fun h => by rw [h, emp_list]⟩
  rw [ByteArray.toList_eq] at h
  obtain ⟨⟨l⟩⟩ := s
  simp only at h
  rw [h]
theorem len_beq {α : Type} (l : List α) : ((l.length : Int) == 0) = l.isEmpty := by
  cases l with
  | nil => rfl
  | cons x r =>
    rw [List.isEmpty_cons, beq_eq_false_iff_ne, List.length_cons]
    omega
set_option maxRecDepth 1000000 in
set_option maxHeartbeats 2000000 in
theorem tidy_1 (w : World) (t : Tp) (c : Array Value) (hc : Tpi w t c) (hk : t.k = 1) : Calls Tryz.prog 44 #[.agg c] w fun e w' => e = .returned (.bool (tdy t)) ∧ Below w.heap.size w w' := by
  obtain ⟨⟨vf, vc, vw, rfl, ⟨⟨af, cf, rfl, -, hff⟩, hfm⟩, ⟨⟨ac, cc, rfl, -, hcf⟩, hcm⟩, ⟨⟨aw, cw, rfl, -, -⟩, hwm, -⟩⟩, hbd⟩ := hc
  unfold tpc
  clear hff hfm hcf hcm hwm hbd
  obtain ⟨tn, tk, tlo, thi, ⟨rn, rz⟩, fs, cs, ws⟩ := t
  simp only at hk ⊢
  subst hk
  have HT : Hid (tdy ⟨tn, 1, tlo, thi, ⟨rn, rz⟩, fs, cs, ws⟩ = (decide (tlo = 0 ∧ thi = 0) && fs.isEmpty && cs.isEmpty && ws.isEmpty)) := by
    show _ = _
    simp [tdy]
  go_enter Tryz.func44, Tryz.ntmps44
  go_wp2_with fail
  all_goals
    go_ret
    refine ⟨?_, below_alloc4 w _⟩
    rw [HT.out]
    first
      | (simp_all; done)
      | (simp_all [len_beq]; done)
set_option maxRecDepth 1000000 in
set_option maxHeartbeats 2000000 in
theorem tidy_2 (w : World) (t : Tp) (c : Array Value) (hc : Tpi w t c) (hk : t.k = 2) : Calls Tryz.prog 44 #[.agg c] w fun e w' => e = .returned (.bool (tdy t)) ∧ Below w.heap.size w w' := by
  obtain ⟨⟨vf, vc, vw, rfl, ⟨⟨af, cf, rfl, -, hff⟩, hfm⟩, ⟨⟨ac, cc, rfl, -, hcf⟩, hcm⟩, ⟨⟨aw, cw, rfl, -, -⟩, hwm, -⟩⟩, hbd⟩ := hc
  unfold tpc
  clear hff hfm hcf hcm hwm hbd
  obtain ⟨tn, tk, tlo, thi, ⟨rn, rz⟩, fs, cs, ws⟩ := t
  simp only at hk ⊢
  subst hk
  have HT : Hid (tdy ⟨tn, 2, tlo, thi, ⟨rn, rz⟩, fs, cs, ws⟩ = (decide (rn = ⟨#[]⟩ ∧ rz = false) && fs.isEmpty && cs.isEmpty && ws.isEmpty)) := by
    show _ = _
    simp [tdy]
  go_enter Tryz.func44, Tryz.ntmps44
  go_wp2_with fail
  all_goals
    go_ret
    refine ⟨?_, below_alloc4 w _⟩
    rw [HT.out]
    first
      | (simp_all; done)
      | (simp_all [len_beq]; done)
      | (simp_all [emp_iff]; done)
      | (simp_all [len_beq, emp_iff]; done)
set_option maxRecDepth 1000000 in
set_option maxHeartbeats 2000000 in
theorem tidy_3 (w : World) (t : Tp) (c : Array Value) (hc : Tpi w t c) (hk : t.k = 3) : Calls Tryz.prog 44 #[.agg c] w fun e w' => e = .returned (.bool (tdy t)) ∧ Below w.heap.size w w' := by
  obtain ⟨⟨vf, vc, vw, rfl, ⟨⟨af, cf, rfl, -, hff⟩, hfm⟩, ⟨⟨ac, cc, rfl, -, hcf⟩, hcm⟩, ⟨⟨aw, cw, rfl, -, -⟩, hwm, -⟩⟩, hbd⟩ := hc
  unfold tpc
  clear hff hfm hcf hcm hwm hbd
  obtain ⟨tn, tk, tlo, thi, ⟨rn, rz⟩, fs, cs, ws⟩ := t
  simp only at hk ⊢
  subst hk
  have HT : Hid (tdy ⟨tn, 3, tlo, thi, ⟨rn, rz⟩, fs, cs, ws⟩ = (fs.isEmpty && cs.isEmpty && ws.isEmpty)) := by
    show _ = _
    simp [tdy]
  go_enter Tryz.func44, Tryz.ntmps44
  go_wp2_with fail
  all_goals
    go_ret
    refine ⟨?_, below_alloc4 w _⟩
    rw [HT.out]
    first
      | (simp_all; done)
      | (simp_all [len_beq]; done)
set_option maxRecDepth 1000000 in
set_option maxHeartbeats 2000000 in
theorem tidy_4 (w : World) (t : Tp) (c : Array Value) (hc : Tpi w t c) (hk : t.k = 4) : Calls Tryz.prog 44 #[.agg c] w fun e w' => e = .returned (.bool (tdy t)) ∧ Below w.heap.size w w' := by
  obtain ⟨⟨vf, vc, vw, rfl, ⟨⟨af, cf, rfl, -, hff⟩, hfm⟩, ⟨⟨ac, cc, rfl, -, hcf⟩, hcm⟩, ⟨⟨aw, cw, rfl, -, -⟩, hwm, -⟩⟩, hbd⟩ := hc
  unfold tpc
  clear hff hfm hcf hcm hwm hbd
  obtain ⟨tn, tk, tlo, thi, ⟨rn, rz⟩, fs, cs, ws⟩ := t
  simp only at hk ⊢
  subst hk
  have HT : Hid (tdy ⟨tn, 4, tlo, thi, ⟨rn, rz⟩, fs, cs, ws⟩ = (fs.isEmpty && cs.isEmpty && ws.isEmpty)) := by
    show _ = _
    simp [tdy]
  go_enter Tryz.func44, Tryz.ntmps44
  go_wp2_with fail
  all_goals
    go_ret
    refine ⟨?_, below_alloc4 w _⟩
    rw [HT.out]
    first
      | (simp_all; done)
      | (simp_all [len_beq]; done)
set_option maxRecDepth 1000000 in
set_option maxHeartbeats 2000000 in
theorem tidy_5 (w : World) (t : Tp) (c : Array Value) (hc : Tpi w t c) (hk : t.k = 5) : Calls Tryz.prog 44 #[.agg c] w fun e w' => e = .returned (.bool (tdy t)) ∧ Below w.heap.size w w' := by
  obtain ⟨⟨vf, vc, vw, rfl, ⟨⟨af, cf, rfl, -, hff⟩, hfm⟩, ⟨⟨ac, cc, rfl, -, hcf⟩, hcm⟩, ⟨⟨aw, cw, rfl, -, -⟩, hwm, -⟩⟩, hbd⟩ := hc
  unfold tpc
  clear hff hfm hcf hcm hwm hbd
  obtain ⟨tn, tk, tlo, thi, ⟨rn, rz⟩, fs, cs, ws⟩ := t
  simp only at hk ⊢
  subst hk
  have HT : Hid (tdy ⟨tn, 5, tlo, thi, ⟨rn, rz⟩, fs, cs, ws⟩ = (decide (tlo = 0 ∧ thi = 0) && decide (rn = ⟨#[]⟩ ∧ rz = false) && cs.isEmpty && ws.isEmpty)) := by
    show _ = _
    simp [tdy]
  go_enter Tryz.func44, Tryz.ntmps44
  go_wp2_with fail
  all_goals
    go_ret
    refine ⟨?_, below_alloc4 w _⟩
    rw [HT.out]
    first
      | (simp_all; done)
      | (simp_all [len_beq]; done)
      | (simp_all [emp_iff]; done)
      | (simp_all [len_beq, emp_iff]; done)
set_option maxRecDepth 1000000 in
set_option maxHeartbeats 2000000 in
theorem tidy_6 (w : World) (t : Tp) (c : Array Value) (hc : Tpi w t c) (hk : t.k = 6) : Calls Tryz.prog 44 #[.agg c] w fun e w' => e = .returned (.bool (tdy t)) ∧ Below w.heap.size w w' := by
  obtain ⟨⟨vf, vc, vw, rfl, ⟨⟨af, cf, rfl, -, hff⟩, hfm⟩, ⟨⟨ac, cc, rfl, -, hcf⟩, hcm⟩, ⟨⟨aw, cw, rfl, -, -⟩, hwm, -⟩⟩, hbd⟩ := hc
  unfold tpc
  clear hff hfm hcf hcm hwm hbd
  obtain ⟨tn, tk, tlo, thi, ⟨rn, rz⟩, fs, cs, ws⟩ := t
  simp only at hk ⊢
  subst hk
  have HT : Hid (tdy ⟨tn, 6, tlo, thi, ⟨rn, rz⟩, fs, cs, ws⟩ = (decide (tlo = 0 ∧ thi = 0) && decide (rn = ⟨#[]⟩ ∧ rz = false) && cs.isEmpty && ws.isEmpty)) := by
    show _ = _
    simp [tdy]
  go_enter Tryz.func44, Tryz.ntmps44
  go_wp2_with fail
  all_goals
    go_ret
    refine ⟨?_, below_alloc4 w _⟩
    rw [HT.out]
    first
      | (simp_all; done)
      | (simp_all [len_beq]; done)
      | (simp_all [emp_iff]; done)
      | (simp_all [len_beq, emp_iff]; done)
set_option maxRecDepth 1000000 in
set_option maxHeartbeats 2000000 in
theorem tidy_7 (w : World) (t : Tp) (c : Array Value) (hc : Tpi w t c) (hk : t.k = 7) : Calls Tryz.prog 44 #[.agg c] w fun e w' => e = .returned (.bool (tdy t)) ∧ Below w.heap.size w w' := by
  obtain ⟨⟨vf, vc, vw, rfl, ⟨⟨af, cf, rfl, -, hff⟩, hfm⟩, ⟨⟨ac, cc, rfl, -, hcf⟩, hcm⟩, ⟨⟨aw, cw, rfl, -, -⟩, hwm, -⟩⟩, hbd⟩ := hc
  unfold tpc
  clear hff hfm hcf hcm hwm hbd
  obtain ⟨tn, tk, tlo, thi, ⟨rn, rz⟩, fs, cs, ws⟩ := t
  simp only at hk ⊢
  subst hk
  have HT : Hid (tdy ⟨tn, 7, tlo, thi, ⟨rn, rz⟩, fs, cs, ws⟩ = (decide (tlo = 0 ∧ thi = 0) && decide (rn = ⟨#[]⟩ ∧ rz = false) && fs.isEmpty && ws.isEmpty)) := by
    show _ = _
    simp [tdy]
  go_enter Tryz.func44, Tryz.ntmps44
  go_wp2_with fail
  all_goals
    go_ret
    refine ⟨?_, below_alloc4 w _⟩
    rw [HT.out]
    first
      | (simp_all; done)
      | (simp_all [len_beq]; done)
      | (simp_all [emp_iff]; done)
      | (simp_all [len_beq, emp_iff]; done)
set_option maxRecDepth 1000000 in
set_option maxHeartbeats 2000000 in
theorem tidy_8 (w : World) (t : Tp) (c : Array Value) (hc : Tpi w t c) (hk : t.k = 8) : Calls Tryz.prog 44 #[.agg c] w fun e w' => e = .returned (.bool (tdy t)) ∧ Below w.heap.size w w' := by
  obtain ⟨⟨vf, vc, vw, rfl, ⟨⟨af, cf, rfl, -, hff⟩, hfm⟩, ⟨⟨ac, cc, rfl, -, hcf⟩, hcm⟩, ⟨⟨aw, cw, rfl, -, -⟩, hwm, -⟩⟩, hbd⟩ := hc
  unfold tpc
  clear hff hfm hcf hcm hwm hbd
  obtain ⟨tn, tk, tlo, thi, ⟨rn, rz⟩, fs, cs, ws⟩ := t
  simp only at hk ⊢
  subst hk
  have HT : Hid (tdy ⟨tn, 8, tlo, thi, ⟨rn, rz⟩, fs, cs, ws⟩ = (decide (tlo = 0 ∧ thi = 0) && decide (rn = ⟨#[]⟩ ∧ rz = false) && fs.isEmpty && ws.isEmpty)) := by
    show _ = _
    simp [tdy]
  go_enter Tryz.func44, Tryz.ntmps44
  go_wp2_with fail
  all_goals
    go_ret
    refine ⟨?_, below_alloc4 w _⟩
    rw [HT.out]
    first
      | (simp_all; done)
      | (simp_all [len_beq]; done)
      | (simp_all [emp_iff]; done)
      | (simp_all [len_beq, emp_iff]; done)
set_option maxRecDepth 1000000 in
set_option maxHeartbeats 2000000 in
theorem tidy_9 (w : World) (t : Tp) (c : Array Value) (hc : Tpi w t c) (hk : t.k = 9) : Calls Tryz.prog 44 #[.agg c] w fun e w' => e = .returned (.bool (tdy t)) ∧ Below w.heap.size w w' := by
  obtain ⟨⟨vf, vc, vw, rfl, ⟨⟨af, cf, rfl, -, hff⟩, hfm⟩, ⟨⟨ac, cc, rfl, -, hcf⟩, hcm⟩, ⟨⟨aw, cw, rfl, -, -⟩, hwm, -⟩⟩, hbd⟩ := hc
  unfold tpc
  clear hff hfm hcf hcm hwm hbd
  obtain ⟨tn, tk, tlo, thi, ⟨rn, rz⟩, fs, cs, ws⟩ := t
  simp only at hk ⊢
  subst hk
  have HT : Hid (tdy ⟨tn, 9, tlo, thi, ⟨rn, rz⟩, fs, cs, ws⟩ = (decide (tlo = 0 ∧ thi = 0) && decide (rn = ⟨#[]⟩ ∧ rz = false) && fs.isEmpty && cs.isEmpty)) := by
    show _ = _
    simp [tdy]
  go_enter Tryz.func44, Tryz.ntmps44
  go_wp2_with fail
  all_goals
    go_ret
    refine ⟨?_, below_alloc4 w _⟩
    rw [HT.out]
    first
      | (simp_all; done)
      | (simp_all [emp_iff]; done)
      | (simp_all [len_beq, emp_iff]; done)
set_option maxRecDepth 1000000 in
set_option maxHeartbeats 2000000 in
theorem tidy_no (w : World) (t : Tp) (c : Array Value) (hc : Tpi w t c) (hk : ¬ (1 ≤ t.k ∧ t.k ≤ 9)) : Calls Tryz.prog 44 #[.agg c] w fun e w' => e = .returned (.bool (tdy t)) ∧ Below w.heap.size w w' := by
  obtain ⟨⟨vf, vc, vw, rfl, ⟨⟨af, cf, rfl, -, hff⟩, hfm⟩, ⟨⟨ac, cc, rfl, -, hcf⟩, hcm⟩, ⟨⟨aw, cw, rfl, -, -⟩, hwm, -⟩⟩, hbd⟩ := hc
  unfold tpc
  clear hff hfm hcf hcm hwm hbd
  have HT : Hid (tdy t = false) := by
    show _ = _
    unfold tdy
    simp only
    rw [decide_eq_false hk]
    rfl
  have g1 : (t.k == 1) = false := beq_eq_false_iff_ne.2 (by omega)
  have g2 : (t.k == 2) = false := beq_eq_false_iff_ne.2 (by omega)
  have g3 : (t.k == 3) = false := beq_eq_false_iff_ne.2 (by omega)
  have g4 : (t.k == 4) = false := beq_eq_false_iff_ne.2 (by omega)
  have g5 : (t.k == 5) = false := beq_eq_false_iff_ne.2 (by omega)
  have g6 : (t.k == 6) = false := beq_eq_false_iff_ne.2 (by omega)
  have g7 : (t.k == 7) = false := beq_eq_false_iff_ne.2 (by omega)
  have g8 : (t.k == 8) = false := beq_eq_false_iff_ne.2 (by omega)
  have g9 : (t.k == 9) = false := beq_eq_false_iff_ne.2 (by omega)
  clear hk
  go_enter Tryz.func44, Tryz.ntmps44
  go_wp2_with fail
  go_ret
  exact ⟨by rw [HT.out]; rfl, below_alloc4 w _⟩
theorem tidy_any (w : World) (t : Tp) (c : Array Value) (hc : Tpi w t c) : Calls Tryz.prog 44 #[.agg c] w fun e w' => e = .returned (.bool (tdy t)) ∧ Below w.heap.size w w' := by
  by_cases hk : 1 ≤ t.k ∧ t.k ≤ 9
  · rcases (show t.k = 1 ∨ t.k = 2 ∨ t.k = 3 ∨ t.k = 4 ∨ t.k = 5 ∨ t.k = 6 ∨ t.k = 7 ∨ t.k = 8 ∨ t.k = 9 by omega) with h | h | h | h | h | h | h | h | h
    · exact tidy_1 w t c hc h
    · exact tidy_2 w t c hc h
    · exact tidy_3 w t c hc h
    · exact tidy_4 w t c hc h
    · exact tidy_5 w t c hc h
    · exact tidy_6 w t c hc h
    · exact tidy_7 w t c hc h
    · exact tidy_8 w t c hc h
    · exact tidy_9 w t c hc h
  · exact tidy_no w t c hc hk
end
end Go.Proofs.YtagkogpjckjobaaGreatDoor

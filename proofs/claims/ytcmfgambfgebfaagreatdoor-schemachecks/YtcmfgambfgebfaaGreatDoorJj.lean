import Derived.Test.YtcmfgambfgebfaaGreatDoorJi
namespace Go.Proofs.YtcmfgambfgebfaaGreatDoor
section
open Go.RowKit Go
theorem emp_list : (ByteArray.mk #[]).toList = [] := by rw [ByteArray.toList_eq]
theorem emp_iff (s : ByteArray) : s.toList = [] ↔ s = ⟨#[]⟩ := by
  refine ⟨fun h => ?_, fun h => by rw [h, emp_list]⟩
  rw [ByteArray.toList_eq] at h
  obtain ⟨⟨l⟩⟩ := s
  simp only at h
  rw [h]
theorem len_beq {α : Type} (l : List α) : ((l.length : Int) == 0) = l.isEmpty := by
  cases l with
  | nil => rfl
  | cons x r =>
    rw [List.isEmpty_cons, beq_eq_false_iff_ne, List.length_cons]
    omega
set_option maxRecDepth 1000000 in
set_option maxHeartbeats 2000000 in
theorem tidy_1 (w : World) (t : Tp) (c : Array Value) (hc : Tpi w t c) (hk : t.k = 1) : Calls Tryz.prog 38 #[.agg c] w fun e w' => e = .returned (.bool (tdy t)) ∧ Below w.heap.size w w' := by
  obtain ⟨⟨vf, vc, vw, rfl, ⟨⟨af, cf, rfl, -, hff⟩, hfm⟩, ⟨⟨ac, cc, rfl, -, hcf⟩, hcm⟩, ⟨⟨aw, cw, rfl, -, -⟩, hwm, -⟩⟩, hbd⟩ := hc
  unfold tpc
  clear hff hfm hcf hcm hwm hbd
  obtain ⟨tn, tk, tlo, thi, ⟨rn, rz⟩, fs, cs, ws⟩ := t
  simp only at hk ⊢
  subst hk
  have HT : Hid (tdy ⟨tn, 1, tlo, thi, ⟨rn, rz⟩, fs, cs, ws⟩ = (decide (tlo = 0 ∧ thi = 0) && fs.isEmpty && cs.isEmpty && ws.isEmpty)) := by
    show _ = _
    simp [tdy]
  go_enter Tryz.func38, Tryz.ntmps38
  go_wp2_with fail
  all_goals
    go_ret
    refine ⟨?_, below_alloc4 w _⟩
    rw [HT.out]
    first
      | (simp_all; done)
      | (simp_all [len_beq]; done)
set_option maxRecDepth 1000000 in
set_option maxHeartbeats 2000000 in
theorem tidy_2 (w : World) (t : Tp) (c : Array Value) (hc : Tpi w t c) (hk : t.k = 2) : Calls Tryz.prog 38 #[.agg c] w fun e w' => e = .returned (.bool (tdy t)) ∧ Below w.heap.size w w' := by
  obtain ⟨⟨vf, vc, vw, rfl, ⟨⟨af, cf, rfl, -, hff⟩, hfm⟩, ⟨⟨ac, cc, rfl, -, hcf⟩, hcm⟩, ⟨⟨aw, cw, rfl, -, -⟩, hwm, -⟩⟩, hbd⟩ := hc
  unfold tpc
  clear hff hfm hcf hcm hwm hbd
  obtain ⟨tn, tk, tlo, thi, ⟨rn, rz⟩, fs, cs, ws⟩ := t
  simp only at hk ⊢
  subst hk
  have HT : Hid (tdy ⟨tn, 2, tlo, thi, ⟨rn, rz⟩, fs, cs, ws⟩ = (decide (rn = ⟨#[]⟩ ∧ rz = false) && fs.isEmpty && cs.isEmpty && ws.isEmpty)) := by
    show _ = _
    simp [tdy]
  go_enter Tryz.func38, Tryz.ntmps38
  go_wp2_with fail
  all_goals
    go_ret
    refine ⟨?_, below_alloc4 w _⟩
    rw [HT.out]
    first
      | (simp_all; done)
      | (simp_all [len_beq]; done)
      | (simp_all [emp_iff]; done)
      | (simp_all [len_beq, emp_iff]; done)
set_option maxRecDepth 1000000 in
set_option maxHeartbeats 2000000 in
theorem tidy_3 (w : World) (t : Tp) (c : Array Value) (hc : Tpi w t c) (hk : t.k = 3) : Calls Tryz.prog 38 #[.agg c] w fun e w' => e = .returned (.bool (tdy t)) ∧ Below w.heap.size w w' := by
  obtain ⟨⟨vf, vc, vw, rfl, ⟨⟨af, cf, rfl, -, hff⟩, hfm⟩, ⟨⟨ac, cc, rfl, -, hcf⟩, hcm⟩, ⟨⟨aw, cw, rfl, -, -⟩, hwm, -⟩⟩, hbd⟩ := hc
  unfold tpc
  clear hff hfm hcf hcm hwm hbd
  obtain ⟨tn, tk, tlo, thi, ⟨rn, rz⟩, fs, cs, ws⟩ := t
  simp only at hk ⊢
  subst hk
  have HT : Hid (tdy ⟨tn, 3, tlo, thi, ⟨rn, rz⟩, fs, cs, ws⟩ = (fs.isEmpty && cs.isEmpty && ws.isEmpty)) := by
    show _ = _
    simp [tdy]
  go_enter Tryz.func38, Tryz.ntmps38
  go_wp2_with fail
  all_goals
    go_ret
    refine ⟨?_, below_alloc4 w _⟩
    rw [HT.out]
    first
      | (simp_all; done)
      | (simp_all [len_beq]; done)
set_option maxRecDepth 1000000 in
set_option maxHeartbeats 2000000 in
theorem tidy_4 (w : World) (t : Tp) (c : Array Value) (hc : Tpi w t c) (hk : t.k = 4) : Calls Tryz.prog 38 #[.agg c] w fun e w' => e = .returned (.bool (tdy t)) ∧ Below w.heap.size w w' := by
  obtain ⟨⟨vf, vc, vw, rfl, ⟨⟨af, cf, rfl, -, hff⟩, hfm⟩, ⟨⟨ac, cc, rfl, -, hcf⟩, hcm⟩, ⟨⟨aw, cw, rfl, -, -⟩, hwm, -⟩⟩, hbd⟩ := hc
  unfold tpc
  clear hff hfm hcf hcm hwm hbd
  obtain ⟨tn, tk, tlo, thi, ⟨rn, rz⟩, fs, cs, ws⟩ := t
  simp only at hk ⊢
  subst hk
  have HT : Hid (tdy ⟨tn, 4, tlo, thi, ⟨rn, rz⟩, fs, cs, ws⟩ = (fs.isEmpty && cs.isEmpty && ws.isEmpty)) := by
    show _ = _
    simp [tdy]
  go_enter Tryz.func38, Tryz.ntmps38
  go_wp2_with fail
  all_goals
    go_ret
    refine ⟨?_, below_alloc4 w _⟩
    rw [HT.out]
    first
      | (simp_all; done)
      | (simp_all [len_beq]; done)
set_option maxRecDepth 1000000 in
set_option maxHeartbeats 2000000 in
theorem tidy_5 (w : World) (t : Tp) (c : Array Value) (hc : Tpi w t c) (hk : t.k = 5) : Calls Tryz.prog 38 #[.agg c] w fun e w' => e = .returned (.bool (tdy t)) ∧ Below w.heap.size w w' := by
  obtain ⟨⟨vf, vc, vw, rfl, ⟨⟨af, cf, rfl, -, hff⟩, hfm⟩, ⟨⟨ac, cc, rfl, -, hcf⟩, hcm⟩, ⟨⟨aw, cw, rfl, -, -⟩, hwm, -⟩⟩, hbd⟩ := hc
  unfold tpc
  clear hff hfm hcf hcm hwm hbd
  obtain ⟨tn, tk, tlo, thi, ⟨rn, rz⟩, fs, cs, ws⟩ := t
  simp only at hk ⊢
  subst hk
  have HT : Hid (tdy ⟨tn, 5, tlo, thi, ⟨rn, rz⟩, fs, cs, ws⟩ = (decide (tlo = 0 ∧ thi = 0) && decide (rn = ⟨#[]⟩ ∧ rz = false) && cs.isEmpty && ws.isEmpty)) := by
    show _ = _
    simp [tdy]
  go_enter Tryz.func38, Tryz.ntmps38
  go_wp2_with fail
  all_goals
    go_ret
    refine ⟨?_, below_alloc4 w _⟩
    rw [HT.out]
    first
      | (simp_all; done)
      | (simp_all [len_beq]; done)
      | (simp_all [emp_iff]; done)
      | (simp_all [len_beq, emp_iff]; done)
set_option maxRecDepth 1000000 in
set_option maxHeartbeats 2000000 in
theorem tidy_6 (w : World) (t : Tp) (c : Array Value) (hc : Tpi w t c) (hk : t.k = 6) : Calls Tryz.prog 38 #[.agg c] w fun e w' => e = .returned (.bool (tdy t)) ∧ Below w.heap.size w w' := by
  obtain ⟨⟨vf, vc, vw, rfl, ⟨⟨af, cf, rfl, -, hff⟩, hfm⟩, ⟨⟨ac, cc, rfl, -, hcf⟩, hcm⟩, ⟨⟨aw, cw, rfl, -, -⟩, hwm, -⟩⟩, hbd⟩ := hc
  unfold tpc
  clear hff hfm hcf hcm hwm hbd
  obtain ⟨tn, tk, tlo, thi, ⟨rn, rz⟩, fs, cs, ws⟩ := t
  simp only at hk ⊢
  subst hk
  have HT : Hid (tdy ⟨tn, 6, tlo, thi, ⟨rn, rz⟩, fs, cs, ws⟩ = (decide (tlo = 0 ∧ thi = 0) && decide (rn = ⟨#[]⟩ ∧ rz = false) && cs.isEmpty && ws.isEmpty)) := by
    show _ = _
    simp [tdy]
  go_enter Tryz.func38, Tryz.ntmps38
  go_wp2_with fail
  all_goals
    go_ret
    refine ⟨?_, below_alloc4 w _⟩
    rw [HT.out]
    first
      | (simp_all; done)
      | (simp_all [len_beq]; done)
      | (simp_all [emp_iff]; done)
      | (simp_all [len_beq, emp_iff]; done)
set_option maxRecDepth 1000000 in
set_option maxHeartbeats 2000000 in
theorem tidy_7 (w : World) (t : Tp) (c : Array Value) (hc : Tpi w t c) (hk : t.k = 7) : Calls Tryz.prog 38 #[.agg c] w fun e w' => e = .returned (.bool (tdy t)) ∧ Below w.heap.size w w' := by
  obtain ⟨⟨vf, vc, vw, rfl, ⟨⟨af, cf, rfl, -, hff⟩, hfm⟩, ⟨⟨ac, cc, rfl, -, hcf⟩, hcm⟩, ⟨⟨aw, cw, rfl, -, -⟩, hwm, -⟩⟩, hbd⟩ := hc
  unfold tpc
  clear hff hfm hcf hcm hwm hbd
  obtain ⟨tn, tk, tlo, thi, ⟨rn, rz⟩, fs, cs, ws⟩ := t
  simp only at hk ⊢
  subst hk
  have HT : Hid (tdy ⟨tn, 7, tlo, thi, ⟨rn, rz⟩, fs, cs, ws⟩ = (decide (tlo = 0 ∧ thi = 0) && decide (rn = ⟨#[]⟩ ∧ rz = false) && fs.isEmpty && ws.isEmpty)) := by
    show _ = _
    simp [tdy]
  go_enter Tryz.func38, Tryz.ntmps38
  go_wp2_with fail
  all_goals
    go_ret
    refine ⟨?_, below_alloc4 w _⟩
    rw [HT.out]
    first
      | (simp_all; done)
      | (simp_all [len_beq]; done)
      | (simp_all [emp_iff]; done)
      | (simp_all [len_beq, emp_iff]; done)
set_option maxRecDepth 1000000 in
set_option maxHeartbeats 2000000 in
theorem tidy_8 (w : World) (t : Tp) (c : Array Value) (hc : Tpi w t c) (hk : t.k = 8) : Calls Tryz.prog 38 #[.agg c] w fun e w' => e = .returned (.bool (tdy t)) ∧ Below w.heap.size w w' := by
  obtain ⟨⟨vf, vc, vw, rfl, ⟨⟨af, cf, rfl, -, hff⟩, hfm⟩, ⟨⟨ac, cc, rfl, -, hcf⟩, hcm⟩, ⟨⟨aw, cw, rfl, -, -⟩, hwm, -⟩⟩, hbd⟩ := hc
  unfold tpc
  clear hff hfm hcf hcm hwm hbd
  obtain ⟨tn, tk, tlo, thi, ⟨rn, rz⟩, fs, cs, ws⟩ := t
  simp only at hk ⊢
  subst hk
  have HT : Hid (tdy ⟨tn, 8, tlo, thi, ⟨rn, rz⟩, fs, cs, ws⟩ = (decide (tlo = 0 ∧ thi = 0) && decide (rn = ⟨#[]⟩ ∧ rz = false) && fs.isEmpty && ws.isEmpty)) := by
    show _ = _
    simp [tdy]
  go_enter Tryz.func38, Tryz.ntmps38
  go_wp2_with fail
  all_goals
    go_ret
    refine ⟨?_, below_alloc4 w _⟩
    rw [HT.out]
    first
      | (simp_all; done)
      | (simp_all [len_beq]; done)
      | (simp_all [emp_iff]; done)
      | (simp_all [len_beq, emp_iff]; done)
set_option maxRecDepth 1000000 in
set_option maxHeartbeats 2000000 in
theorem tidy_9 (w : World) (t : Tp) (c : Array Value) (hc : Tpi w t c) (hk : t.k = 9) : Calls Tryz.prog 38 #[.agg c] w fun e w' => e = .returned (.bool (tdy t)) ∧ Below w.heap.size w w' := by
  obtain ⟨⟨vf, vc, vw, rfl, ⟨⟨af, cf, rfl, -, hff⟩, hfm⟩, ⟨⟨ac, cc, rfl, -, hcf⟩, hcm⟩, ⟨⟨aw, cw, rfl, -, -⟩, hwm, -⟩⟩, hbd⟩ := hc
  unfold tpc
  clear hff hfm hcf hcm hwm hbd
  obtain ⟨tn, tk, tlo, thi, ⟨rn, rz⟩, fs, cs, ws⟩ := t
  simp only at hk ⊢
  subst hk
  have HT : Hid (tdy ⟨tn, 9, tlo, thi, ⟨rn, rz⟩, fs, cs, ws⟩ = (decide (tlo = 0 ∧ thi = 0) && decide (rn = ⟨#[]⟩ ∧ rz = false) && fs.isEmpty && cs.isEmpty)) := by
    show _ = _
    simp [tdy]
  go_enter Tryz.func38, Tryz.ntmps38
  go_wp2_with fail
  all_goals
    go_ret
    refine ⟨?_, below_alloc4 w _⟩
    rw [HT.out]
    first
      | (simp_all; done)
      | (simp_all [emp_iff]; done)
      | (simp_all [len_beq, emp_iff]; done)
set_option maxRecDepth 1000000 in
set_option maxHeartbeats 2000000 in
theorem tidy_no (w : World) (t : Tp) (c : Array Value) (hc : Tpi w t c) (hk : ¬ (1 ≤ t.k ∧ t.k ≤ 9)) : Calls Tryz.prog 38 #[.agg c] w fun e w' => e = .returned (.bool (tdy t)) ∧ Below w.heap.size w w' := by
  obtain ⟨⟨vf, vc, vw, rfl, ⟨⟨af, cf, rfl, -, hff⟩, hfm⟩, ⟨⟨ac, cc, rfl, -, hcf⟩, hcm⟩, ⟨⟨aw, cw, rfl, -, -⟩, hwm, -⟩⟩, hbd⟩ := hc
  unfold tpc
  clear hff hfm hcf hcm hwm hbd
  have HT : Hid (tdy t = false) := by
    show _ = _
    unfold tdy
    simp only
    rw [decide_eq_false hk]
    rfl
  have g1 : (t.k == 1) = false := beq_eq_false_iff_ne.2 (by omega)
  have g2 : (t.k == 2) = false := beq_eq_false_iff_ne.2 (by omega)
  have g3 : (t.k == 3) = false := beq_eq_false_iff_ne.2 (by omega)
  have g4 : (t.k == 4) = false := beq_eq_false_iff_ne.2 (by omega)
  have g5 : (t.k == 5) = false := beq_eq_false_iff_ne.2 (by omega)
  have g6 : (t.k == 6) = false := beq_eq_false_iff_ne.2 (by omega)
  have g7 : (t.k == 7) = false := beq_eq_false_iff_ne.2 (by omega)
  have g8 : (t.k == 8) = false := beq_eq_false_iff_ne.2 (by omega)
  have g9 : (t.k == 9) = false := beq_eq_false_iff_ne.2 (by omega)
  clear hk
  go_enter Tryz.func38, Tryz.ntmps38
  go_wp2_with fail
  go_ret
  exact ⟨by rw [HT.out]; rfl, below_alloc4 w _⟩
theorem tidy_any (w : World) (t : Tp) (c : Array Value) (hc : Tpi w t c) : Calls Tryz.prog 38 #[.agg c] w fun e w' => e = .returned (.bool (tdy t)) ∧ Below w.heap.size w w' := by
  by_cases hk : 1 ≤ t.k ∧ t.k ≤ 9
  · rcases (show t.k = 1 ∨ t.k = 2 ∨ t.k = 3 ∨ t.k = 4 ∨ t.k = 5 ∨ t.k = 6 ∨ t.k = 7 ∨ t.k = 8 ∨ t.k = 9 by omega) with h | h | h | h | h | h | h | h | h
    · exact tidy_1 w t c hc h
    · exact tidy_2 w t c hc h
    · exact tidy_3 w t c hc h
    · exact tidy_4 w t c hc h
    · exact tidy_5 w t c hc h
    · exact tidy_6 w t c hc h
    · exact tidy_7 w t c hc h
    · exact tidy_8 w t c hc h
    · exact tidy_9 w t c hc h
  · exact tidy_no w t c hc hk
end
end Go.Proofs.YtcmfgambfgebfaaGreatDoor

import Derived.Test.YtmcamdcgnegmmaaGreatDoorJp
import Derived.Deep.CutBlock
import Derived.Test.YtmcamdcgnegmmaaGreatDoorJb
import Derived.Test.YtmcamdcgnegmmaaGreatDoorJe
import Derived.Test.YtmcamdcgnegmmaaGreatDoorJg
import Derived.Test.YtmcamdcgnegmmaaGreatDoorJa
set_option maxRecDepth 1000000
set_option maxHeartbeats 16000000
namespace Go.Proofs.YtmcamdcgnegmmaaGreatDoor
section
open Go.RowKit Go
def Tdy (w wx : World) (t : Tv) : Prop := Below w.heap.size w wx ∧ ∃ ay cy ak ck ai ci, wx.heap[w.heap.size]? = some (.cells (vcs t (.slice ay t.y.length cy) (.slice ak t.ks.length ck) (.slice ai t.is.length ci)) 41 (0, 0))
theorem toList_nil : ({ data := #[] } : ByteArray).toList = [] := by first | simp | rfl | kernel_rfl | (go_simp)
theorem box_mk0 (w : World) (c : Array Value) : Below w.heap.size w (w.alloc (.cells c 41)) ∧ (w.alloc (.cells c 41)).heap[w.heap.size]? = some (.cells c 41 (0, 0)) := ⟨below_alloc4 w _, heap_alloc_new w _⟩
theorem tidy_any (t : Tv) (w : World) (cs : Array Value) (ht : Tin w t cs) : Calls Tryz.prog 129 #[.agg cs] w fun e w' => e = .returned (.bool (tidyf t)) ∧ Below w.heap.size w w' := by
  obtain ⟨vy, vk, vi, rfl, hy, hk, hv, hb⟩ := ht.parts
  have HD := hide hb.l.d
  have HLD := hide hb.d
  obtain ⟨⟨ay, cy, rfl, _, _⟩, _⟩ := hy
  obtain ⟨⟨ak, ck, rfl, _, _⟩, _, _⟩ := hk
  obtain ⟨⟨ai, ci, rfl, _, _⟩, _⟩ := hv
  clear ht hb
  have HQ0 := hide (box_mk0 w (vcs t (.slice ay t.y.length cy) (.slice ak t.ks.length ck) (.slice ai t.is.length ci)))
  have q0 : (w.alloc (.cells (vcs t (.slice ay t.y.length cy) (.slice ak t.ks.length ck) (.slice ai t.is.length ci)) 41)).cell? ⟨w.heap.size, 0, none⟩ = some (.int .i64 t.k) := blk_cell HQ0.out.2 rfl
  generalize hcs : vcs t (.slice ay t.y.length cy) (.slice ak t.ks.length ck) (.slice ai t.is.length ci) = cs at *
  have HCS := hide hcs
  clear hcs
  go_enter Tryz.func129, Tryz.ntmps129
  go_upto_block 0 with fail
  go_cut [] (fun wx => Hid (Tdy w wx t.zr ∧ 1 ≤ t.k ∧ t.k ≤ 9))
  case first =>
    by_cases h1 : t.k = 1
    · as_aux_lemma =>
      have HZ : Hid (t.zr = t) := by show _ = _; unfold Tv.zr; simp [h1]
      have HKK : Hid (1 ≤ t.k ∧ t.k ≤ 9) := ⟨by omega, by omega⟩
      have g1 : (t.k == 1) = true := beq_iff_eq.2 h1
      clear h1
      have HTD : Hid (Tdy w (w.alloc (.cells (cs) 41)) t.zr) := by
        have h := HCS.out
        subst h
        refine ⟨below_alloc4 w _, ay, cy, ak, ck, ai, ci, ?_⟩
        rw [HZ.out]
        exact heap_alloc_new w _
      go_wp2_with fail
      go_meet
      case rel => exact ⟨HTD.out, HKK.out⟩
    by_cases h2 : t.k = 2
    · as_aux_lemma =>
      have HZ : Hid (t.zr = .mk t.k false t.g t.n t.b t.s t.y t.l t.ks t.is) := by show _ = _; unfold Tv.zr; simp [h2]
      have HKK : Hid (1 ≤ t.k ∧ t.k ≤ 9) := ⟨by omega, by omega⟩
      have g1 : (t.k == 1) = false := beq_eq_false_iff_ne.2 h1
      have g2 : (t.k == 2) = true := beq_iff_eq.2 h2
      clear h1 h2
      have c1 : (w.alloc (.cells (cs) 41)).cell? ⟨w.heap.size, 1, none⟩ = some (.bool t.f) := by have h := HCS.out; subst h; exact blk_cell (heap_alloc_new w _) rfl
      have HTD : Hid (Tdy w (w.alloc (.cells (cs.setIfInBounds 1 (.bool false)) 41)) t.zr) := by
        have h := HCS.out
        subst h
        refine ⟨below_alloc4 w _, ay, cy, ak, ck, ai, ci, ?_⟩
        rw [HZ.out]
        exact heap_alloc_new w _
      go_wp2_with fail
      go_meet
      case rel => exact ⟨HTD.out, HKK.out⟩
    by_cases h3 : t.k = 3
    · as_aux_lemma =>
      have HZ : Hid (t.zr = .mk t.k t.f false 0 t.b t.s t.y t.l t.ks t.is) := by show _ = _; unfold Tv.zr; simp [h3]
      have HKK : Hid (1 ≤ t.k ∧ t.k ≤ 9) := ⟨by omega, by omega⟩
      have g1 : (t.k == 1) = false := beq_eq_false_iff_ne.2 h1
      have g2 : (t.k == 2) = false := beq_eq_false_iff_ne.2 h2
      have g3 : (t.k == 3) = true := beq_iff_eq.2 h3
      clear h1 h2 h3
      have c2 : (w.alloc (.cells (cs) 41)).cell? ⟨w.heap.size, 2, none⟩ = some (.bool t.g) := by have h := HCS.out; subst h; exact blk_cell (heap_alloc_new w _) rfl
      have c3 : (w.alloc (.cells (cs.setIfInBounds 2 (.bool false)) 41)).cell? ⟨w.heap.size, 3, none⟩ = some (.int .u64 (t.n : Nat)) := by have h := HCS.out; subst h; exact blk_cell (heap_alloc_new w _) rfl
      have HTD : Hid (Tdy w (w.alloc (.cells ((cs.setIfInBounds 2 (.bool false)).setIfInBounds 3 (.int .u64 0)) 41)) t.zr) := by
        have h := HCS.out
        subst h
        refine ⟨below_alloc4 w _, ay, cy, ak, ck, ai, ci, ?_⟩
        rw [HZ.out]
        exact heap_alloc_new w _
      go_wp2_with fail
      go_meet
      case rel => exact ⟨HTD.out, HKK.out⟩
    by_cases h4 : t.k = 4
    · as_aux_lemma =>
      have HZ : Hid (t.zr = .mk t.k t.f t.g t.n 0 t.s t.y t.l t.ks t.is) := by show _ = _; unfold Tv.zr; simp [h4]
      have HKK : Hid (1 ≤ t.k ∧ t.k ≤ 9) := ⟨by omega, by omega⟩
      have g1 : (t.k == 1) = false := beq_eq_false_iff_ne.2 h1
      have g2 : (t.k == 2) = false := beq_eq_false_iff_ne.2 h2
      have g3 : (t.k == 3) = false := beq_eq_false_iff_ne.2 h3
      have g4 : (t.k == 4) = true := beq_iff_eq.2 h4
      clear h1 h2 h3 h4
      have c4 : (w.alloc (.cells (cs) 41)).cell? ⟨w.heap.size, 4, none⟩ = some (.int .u64 (t.b : Nat)) := by have h := HCS.out; subst h; exact blk_cell (heap_alloc_new w _) rfl
      have HTD : Hid (Tdy w (w.alloc (.cells (cs.setIfInBounds 4 (.int .u64 0)) 41)) t.zr) := by
        have h := HCS.out
        subst h
        refine ⟨below_alloc4 w _, ay, cy, ak, ck, ai, ci, ?_⟩
        rw [HZ.out]
        exact heap_alloc_new w _
      go_wp2_with fail
      go_meet
      case rel => exact ⟨HTD.out, HKK.out⟩
    by_cases h5 : t.k = 5
    · as_aux_lemma =>
      have HZ : Hid (t.zr = .mk t.k t.f t.g t.n t.b ⟨#[]⟩ t.y t.l t.ks t.is) := by show _ = _; unfold Tv.zr; simp [h5]
      have HKK : Hid (1 ≤ t.k ∧ t.k ≤ 9) := ⟨by omega, by omega⟩
      have g1 : (t.k == 1) = false := beq_eq_false_iff_ne.2 h1
      have g2 : (t.k == 2) = false := beq_eq_false_iff_ne.2 h2
      have g3 : (t.k == 3) = false := beq_eq_false_iff_ne.2 h3
      have g4 : (t.k == 4) = false := beq_eq_false_iff_ne.2 h4
      have g5 : (t.k == 5) = true := beq_iff_eq.2 h5
      clear h1 h2 h3 h4 h5
      have c5 : (w.alloc (.cells (cs) 41)).cell? ⟨w.heap.size, 5, none⟩ = some (.string t.s) := by have h := HCS.out; subst h; exact blk_cell (heap_alloc_new w _) rfl
      have HTD : Hid (Tdy w (w.alloc (.cells (cs.setIfInBounds 5 (.string ⟨#[]⟩)) 41)) t.zr) := by
        have h := HCS.out
        subst h
        refine ⟨below_alloc4 w _, ay, cy, ak, ck, ai, ci, ?_⟩
        rw [HZ.out]
        exact heap_alloc_new w _
      go_wp2_with fail
      go_meet
      case rel => exact ⟨HTD.out, HKK.out⟩
    by_cases h6 : t.k = 6
    · as_aux_lemma =>
      have HZ : Hid (t.zr = .mk t.k t.f t.g t.n t.b t.s [] t.l t.ks t.is) := by show _ = _; unfold Tv.zr; simp [h6]
      have HKK : Hid (1 ≤ t.k ∧ t.k ≤ 9) := ⟨by omega, by omega⟩
      have g1 : (t.k == 1) = false := beq_eq_false_iff_ne.2 h1
      have g2 : (t.k == 2) = false := beq_eq_false_iff_ne.2 h2
      have g3 : (t.k == 3) = false := beq_eq_false_iff_ne.2 h3
      have g4 : (t.k == 4) = false := beq_eq_false_iff_ne.2 h4
      have g5 : (t.k == 5) = false := beq_eq_false_iff_ne.2 h5
      have g6 : (t.k == 6) = true := beq_iff_eq.2 h6
      clear h1 h2 h3 h4 h5 h6
      have c6 : (w.alloc (.cells (cs) 41)).cell? ⟨w.heap.size, 6, none⟩ = some (.slice ay t.y.length cy) := by have h := HCS.out; subst h; exact blk_cell (heap_alloc_new w _) rfl
      have HTD : Hid (Tdy w (w.alloc (.cells (cs.setIfInBounds 6 (.slice none 0 0)) 41)) t.zr) := by
        have h := HCS.out
        subst h
        refine ⟨below_alloc4 w _, none, 0, ak, ck, ai, ci, ?_⟩
        rw [HZ.out]
        exact heap_alloc_new w _
      go_wp2_with fail
      go_meet
      case rel => exact ⟨HTD.out, HKK.out⟩
    by_cases h7 : t.k = 7
    · as_aux_lemma =>
      have HZ : Hid (t.zr = .mk t.k t.f t.g t.n t.b t.s t.y ⟨0, 0, 0, []⟩ t.ks t.is) := by show _ = _; unfold Tv.zr; simp [h7]
      have HKK : Hid (1 ≤ t.k ∧ t.k ≤ 9) := ⟨by omega, by omega⟩
      have g1 : (t.k == 1) = false := beq_eq_false_iff_ne.2 h1
      have g2 : (t.k == 2) = false := beq_eq_false_iff_ne.2 h2
      have g3 : (t.k == 3) = false := beq_eq_false_iff_ne.2 h3
      have g4 : (t.k == 4) = false := beq_eq_false_iff_ne.2 h4
      have g5 : (t.k == 5) = false := beq_eq_false_iff_ne.2 h5
      have g6 : (t.k == 6) = false := beq_eq_false_iff_ne.2 h6
      have g7 : (t.k == 7) = true := beq_iff_eq.2 h7
      clear h1 h2 h3 h4 h5 h6 h7
      have c7 : (w.alloc (.cells (cs) 41)).cell? ⟨w.heap.size, 7, none⟩ = some (.int .i64 t.l.v) := by have h := HCS.out; subst h; exact blk_cell (heap_alloc_new w _) rfl
      have c8 : (w.alloc (.cells (cs.setIfInBounds 7 (.int .i64 0)) 41)).cell? ⟨w.heap.size, 8, none⟩ = some (.int .u64 (t.l.c : Nat)) := by have h := HCS.out; subst h; exact blk_cell (heap_alloc_new w _) rfl
      have c9 : (w.alloc (.cells ((cs.setIfInBounds 7 (.int .i64 0)).setIfInBounds 8 (.int .u64 0)) 41)).cell? ⟨w.heap.size, 9, none⟩ = some (.int .u64 (t.l.h : Nat)) := by have h := HCS.out; subst h; exact blk_cell (heap_alloc_new w _) rfl
      have c10 : (w.alloc (.cells (((cs.setIfInBounds 7 (.int .i64 0)).setIfInBounds 8 (.int .u64 0)).setIfInBounds 9 (.int .u64 0)) 41)).cell? ⟨w.heap.size, 10, none⟩ = some (.string (nstr t.l.d)) := by have h := HCS.out; subst h; exact blk_cell (heap_alloc_new w _) rfl
      have HTD : Hid (Tdy w (w.alloc (.cells ((((cs.setIfInBounds 7 (.int .i64 0)).setIfInBounds 8 (.int .u64 0)).setIfInBounds 9 (.int .u64 0)).setIfInBounds 10 (.string ⟨#[]⟩)) 41)) t.zr) := by
        have h := HCS.out
        subst h
        refine ⟨below_alloc4 w _, ay, cy, ak, ck, ai, ci, ?_⟩
        rw [HZ.out]
        exact heap_alloc_new w _
      go_wp2_with fail
      go_meet
      case rel => exact ⟨HTD.out, HKK.out⟩
    by_cases h8 : t.k = 8
    · as_aux_lemma =>
      have HZ : Hid (t.zr = .mk t.k t.f t.g t.n t.b t.s t.y t.l t.ks []) := by show _ = _; unfold Tv.zr; simp [h8]
      have HKK : Hid (1 ≤ t.k ∧ t.k ≤ 9) := ⟨by omega, by omega⟩
      have g1 : (t.k == 1) = false := beq_eq_false_iff_ne.2 h1
      have g2 : (t.k == 2) = false := beq_eq_false_iff_ne.2 h2
      have g3 : (t.k == 3) = false := beq_eq_false_iff_ne.2 h3
      have g4 : (t.k == 4) = false := beq_eq_false_iff_ne.2 h4
      have g5 : (t.k == 5) = false := beq_eq_false_iff_ne.2 h5
      have g6 : (t.k == 6) = false := beq_eq_false_iff_ne.2 h6
      have g7 : (t.k == 7) = false := beq_eq_false_iff_ne.2 h7
      have g8 : (t.k == 8) = true := beq_iff_eq.2 h8
      clear h1 h2 h3 h4 h5 h6 h7 h8
      have c12 : (w.alloc (.cells (cs) 41)).cell? ⟨w.heap.size, 12, none⟩ = some (.slice ai t.is.length ci) := by have h := HCS.out; subst h; exact blk_cell (heap_alloc_new w _) rfl
      have HTD : Hid (Tdy w (w.alloc (.cells (cs.setIfInBounds 12 (.slice none 0 0)) 41)) t.zr) := by
        have h := HCS.out
        subst h
        refine ⟨below_alloc4 w _, ay, cy, ak, ck, none, 0, ?_⟩
        rw [HZ.out]
        exact heap_alloc_new w _
      go_wp2_with fail
      go_meet
      case rel => exact ⟨HTD.out, HKK.out⟩
    by_cases h9 : t.k = 9
    · as_aux_lemma =>
      have HZ : Hid (t.zr = .mk t.k t.f t.g t.n t.b t.s t.y t.l [] []) := by show _ = _; unfold Tv.zr; simp [h9]
      have HKK : Hid (1 ≤ t.k ∧ t.k ≤ 9) := ⟨by omega, by omega⟩
      have g1 : (t.k == 1) = false := beq_eq_false_iff_ne.2 h1
      have g2 : (t.k == 2) = false := beq_eq_false_iff_ne.2 h2
      have g3 : (t.k == 3) = false := beq_eq_false_iff_ne.2 h3
      have g4 : (t.k == 4) = false := beq_eq_false_iff_ne.2 h4
      have g5 : (t.k == 5) = false := beq_eq_false_iff_ne.2 h5
      have g6 : (t.k == 6) = false := beq_eq_false_iff_ne.2 h6
      have g7 : (t.k == 7) = false := beq_eq_false_iff_ne.2 h7
      have g8 : (t.k == 8) = false := beq_eq_false_iff_ne.2 h8
      have g9 : (t.k == 9) = true := beq_iff_eq.2 h9
      clear h1 h2 h3 h4 h5 h6 h7 h8 h9
      have c11 : (w.alloc (.cells (cs) 41)).cell? ⟨w.heap.size, 11, none⟩ = some (.slice ak t.ks.length ck) := by have h := HCS.out; subst h; exact blk_cell (heap_alloc_new w _) rfl
      have c12 : (w.alloc (.cells (cs.setIfInBounds 11 (.slice none 0 0)) 41)).cell? ⟨w.heap.size, 12, none⟩ = some (.slice ai t.is.length ci) := by have h := HCS.out; subst h; exact blk_cell (heap_alloc_new w _) rfl
      have HTD : Hid (Tdy w (w.alloc (.cells ((cs.setIfInBounds 11 (.slice none 0 0)).setIfInBounds 12 (.slice none 0 0)) 41)) t.zr) := by
        have h := HCS.out
        subst h
        refine ⟨below_alloc4 w _, ay, cy, none, 0, none, 0, ?_⟩
        rw [HZ.out]
        exact heap_alloc_new w _
      go_wp2_with fail
      go_meet
      case rel => exact ⟨HTD.out, HKK.out⟩
    · as_aux_lemma =>
      have HT : Hid (tidyf t = false) := by show _ = _; unfold tidyf; rw [decide_eq_false (by omega), Bool.false_and]
      have g1 : (t.k == 1) = false := beq_eq_false_iff_ne.2 h1
      have g2 : (t.k == 2) = false := beq_eq_false_iff_ne.2 h2
      have g3 : (t.k == 3) = false := beq_eq_false_iff_ne.2 h3
      have g4 : (t.k == 4) = false := beq_eq_false_iff_ne.2 h4
      have g5 : (t.k == 5) = false := beq_eq_false_iff_ne.2 h5
      have g6 : (t.k == 6) = false := beq_eq_false_iff_ne.2 h6
      have g7 : (t.k == 7) = false := beq_eq_false_iff_ne.2 h7
      have g8 : (t.k == 8) = false := beq_eq_false_iff_ne.2 h8
      have g9 : (t.k == 9) = false := beq_eq_false_iff_ne.2 h9
      clear h1 h2 h3 h4 h5 h6 h7 h8 h9
      go_wp2_with fail
      go_ret
      exact ⟨by rw [HT.out]; rfl, HQ0.out.1⟩
  case rest =>
    have HKK := hide hcut.out.2
    have HTF : Hid (tidyf t = t.zr.cl) := by show _ = _; unfold tidyf; rw [decide_eq_true HKK.out, Bool.true_and]
    have HLZ : Hid (∀ x ∈ t.zr.l.d, x < 256) := by
      show ∀ x ∈ t.zr.l.d, x < 256
      unfold Tv.zr
      repeat' split
      all_goals first | exact HD.out | (intro x hx; simp [Tv.l] at hx)
    obtain ⟨hb, ay', cy', ak', ck', ai', ci', hblk⟩ := hcut.out.1
    have hyl : t.zr.y.length ≤ 9223372036854775807 := by
      unfold Tv.zr
      repeat' split
      all_goals first | assumption | (simp [Tv.y]; done) | (simp [Tv.y]; omega)
    have hkl : t.zr.ks.length ≤ 140737488351232 := by
      unfold Tv.zr
      repeat' split
      all_goals first | assumption | (simp [Tv.ks]; done) | (simp [Tv.ks]; omega)
    have hil : t.zr.is.length ≤ 140737488351232 := by
      unfold Tv.zr
      repeat' split
      all_goals first | assumption | (simp [Tv.is]; done) | (simp [Tv.is]; omega)
    clear hcut HKK
    generalize t.zr = z at *
    have HCL : Hid (tidyf t = (!z.f && (!z.g && (decide (z.n = 0) && (decide (z.b = 0) && (decide (z.s = ⟨#[]⟩) && (decide (z.l = ⟨0, 0, 0, []⟩) && (decide (z.y = []) && (decide (z.ks = []) && z.is.isEmpty))))))))) := HTF.out
    clear HTF
    have HBW := hide hb
    have HA := hide (fun j x (h : (lcs z.l)[j]? = some x) => lk_in hblk h)
    have a1 : wc.cell? ⟨w.heap.size, 1, none⟩ = some (.bool z.f) := blk_cell hblk rfl
    have a2 : wc.cell? ⟨w.heap.size, 2, none⟩ = some (.bool z.g) := blk_cell hblk rfl
    have a3 : wc.cell? ⟨w.heap.size, 3, none⟩ = some (.int .u64 (z.n : Nat)) := blk_cell hblk rfl
    have a4 : wc.cell? ⟨w.heap.size, 4, none⟩ = some (.int .u64 (z.b : Nat)) := blk_cell hblk rfl
    have a5 : wc.cell? ⟨w.heap.size, 5, none⟩ = some (.string z.s) := blk_cell hblk rfl
    have a6 : wc.cell? ⟨w.heap.size, 6, none⟩ = some (.slice ay' z.y.length cy') := blk_cell hblk rfl
    have a11 : wc.cell? ⟨w.heap.size, 11, none⟩ = some (.slice ak' z.ks.length ck') := blk_cell hblk rfl
    have a12 : wc.cell? ⟨w.heap.size, 12, none⟩ = some (.slice ai' z.is.length ci') := blk_cell hblk rfl
    clear hb hblk HQ0 q0
    by_cases h0 : z.f = false
    case neg => as_aux_lemma =>
      have HN : Hid (tidyf t = false) := by show _ = _; rw [HCL.out]; simp [h0]
      have k0 : z.f = true := by simpa using h0
      clear h0
      go_wp2_with fail
      go_ret
      exact ⟨by rw [HN.out]; rfl, HBW.out⟩
    have k0 : z.f = false := h0
    have H0 := hide h0
    clear h0
    by_cases h1 : z.g = false
    case neg => as_aux_lemma =>
      have HN : Hid (tidyf t = false) := by show _ = _; rw [HCL.out]; simp [h1]
      have k1 : z.g = true := by simpa using h1
      clear h1
      go_wp2_with fail
      go_ret
      exact ⟨by rw [HN.out]; rfl, HBW.out⟩
    have k1 : z.g = false := h1
    have H1 := hide h1
    clear h1
    by_cases h2 : z.n = 0
    case neg => as_aux_lemma =>
      have HN : Hid (tidyf t = false) := by show _ = _; rw [HCL.out]; simp [h2]
      have k2 : ((z.n : Int) == 0) = false := beq_eq_false_iff_ne.2 (by omega)
      clear h2
      go_wp2_with fail
      go_ret
      exact ⟨by rw [HN.out]; rfl, HBW.out⟩
    have k2 : ((z.n : Int) == 0) = true := beq_iff_eq.2 (by omega)
    have H2 := hide h2
    clear h2
    by_cases h3 : z.b = 0
    case neg => as_aux_lemma =>
      have HN : Hid (tidyf t = false) := by show _ = _; rw [HCL.out]; simp [h3]
      have k3 : ((z.b : Int) == 0) = false := beq_eq_false_iff_ne.2 (by omega)
      clear h3
      go_wp2_with fail
      go_ret
      exact ⟨by rw [HN.out]; rfl, HBW.out⟩
    have k3 : ((z.b : Int) == 0) = true := beq_iff_eq.2 (by omega)
    have H3 := hide h3
    clear h3
    by_cases h4 : z.s = ⟨#[]⟩
    case neg => as_aux_lemma =>
      have HN : Hid (tidyf t = false) := by show _ = _; rw [HCL.out]; simp [h4]
      have k4 : ¬ z.s.toList = [] := fun e => by have h := str_beq_no h4; rw [e, toList_nil] at h; exact absurd h (by simp)
      clear h4
      go_wp2_with fail
      go_ret
      exact ⟨by rw [HN.out]; rfl, HBW.out⟩
    have k4 : z.s.toList = [] := by rw [h4]; exact toList_nil
    have H4 := hide h4
    clear h4
    by_cases h5 : z.l = ⟨0, 0, 0, []⟩
    case neg => as_aux_lemma =>
      have HN : Hid (tidyf t = false) := by show _ = _; rw [HCL.out]; simp [h5]
      have HEQ : Hid (∀ wx : World, (Op.equalIn 10000 37 (.agg (lcs z.l)) (.agg (lcs ⟨0, 0, 0, []⟩))).run Tryz.prog wx = .ok false wx) := fun wx => by have h := eqlk wx HLZ.out (b := ⟨0, 0, 0, []⟩) (by simp); rw [decide_eq_false h5] at h; exact h
      clear h5
      go_wp2_with (first
        | (refine wpList_lkAt rfl rfl w.heap.size 7 z.l rfl HA.out ?_)
        | (refine wpList_eqlk rfl rfl (lcs z.l) (lcs ⟨0, 0, 0, []⟩) false rfl rfl (HEQ.out _) ?_))
      go_ret
      exact ⟨by rw [HN.out]; rfl, HBW.out⟩
    have HEQ : Hid (∀ wx : World, (Op.equalIn 10000 37 (.agg (lcs z.l)) (.agg (lcs ⟨0, 0, 0, []⟩))).run Tryz.prog wx = .ok true wx) := fun wx => by have h := eqlk wx HLZ.out (b := ⟨0, 0, 0, []⟩) (by simp); rw [decide_eq_true h5] at h; exact h
    have H5 := hide h5
    clear h5
    by_cases h6 : z.y = []
    case neg => as_aux_lemma =>
      have HN : Hid (tidyf t = false) := by show _ = _; rw [HCL.out]; simp [h6]
      have k6 : ((z.y.length : Int) == 0) = false := beq_eq_false_iff_ne.2 (fun e => h6 (List.length_eq_zero_iff.1 (by omega)))
      clear h6
      go_wp2_with (first
        | (refine wpList_lkAt rfl rfl w.heap.size 7 z.l rfl HA.out ?_)
        | (refine wpList_eqlk rfl rfl (lcs z.l) (lcs ⟨0, 0, 0, []⟩) true rfl rfl (HEQ.out _) ?_))
      go_ret
      exact ⟨by rw [HN.out]; rfl, HBW.out⟩
    have k6 : ((z.y.length : Int) == 0) = true := by rw [h6]; rfl
    have H6 := hide h6
    clear h6
    by_cases h7 : z.ks = []
    case neg => as_aux_lemma =>
      have HN : Hid (tidyf t = false) := by show _ = _; rw [HCL.out]; simp [h7]
      have k7 : ((z.ks.length : Int) == 0) = false := beq_eq_false_iff_ne.2 (fun e => h7 (List.length_eq_zero_iff.1 (by omega)))
      clear h7
      go_wp2_with (first
        | (refine wpList_lkAt rfl rfl w.heap.size 7 z.l rfl HA.out ?_)
        | (refine wpList_eqlk rfl rfl (lcs z.l) (lcs ⟨0, 0, 0, []⟩) true rfl rfl (HEQ.out _) ?_))
      go_ret
      exact ⟨by rw [HN.out]; rfl, HBW.out⟩
    have k7 : ((z.ks.length : Int) == 0) = true := by rw [h7]; rfl
    have H7 := hide h7
    clear h7
    by_cases h8 : z.is = []
    case neg => as_aux_lemma =>
      have HN : Hid (tidyf t = false) := by show _ = _; rw [HCL.out]; simp [h8]
      have k8 : ((z.is.length : Int) == 0) = false := beq_eq_false_iff_ne.2 (fun e => h8 (List.length_eq_zero_iff.1 (by omega)))
      clear h8
      go_wp2_with (first
        | (refine wpList_lkAt rfl rfl w.heap.size 7 z.l rfl HA.out ?_)
        | (refine wpList_eqlk rfl rfl (lcs z.l) (lcs ⟨0, 0, 0, []⟩) true rfl rfl (HEQ.out _) ?_))
      go_ret
      exact ⟨by rw [HN.out]; rfl, HBW.out⟩
    have k8 : ((z.is.length : Int) == 0) = true := by rw [h8]; rfl
    have H8 := hide h8
    clear h8
    have HN : Hid (tidyf t = true) := by show _ = _; rw [HCL.out, H0.out, H1.out, H2.out, H3.out, H4.out, H5.out, H6.out, H7.out, H8.out]; simp
    go_wp2_with (first
        | (refine wpList_lkAt rfl rfl w.heap.size 7 z.l rfl HA.out ?_)
        | (refine wpList_eqlk rfl rfl (lcs z.l) (lcs ⟨0, 0, 0, []⟩) true rfl rfl (HEQ.out _) ?_))
    go_ret
    exact ⟨by rw [HN.out]; rfl, HBW.out⟩
end
section
open Go.RowKit Go
def Aln (w wx : World) (cs : Array Value) : Prop := Below w.heap.size w wx ∧ wx.heap[w.heap.size]? = some (.cells cs 41 (0, 0))
theorem Aln.next {w wx wy : World} {cs : Array Value} (h : Aln w wx cs) (hb : Below wx.heap.size wx wy) : Aln w wy cs := ⟨h.1.trans (hb.mono h.1.size), (hb.block _ (blk_lt h.2)).trans h.2⟩
theorem Aln.va {w wx : World} {cs : Array Value} (h : Aln w wx cs) : ∀ j u, cs[j]? = some u → wx.cell? ⟨w.heap.size, 0 + j, none⟩ = some u := fun j u hu => by rw [Nat.zero_add]; exact blk_cell h.2 hu
theorem Aln.lk {w wx : World} {t : Tv} {vy vk vi : Value} (h : Aln w wx (vcs t vy vk vi)) : ∀ j x, (lcs t.l)[j]? = some x → wx.cell? ⟨w.heap.size, 7 + j, none⟩ = some x := fun _ _ hx => lk_in h.2 hx
theorem alone_8 (t : Tv) (hk8 : t.k = 8) (a : Nat) (w : World) (cs : Array Value) (ht : Tin w t cs) (hm : tmuch t ≤ 6000000) (hT : Tabs w) : Calls Tryz.prog 111 #[.agg cs, .int .i64 (a : Nat)] w fun e w' => e = .returned (.int .i64 (onef t a : Nat)) ∧ Below w.heap.size w w' := by
  have HTN := hide ht
  have HT := hide hT
  have HSZ := hide ht.size13
  have hme := tmuch_eq t
  have HKL : Hid (t.ks.length ≤ 6000000) := by show _ ≤ _; omega
  have HOE : Hid (onef t a = if (t.k = 8 ∨ t.k = 9) ∧ 1024 ≤ a then 60 else if tidyf t = false then 61 else if finb t.b = false then 62 else if (badb t.s || t.ks.any badb) = true then 63 else if t.k = 7 ∧ ¬ lok t.l then 64 else if t.k = 9 ∧ ¬ (t.ks.length = t.is.length ∧ t.ks.Nodup) then 65 else 0) := rfl
  generalize onef t a = E at *
  obtain ⟨vy, vk, vi, rfl, hy, hk, hv, hb⟩ := ht.parts
  have HKS := hide hk
  have HBD := hide hb
  obtain ⟨⟨ay, cy, rfl, _, _⟩, _⟩ := hy
  obtain ⟨⟨ak, ck, rfl, _, _⟩, _, _⟩ := hk
  obtain ⟨⟨ai, ci, rfl, _, _⟩, _⟩ := hv
  clear ht hT hb hm hme
  have HQ0 : Hid (Aln w (w.alloc (.cells (vcs t (.slice ay t.y.length cy) (.slice ak t.ks.length ck) (.slice ai t.is.length ci)) 41)) (vcs t (.slice ay t.y.length cy) (.slice ak t.ks.length ck) (.slice ai t.is.length ci))) := box_mk0 w _
  have HLK : Hid (∀ wx, Aln w wx (vcs t (.slice ay t.y.length cy) (.slice ak t.ks.length ck) (.slice ai t.is.length ci)) → ∀ j x, (lcs t.l)[j]? = some x → wx.cell? ⟨w.heap.size, 7 + j, none⟩ = some x) := fun wx h => h.lk
  have HC0 : Hid ((vcs t (.slice ay t.y.length cy) (.slice ak t.ks.length ck) (.slice ai t.is.length ci))[0]? = some (.int .i64 t.k)) := rfl
  have HC4 : Hid ((vcs t (.slice ay t.y.length cy) (.slice ak t.ks.length ck) (.slice ai t.is.length ci))[4]? = some (.int .u64 (t.b : Nat))) := rfl
  have HC5 : Hid ((vcs t (.slice ay t.y.length cy) (.slice ak t.ks.length ck) (.slice ai t.is.length ci))[5]? = some (.string t.s)) := rfl
  have HC11 : Hid ((vcs t (.slice ay t.y.length cy) (.slice ak t.ks.length ck) (.slice ai t.is.length ci))[11]? = some (.slice ak t.ks.length ck)) := rfl
  have HC12 : Hid ((vcs t (.slice ay t.y.length cy) (.slice ak t.ks.length ck) (.slice ai t.is.length ci))[12]? = some (.slice ai t.is.length ci)) := rfl
  generalize vcs t (.slice ay t.y.length cy) (.slice ak t.ks.length ck) (.slice ai t.is.length ci) = cs at *
  have hnest : (t.k = 8 ∨ t.k = 9) := by omega
  have g7 : (t.k == 7) = false := beq_eq_false_iff_ne.2 (by omega)
  have g9 : (t.k == 9) = false := beq_eq_false_iff_ne.2 (by omega)
  have hk7 : ¬ t.k = 7 := by omega
  have hk9 : ¬ t.k = 9 := by omega
  clear hk8
  have HV0 := hide HQ0.out.va
  go_enter Tryz.func111, Tryz.ntmps111
  go_wp2_with (refine wpList_valAt rfl rfl w.heap.size 0 cs rfl HSZ.out HV0.out ?_)
  refine (nests_any t _ cs (HTN.out.move (keep_below HQ0.out.1))).mono ?_
  rintro e w1 ⟨rfl, hb1⟩
  have HQ1 := hide (HQ0.out.next hb1)
  have HV1 := hide HQ1.out.va
  clear hb1 HQ0 HV0
  rw [decide_eq_true hnest]
  by_cases h24 : 1024 ≤ a
  · as_aux_lemma =>
    have g24 : (1024 : Int) ≤ (a : Int) := by omega
    have HE : Hid (E = 60) := by show _ = _; rw [HOE.out, if_pos ⟨hnest, h24⟩]
    clear h24
    go_wp2_with fail
    go_ret
    exact ⟨by rw [HE.out]; rfl, HQ1.out.1⟩
  have g24 : ¬ (1024 : Int) ≤ (a : Int) := by omega
  rw [if_neg (fun h => h24 h.2)] at HOE
  clear h24
  go_wp2_with (refine wpList_valAt rfl rfl w.heap.size 0 cs rfl HSZ.out HV1.out ?_)
  refine (tidy_any t _ cs (HTN.out.move (keep_below HQ1.out.1))).mono ?_
  rintro e w2 ⟨rfl, hb2⟩
  have HQ2 := hide (HQ1.out.next hb2)
  clear hb2 HQ1 HV1
  rcases Bool.eq_false_or_eq_true (tidyf t) with htd | htd
  case inr => as_aux_lemma =>
    have HE : Hid (E = 61) := by show _ = _; rw [HOE.out, if_pos htd]
    rw [htd]
    clear htd
    go_wp2_with fail
    go_ret
    exact ⟨by rw [HE.out]; rfl, HQ2.out.1⟩
  rw [htd]
  rw [if_neg (by rw [htd]; simp)] at HOE
  clear htd
  have q4 := blk_cell HQ2.out.2 HC4.out
  have hfb := frombits_any t.b
  have HFI := hide (fun W => finite_any t.b HBD.out.b W)
  generalize finb t.b = fn at *
  cases fn
  case false => as_aux_lemma =>
    have HE : Hid (E = 62) := by show _ = _; rw [HOE.out, if_pos rfl]
    go_wp2_with (go_at_call 53; refine (Hid.out HFI _).mono ?_; rintro e w' ⟨rfl, hww⟩; have hww := hww.symm; subst hww)
    go_ret
    exact ⟨by rw [HE.out]; rfl, HQ2.out.1⟩
  rw [if_neg (by simp)] at HOE
  have q5 := blk_cell HQ2.out.2 HC5.out
  go_wp2_with (go_at_call 53; refine (Hid.out HFI _).mono ?_; rintro e w' ⟨rfl, hww⟩; have hww := hww.symm; subst hww)
  clear hfb HFI q4
  refine (bad6_any t.s w2 HBD.out.s (HT.out.next HQ2.out.1)).mono ?_
  rintro e w3 ⟨rfl, hb3⟩
  have HQ3 := hide (HQ2.out.next hb3)
  clear hb3 HQ2 q5
  generalize hbs : badb t.s = bs at *
  clear hbs
  cases bs
  case true => as_aux_lemma =>
    have HE : Hid (E = 63) := by show _ = _; rw [HOE.out, if_pos (by simp)]
    go_wp2_with fail
    go_ret
    exact ⟨by rw [HE.out]; rfl, HQ3.out.1⟩
  have q11 := blk_cell HQ3.out.2 HC11.out
  go_wp2_with fail
  refine (containsFunc_any w3 _ t.ks (HKS.out.move (keep_below HQ3.out.1)) (HT.out.next HQ3.out.1)).mono ?_
  rintro e w4 ⟨rfl, hb4⟩
  have HQ4 := hide (HQ3.out.next hb4)
  clear hb4 HQ3 q11
  generalize hbk : t.ks.any badb = bk at *
  clear hbk
  cases bk
  case true => as_aux_lemma =>
    have HE : Hid (E = 63) := by show _ = _; rw [HOE.out, if_pos (by simp)]
    go_wp2_with fail
    go_ret
    exact ⟨by rw [HE.out]; rfl, HQ4.out.1⟩
  rw [if_neg (by simp)] at HOE
  have q0 := blk_cell HQ4.out.2 HC0.out
  have HE : Hid (E = 0) := by show _ = _; rw [HOE.out, if_neg (fun h => hk7 h.1), if_neg (fun h => hk9 h.1)]
  go_wp2_with fail
  go_ret
  exact ⟨by rw [HE.out]; rfl, HQ4.out.1⟩
theorem alone_x (t : Tv) (hk7 : ¬ t.k = 7) (hk8 : ¬ t.k = 8) (hk9 : ¬ t.k = 9) (a : Nat) (w : World) (cs : Array Value) (ht : Tin w t cs) (hm : tmuch t ≤ 6000000) (hT : Tabs w) : Calls Tryz.prog 111 #[.agg cs, .int .i64 (a : Nat)] w fun e w' => e = .returned (.int .i64 (onef t a : Nat)) ∧ Below w.heap.size w w' := by
  have HTN := hide ht
  have HT := hide hT
  have HSZ := hide ht.size13
  have hme := tmuch_eq t
  have HKL : Hid (t.ks.length ≤ 6000000) := by show _ ≤ _; omega
  have HOE : Hid (onef t a = if (t.k = 8 ∨ t.k = 9) ∧ 1024 ≤ a then 60 else if tidyf t = false then 61 else if finb t.b = false then 62 else if (badb t.s || t.ks.any badb) = true then 63 else if t.k = 7 ∧ ¬ lok t.l then 64 else if t.k = 9 ∧ ¬ (t.ks.length = t.is.length ∧ t.ks.Nodup) then 65 else 0) := rfl
  generalize onef t a = E at *
  obtain ⟨vy, vk, vi, rfl, hy, hk, hv, hb⟩ := ht.parts
  have HKS := hide hk
  have HBD := hide hb
  obtain ⟨⟨ay, cy, rfl, _, _⟩, _⟩ := hy
  obtain ⟨⟨ak, ck, rfl, _, _⟩, _, _⟩ := hk
  obtain ⟨⟨ai, ci, rfl, _, _⟩, _⟩ := hv
  clear ht hT hb hm hme
  have HQ0 : Hid (Aln w (w.alloc (.cells (vcs t (.slice ay t.y.length cy) (.slice ak t.ks.length ck) (.slice ai t.is.length ci)) 41)) (vcs t (.slice ay t.y.length cy) (.slice ak t.ks.length ck) (.slice ai t.is.length ci))) := box_mk0 w _
  have HLK : Hid (∀ wx, Aln w wx (vcs t (.slice ay t.y.length cy) (.slice ak t.ks.length ck) (.slice ai t.is.length ci)) → ∀ j x, (lcs t.l)[j]? = some x → wx.cell? ⟨w.heap.size, 7 + j, none⟩ = some x) := fun wx h => h.lk
  have HC0 : Hid ((vcs t (.slice ay t.y.length cy) (.slice ak t.ks.length ck) (.slice ai t.is.length ci))[0]? = some (.int .i64 t.k)) := rfl
  have HC4 : Hid ((vcs t (.slice ay t.y.length cy) (.slice ak t.ks.length ck) (.slice ai t.is.length ci))[4]? = some (.int .u64 (t.b : Nat))) := rfl
  have HC5 : Hid ((vcs t (.slice ay t.y.length cy) (.slice ak t.ks.length ck) (.slice ai t.is.length ci))[5]? = some (.string t.s)) := rfl
  have HC11 : Hid ((vcs t (.slice ay t.y.length cy) (.slice ak t.ks.length ck) (.slice ai t.is.length ci))[11]? = some (.slice ak t.ks.length ck)) := rfl
  have HC12 : Hid ((vcs t (.slice ay t.y.length cy) (.slice ak t.ks.length ck) (.slice ai t.is.length ci))[12]? = some (.slice ai t.is.length ci)) := rfl
  generalize vcs t (.slice ay t.y.length cy) (.slice ak t.ks.length ck) (.slice ai t.is.length ci) = cs at *
  have hnest : ¬ (t.k = 8 ∨ t.k = 9) := by omega
  have g7 : (t.k == 7) = false := beq_eq_false_iff_ne.2 (by omega)
  have g9 : (t.k == 9) = false := beq_eq_false_iff_ne.2 (by omega)
  have HV0 := hide HQ0.out.va
  go_enter Tryz.func111, Tryz.ntmps111
  go_wp2_with (refine wpList_valAt rfl rfl w.heap.size 0 cs rfl HSZ.out HV0.out ?_)
  refine (nests_any t _ cs (HTN.out.move (keep_below HQ0.out.1))).mono ?_
  rintro e w1 ⟨rfl, hb1⟩
  have HQ1 := hide (HQ0.out.next hb1)
  have HV1 := hide HQ1.out.va
  clear hb1 HQ0 HV0
  rw [decide_eq_false hnest]
  rw [if_neg (fun h => hnest h.1)] at HOE
  go_wp2_with (refine wpList_valAt rfl rfl w.heap.size 0 cs rfl HSZ.out HV1.out ?_)
  refine (tidy_any t _ cs (HTN.out.move (keep_below HQ1.out.1))).mono ?_
  rintro e w2 ⟨rfl, hb2⟩
  have HQ2 := hide (HQ1.out.next hb2)
  clear hb2 HQ1 HV1
  rcases Bool.eq_false_or_eq_true (tidyf t) with htd | htd
  case inr => as_aux_lemma =>
    have HE : Hid (E = 61) := by show _ = _; rw [HOE.out, if_pos htd]
    rw [htd]
    clear htd
    go_wp2_with fail
    go_ret
    exact ⟨by rw [HE.out]; rfl, HQ2.out.1⟩
  rw [htd]
  rw [if_neg (by rw [htd]; simp)] at HOE
  clear htd
  have q4 := blk_cell HQ2.out.2 HC4.out
  have hfb := frombits_any t.b
  have HFI := hide (fun W => finite_any t.b HBD.out.b W)
  generalize finb t.b = fn at *
  cases fn
  case false => as_aux_lemma =>
    have HE : Hid (E = 62) := by show _ = _; rw [HOE.out, if_pos rfl]
    go_wp2_with (go_at_call 53; refine (Hid.out HFI _).mono ?_; rintro e w' ⟨rfl, hww⟩; have hww := hww.symm; subst hww)
    go_ret
    exact ⟨by rw [HE.out]; rfl, HQ2.out.1⟩
  rw [if_neg (by simp)] at HOE
  have q5 := blk_cell HQ2.out.2 HC5.out
  go_wp2_with (go_at_call 53; refine (Hid.out HFI _).mono ?_; rintro e w' ⟨rfl, hww⟩; have hww := hww.symm; subst hww)
  clear hfb HFI q4
  refine (bad6_any t.s w2 HBD.out.s (HT.out.next HQ2.out.1)).mono ?_
  rintro e w3 ⟨rfl, hb3⟩
  have HQ3 := hide (HQ2.out.next hb3)
  clear hb3 HQ2 q5
  generalize hbs : badb t.s = bs at *
  clear hbs
  cases bs
  case true => as_aux_lemma =>
    have HE : Hid (E = 63) := by show _ = _; rw [HOE.out, if_pos (by simp)]
    go_wp2_with fail
    go_ret
    exact ⟨by rw [HE.out]; rfl, HQ3.out.1⟩
  have q11 := blk_cell HQ3.out.2 HC11.out
  go_wp2_with fail
  refine (containsFunc_any w3 _ t.ks (HKS.out.move (keep_below HQ3.out.1)) (HT.out.next HQ3.out.1)).mono ?_
  rintro e w4 ⟨rfl, hb4⟩
  have HQ4 := hide (HQ3.out.next hb4)
  clear hb4 HQ3 q11
  generalize hbk : t.ks.any badb = bk at *
  clear hbk
  cases bk
  case true => as_aux_lemma =>
    have HE : Hid (E = 63) := by show _ = _; rw [HOE.out, if_pos (by simp)]
    go_wp2_with fail
    go_ret
    exact ⟨by rw [HE.out]; rfl, HQ4.out.1⟩
  rw [if_neg (by simp)] at HOE
  have q0 := blk_cell HQ4.out.2 HC0.out
  have HE : Hid (E = 0) := by show _ = _; rw [HOE.out, if_neg (fun h => hk7 h.1), if_neg (fun h => hk9 h.1)]
  go_wp2_with fail
  go_ret
  exact ⟨by rw [HE.out]; rfl, HQ4.out.1⟩
end
section
open Go.RowKit Go
structure Nvi (w : World) (B : Nat) (wx : World) (v : Value) (L : List (Array Value)) (is : List Tv) : Prop where
  o : wx.ownsRow B 41 13 v L.length (vfl L)
  s : ∀ c ∈ L, c.size = 13
  b : Below B w wx
  z : B ≤ wx.heap.size
  i : ∀ (j : Nat) (u : Tv) (c : Array Value), is[j]? = some u → L[j]? = some c → ∃ lo hi, B ≤ lo ∧ hi ≤ wx.heap.size ∧ (∀ q, v.ownBlock = some q → q < lo ∨ hi ≤ q) ∧ Ntv wx lo hi u c
theorem Nvi.next {w : World} {B : Nat} {wx wy : World} {v : Value} {L : List (Array Value)} {is : List Tv} (h : Nvi w B wx v L is) (hb : Below wx.heap.size wx wy) : Nvi w B wy v L is :=
  ⟨(Kp.of_below (S := fun _ => False) hb).owns h.o (fun _ _ hf => hf), h.s, h.b.trans (hb.mono h.z), Nat.le_trans h.z hb.size, fun j u c h1 h2 => by
    obtain ⟨lo, hi, e1, e2, e3, e4⟩ := h.i j u c h1 h2
    exact ⟨lo, hi, e1, Nat.le_trans e2 hb.size, e3, e4.kept hb⟩⟩
theorem Nvi.app {w : World} {B : Nat} {wx wy : World} {v v' : Value} {L : List (Array Value)} {is : List Tv} (h : Nvi w B wx v L is) {c : Array Value} (hc : c.size = 13) (ho : wy.ownsRow B 41 13 v' (L.length + 1) (vfl L ++ c.toList)) (hg : wx.grownBy wy v.ownBlock) (hv : v'.ownBlock = v.ownBlock ∨ v'.ownBlock = some wx.heap.size)
    (hnew : ∀ u, is[L.length]? = some u → ∃ lo hi, B ≤ lo ∧ hi ≤ wx.heap.size ∧ (∀ q, v.ownBlock = some q → q < lo ∨ hi ≤ q) ∧ Ntv wx lo hi u c) : Nvi w B wy v' (L ++ [c]) is := by
  have hk : Kp (fun q => v.ownBlock = some q) wx wy := (Kp.refl _ _).grown hg (fun k _ h => h)
  have hz := hk.size
  refine ⟨?_, ?_, h.b.grown hg h.z (fun g hg => (h.o.lt g hg).1), Nat.le_trans h.z hz, fun j u c' h1 h2 => ?_⟩
  · rw [vfl_app, List.length_append]
    have e : vfl [c] = c.toList := by simp [vfl]
    rw [e]
    exact ho
  · intro d hd
    rcases List.mem_append.1 hd with hd | hd
    · exact h.s d hd
    · simp only [List.mem_singleton] at hd
      rw [hd]
      exact hc
  · have key : ∃ lo hi, B ≤ lo ∧ hi ≤ wx.heap.size ∧ (∀ q, v.ownBlock = some q → q < lo ∨ hi ≤ q) ∧ Ntv wx lo hi u c' := by
      rcases Nat.lt_or_ge j L.length with hj | hj
      · rw [List.getElem?_append_left hj] at h2
        exact h.i j u c' h1 h2
      · rw [List.getElem?_append_right hj] at h2
        have hj0 : j = L.length := by
          rcases Nat.eq_or_lt_of_le hj with e | e
          · exact e.symm
          · rw [List.getElem?_eq_none (by simp; omega)] at h2
            cases h2
        subst hj0
        simp at h2
        subst h2
        exact hnew u h1
    obtain ⟨lo, hi, e1, e2, e3, e4⟩ := key
    refine ⟨lo, hi, e1, Nat.le_trans e2 hz, fun q hq => ?_, e4.kp hk (fun q h1 h2 e => by rcases e3 q e with h | h <;> omega)⟩
    rcases hv with hv | hv
    · exact e3 q (by rw [← hv]; exact hq)
    · rw [hv] at hq
      injection hq with hq
      subst hq
      exact .inr e2
end
section
open Go.RowKit Go
theorem own_slice {w : World} {B e s n : Nat} {v : Value} {xs : List Value} (h : w.ownsRow B e s v n xs) : ∃ a c, v = .slice a n c := by
  rcases h.2 with ⟨e, h0⟩ | ⟨g, c, cur, e, _⟩
  · exact ⟨none, 0, by rw [e, h0]⟩
  · exact ⟨_, c, e⟩
end
end Go.Proofs.YtmcamdcgnegmmaaGreatDoor

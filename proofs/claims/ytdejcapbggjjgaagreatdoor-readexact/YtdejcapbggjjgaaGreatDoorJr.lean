import Derived.Test.YtdejcapbggjjgaaGreatDoorJo
namespace Go.Proofs.YtdejcapbggjjgaaGreatDoor
section
open Go.RowKit Go
theorem end_other {wx : World} {R : Nat} {c : Array Value} {tmps : Array Value} (hn : c.size = 13) (hr : wx.heap[R]? = some (.cells c 61 (0, 0))) (hp : tmps.getD 2 undef = .pointer (some ⟨R, 0, none⟩)) : (results Tryz.f64 tmps).run Tryz.prog wx = .ok (.agg c) wx := by
  refine (results_one (p := 2) (ty := 61) rfl _ _ _).trans ?_
  rw [hp]
  have h1 := run_loadVar_row (P := Tryz.prog) wx R 61 61 c (0, 0) _ hr Tryz.underlying61 rfl (by rw [hn]; exact infoV)
  simp [asAddr, h1, Result.andThen]
/-- The head's box, the answer's. -/
structure Ob8 (w wx : World) (hs c : Array Value) : Prop where
  x : wx.heap[w.heap.size]? = some (.cells hs 99 (0, 0))
  r : wx.heap[w.heap.size + 1]? = some (.cells c 61 (0, 0))
  b : Below w.heap.size w wx
theorem Ob8.start (w : World) (hs c : Array Value) : Ob8 w ((w.alloc (.cells hs 99)).alloc (.cells c 61)) hs c := by
  have h1 := heap_alloc_new w (.cells hs 99)
  have e1 : (w.alloc (.cells hs 99)).heap.size = w.heap.size + 1 := by simp
  have h2 := heap_alloc_new (w.alloc (.cells hs 99)) (.cells c 61)
  rw [e1] at h2
  have b1 := below_alloc4 w (.cells hs 99)
  have b2 := below_alloc4 (w.alloc (.cells hs 99)) (.cells c 61)
  exact ⟨blk_alloc _ h1, h2, b1.trans (b2.mono b1.size)⟩
set_option maxRecDepth 1000000 in
/-- The tree that the last major says. -/
theorem rother8_any (w : World) (h : HR) (hm : h.m = 7) (hn : h.n < 18446744073709551616) : Calls Tryz.prog 64 #[.agg (hcs h)] w fun e w' => e = .returned (.agg (vcs (rleaf h []) (.slice none 0 0) (.slice none 0 0) (.slice none 0 0))) ∧ Below w.heap.size w w' ∧ Tbd (rleaf h []) ∧ (rleaf h []).y = [] ∧ (rleaf h []).ks = [] ∧ (rleaf h []).is = [] := by
  have HQ := hide (Ob8.start w (hcs h) zv)
  have HN := hide hn
  have H1 : Hid ((hcs h)[1]? = some (.int .i64 (h.i : Nat))) := rfl
  have H2 : Hid ((hcs h)[2]? = some (.int .u64 (h.n : Nat))) := rfl
  generalize hcs h = hs at *
  have c1 := blk_cell (j := 1) HQ.out.x H1.out
  have c2 := blk_cell (j := 2) HQ.out.x H2.out
  have HR := hide HQ.out.r
  have HI3 : Hid (∀ t : Tv, (Tryz.prog.info? 61).map (·.size) = some (vcs t (.slice none 0 0) (.slice none 0 0) (.slice none 0 0)).size) := fun _ => infoV
  have key : ∀ t : Tv, rleaf h [] = t → Tbd t ∧ t.y = [] ∧ t.ks = [] ∧ t.is = [] → Tbd (rleaf h []) ∧ (rleaf h []).y = [] ∧ (rleaf h []).ks = [] ∧ (rleaf h []).is = [] := fun t e k => by rw [e]; exact k
  have HKY := hide key
  have m0 : ¬ (h.m = 0 ∨ h.m = 1) := by omega
  have m2 : ¬ h.m = 2 := by omega
  have m3 : ¬ h.m = 3 := by omega
  clear hn key hm
  unfold zv at HQ c1 c2 HR
  by_cases hi27 : h.i = 27
  · as_aux_lemma =>
    have g4 : ((h.i : Int) == 27) = true := beq_iff_eq.2 (by omega)
    have e : rleaf h [] = .mk 4 false false 0 h.n ⟨#[]⟩ [] ⟨0, 0, 0, []⟩ [] [] := by unfold rleaf; rw [if_neg m0, if_neg m2, if_neg m3, if_pos hi27]
    have hk := HKY.out _ e ⟨leaf_tbd (by show (0 : Nat) < _; decide) HN.out (by show (ByteArray.mk #[]).size ≤ _; decide) (by show (0 : Nat) ≤ _; decide) rfl, rfl, rfl, rfl⟩
    rw [e] at hk ⊢
    have HK := hide hk
    have HA3 := hide (plain_tis w (fun _ => False) HK.out.1 rfl rfl rfl).tin.all1
    clear m0 m2 m3 hi27 e hk HKY
    go_enter Tryz.func64, Tryz.ntmps64
    go_wp2_with (refine wpList_storeRow rfl rfl (w.heap.size + 1) zv (vcs (.mk 4 false false 0 h.n ⟨#[]⟩ [] ⟨0, 0, 0, []⟩ [] []) (.slice none 0 0) (.slice none 0 0) (.slice none 0 0)) 61 rfl rfl HR.out (HI3.out _) rfl HA3.out ?_)
    exact bodyPost_ret (end_other rfl (row_same HR.out) rfl) rfl ⟨rfl, HQ.out.b.trans ((row_kp _ _ _).below HQ.out.b.size (fun q e => by omega)), HK.out⟩
  have g4 : ((h.i : Int) == 27) = false := beq_eq_false_iff_ne.2 (by omega)
  by_cases hi22 : h.i = 22
  · as_aux_lemma =>
    have g5 : ((h.i : Int) == 22) = true := beq_iff_eq.2 (by omega)
    have e : rleaf h [] = .mk 1 false false 0 0 ⟨#[]⟩ [] ⟨0, 0, 0, []⟩ [] [] := by unfold rleaf; rw [if_neg m0, if_neg m2, if_neg m3, if_neg hi27, if_pos hi22]; rfl
    have hk := HKY.out _ e ⟨leaf_tbd (by show (0 : Nat) < _; decide) (by show (0 : Nat) < _; decide) (by show (ByteArray.mk #[]).size ≤ _; decide) (by show (0 : Nat) ≤ _; decide) rfl, rfl, rfl, rfl⟩
    rw [e] at hk ⊢
    have HK := hide hk
    have HA3 := hide (plain_tis w (fun _ => False) HK.out.1 rfl rfl rfl).tin.all1
    clear m0 m2 m3 hi27 hi22 e hk HKY
    go_enter Tryz.func64, Tryz.ntmps64
    go_wp2_with (refine wpList_storeRow rfl rfl (w.heap.size + 1) zv (vcs (.mk 1 false false 0 0 ⟨#[]⟩ [] ⟨0, 0, 0, []⟩ [] []) (.slice none 0 0) (.slice none 0 0) (.slice none 0 0)) 61 rfl rfl HR.out (HI3.out _) rfl HA3.out ?_)
    exact bodyPost_ret (end_other rfl (row_same HR.out) rfl) rfl ⟨rfl, HQ.out.b.trans ((row_kp _ _ _).below HQ.out.b.size (fun q e => by omega)), HK.out⟩
  · as_aux_lemma =>
    have g5 : ((h.i : Int) == 22) = false := beq_eq_false_iff_ne.2 (by omega)
    have HD1 : Hid (decide (h.i = 21) = ((h.i : Int) == 21)) := by
      show _ = _
      rw [Bool.eq_iff_iff]
      simp
      omega
    have e : rleaf h [] = .mk 2 ((h.i : Int) == 21) false 0 0 ⟨#[]⟩ [] ⟨0, 0, 0, []⟩ [] [] := by unfold rleaf; rw [if_neg m0, if_neg m2, if_neg m3, if_neg hi27, if_neg hi22, HD1.out]
    have hk := HKY.out _ e ⟨leaf_tbd (by show (0 : Nat) < _; decide) (by show (0 : Nat) < _; decide) (by show (ByteArray.mk #[]).size ≤ _; decide) (by show (0 : Nat) ≤ _; decide) rfl, rfl, rfl, rfl⟩
    rw [e] at hk ⊢
    have HK := hide hk
    have HA3 := hide (plain_tis w (fun _ => False) HK.out.1 rfl rfl rfl).tin.all1
    clear m0 m2 m3 hi27 hi22 e hk HKY HD1
    go_enter Tryz.func64, Tryz.ntmps64
    go_wp2_with (refine wpList_storeRow rfl rfl (w.heap.size + 1) zv (vcs (.mk 2 ((h.i : Int) == 21) false 0 0 ⟨#[]⟩ [] ⟨0, 0, 0, []⟩ [] []) (.slice none 0 0) (.slice none 0 0) (.slice none 0 0)) 61 rfl rfl HR.out (HI3.out _) rfl HA3.out ?_)
    exact bodyPost_ret (end_other rfl (row_same HR.out) rfl) rfl ⟨rfl, HQ.out.b.trans ((row_kp _ _ _).below HQ.out.b.size (fun q e => by omega)), HK.out⟩
end
end Go.Proofs.YtdejcapbggjjgaaGreatDoor

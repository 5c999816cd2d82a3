import Derived.Test.YtadilnmkjcmnnaaGreatDoorJt
import Derived.Test.YtadilnmkjcmnnaaGreatDoorJd
namespace Go.Proofs.YtadilnmkjcmnnaaGreatDoor
section
open Go.RowKit Go
theorem own_slice8 {w : World} {B e s n : Nat} {v : Value} {xs : List Value} (h : w.ownsRow B e s v n xs) : ∃ a c, v = .slice a n c := by
  rcases h.2 with ⟨e, h0⟩ | ⟨g, c, cur, e, _⟩
  · exact ⟨none, 0, by rw [e, h0]⟩
  · exact ⟨_, c, e⟩
theorem plain_tis (w : World) (S : Nat → Prop) {t : Tv} (hb : Tbd t) (hy : t.y = []) (hk : t.ks = []) (hi : t.is = []) : Tis w S t (vcs t (.slice none 0 0) (.slice none 0 0) (.slice none 0 0)) :=
  Tis.mk t _ _ _ hb (by rw [hy]; exact bsl_none w) (fun h => absurd hy h) (by rw [hk]; exact ⟨⟨none, 0, rfl, ⟨Nat.le_refl _, fun _ => rfl⟩, .inl rfl⟩, by show (0 : Nat) ≤ _; decide, fun x hx => (by cases hx)⟩) (fun h => absurd hk h) (fun _ => #[]) none 0 (by rw [hi]; rfl) (by rw [hi]; exact ⟨Nat.le_refl _, fun _ => rfl⟩) (by rw [hi]; show (0 : Nat) ≤ _; decide) (fun i u hu => (by rw [hi] at hu; cases hu)) (.inl hi)
theorem end_leaf {wx : World} {R : Nat} {c : Array Value} {tmps : Array Value} (hn : c.size = 13) (hr : wx.heap[R]? = some (.cells c 62 (0, 0))) (hp : tmps.getD 2 undef = .pointer (some ⟨R, 0, none⟩)) : (results Tryz.f80 tmps).run Tryz.prog wx = .ok (.agg c) wx := by
  refine (results_one (p := 2) (ty := 62) rfl _ _ _).trans ?_
  rw [hp]
  have h1 := run_loadVar_row (P := Tryz.prog) wx R 62 62 c (0, 0) _ hr Tryz.underlying62 rfl (by rw [hn]; exact infoV)
  simp [asAddr, h1, Result.andThen]
def LeafP (w : World) (t : Tv) (e : Ending) (w' : World) : Prop := ∃ c, e = .returned (.agg c) ∧ Tis w' (fun q => q < w.heap.size) t c ∧ Below w.heap.size w w'
theorem LeafP.mk {w w' : World} {t t' : Tv} {c : Array Value} (ht : t = t') (h1 : Tis w' (fun q => q < w.heap.size) t' c) (h2 : Below w.heap.size w w') : LeafP w t (.returned (.agg c)) w' := ⟨c, rfl, by rw [ht]; exact h1, h2⟩
theorem leaf_tbd {t : Tv} (h1 : t.n < 18446744073709551616) (h2 : t.b < 18446744073709551616) (h3 : t.s.size ≤ 140737488351232) (h4 : t.y.length ≤ 140737488351232) (h5 : t.l = ⟨0, 0, 0, []⟩) : Tbd t := ⟨h1, h2, h3, h4, by rw [h5]; exact ⟨by decide, by decide, fun x hx => (by cases hx), by decide⟩, by rw [h5]; decide⟩
set_option maxRecDepth 1000000 in
set_option maxHeartbeats 4000000 in
theorem leaf8_any (w : World) (g : Nat) (h : HR) (vb : Value) (y : List Nat) (s : ByteArray) (l : Lk) (hg : w.heap[g]? = some (.cells (ics h vb s l) 115 (0, 0))) (hb : BSl w vb y) (hyl : y.length ≤ 140737488351232) (hn : h.n < 18446744073709551616) (hs : h.m = 3 → s = nstr y) :
    Calls Tryz.prog 80 #[.pointer (some ⟨g, 0, none⟩)] w (LeafP w (rleaf h y)) := by
  have HBB := hide hb
  have HBY := hide hb.byte
  have hlt := blk_lt hg
  have HGL := hide hlt
  have HG0 : Hid ((w.alloc (.cells zv 62)).heap[g]? = some (.cells (ics h vb s l) 115 (0, 0))) := blk_alloc _ hg
  have HR0 : Hid ((w.alloc (.cells zv 62)).heap[w.heap.size]? = some (.cells zv 62 (0, 0))) := heap_alloc_new w _
  have HB0 : Hid (Below w.heap.size w (w.alloc (.cells zv 62))) := below_alloc4 w _
  obtain ⟨⟨a, cap, rfl, _, _⟩, _, _⟩ := hb
  clear hg hlt
  unfold zv at HG0 HR0 HB0
  go_enter Tryz.func80, Tryz.ntmps80
  go_upto_region 1 with fail
  generalize w.alloc (.cells #[.int .i64 0, .bool false, .bool false, .int .u64 0, .int .u64 0, .string ⟨#[]⟩, .slice none 0 0, .int .i64 0, .int .u64 0, .int .u64 0, .string ⟨#[]⟩, .slice none 0 0, .slice none 0 0] 62) = w0 at *
  have HR0 : Hid (w0.heap[w.heap.size]? = some (.cells zv 62 (0, 0))) := HR0
  have c0 : w0.cell? ⟨g, 0, none⟩ = some (.int .i64 (h.m : Nat)) := blk_cell (j := 0) HG0.out rfl
  have c1 : w0.cell? ⟨g, 1, none⟩ = some (.int .i64 (h.i : Nat)) := blk_cell (j := 1) HG0.out rfl
  have c2 : w0.cell? ⟨g, 2, none⟩ = some (.int .u64 (h.n : Nat)) := blk_cell (j := 2) HG0.out rfl
  have c5 : w0.cell? ⟨g, 5, none⟩ = some (.slice a y.length cap) := blk_cell (j := 5) HG0.out rfl
  have c6 : w0.cell? ⟨g, 6, none⟩ = some (.string s) := blk_cell (j := 6) HG0.out rfl
  by_cases hm : h.m = 0
  · as_aux_lemma =>
    have g0 : ((h.m : Int) == 0) = true := beq_iff_eq.2 (by omega)
    have g1 : ((h.m : Int) == 1) = false := beq_eq_false_iff_ne.2 (by omega)
    have HRL : Hid (rleaf h y = (.mk 3 false false h.n 0 ⟨#[]⟩ [] ⟨0, 0, 0, []⟩ [] [])) := by show _ = _; unfold rleaf; rw [if_pos (by omega)]; simp [hm]
    have HI3 : Hid ((Tryz.prog.info? 62).map (·.size) = some (vcs (.mk 3 false false h.n 0 ⟨#[]⟩ [] ⟨0, 0, 0, []⟩ [] []) (.slice none 0 0) (.slice none 0 0) (.slice none 0 0)).size) := infoV
    have HZ3 : Hid (zv.size = (vcs (.mk 3 false false h.n 0 ⟨#[]⟩ [] ⟨0, 0, 0, []⟩ [] []) (.slice none 0 0) (.slice none 0 0) (.slice none 0 0)).size) := rfl
    have HTT : Hid (∀ wz, Tis wz (fun q => q < w.heap.size) (.mk 3 false false h.n 0 ⟨#[]⟩ [] ⟨0, 0, 0, []⟩ [] []) (vcs (.mk 3 false false h.n 0 ⟨#[]⟩ [] ⟨0, 0, 0, []⟩ [] []) (.slice none 0 0) (.slice none 0 0) (.slice none 0 0))) := fun wz => plain_tis wz _ (leaf_tbd hn (by show (0 : Nat) < _; decide) (by show (ByteArray.mk #[]).size ≤ _; decide) (by show (0 : Nat) ≤ _; decide) rfl) rfl rfl rfl
    have HA3 := hide (HTT.out w0).tin.all1
    clear hm
    go_wp2_with fail
    refine heldStart (S := fun wy => wy.heap[g]? = some (.cells (ics h (.slice a y.length cap) s l) 115 (0, 0))) (by kernel_rfl) ?_
    have hS : w0.drew.heap[g]? = some (.cells (ics h (.slice a y.length cap) s l) 115 (0, 0)) := HG0.out
    refine heldTake 0 _ rfl (by kernel_rfl) (by kernel_rfl) (by kernel_rfl) (fun _ _ _ h => h) rfl hS (fun wy hy => by first | (go_simp; done) | (go_simp; rfl) | rfl) ?_
    (try simp only [Act.put]); (try simp only [List.setIfInBounds_toArray, List.set_cons_zero, List.set_cons_succ])
    refine heldTake 1 _ rfl (by kernel_rfl) (by kernel_rfl) (by kernel_rfl) (fun _ _ _ h => h) rfl hS (fun wy hy => by first | (go_simp; done) | (go_simp; rfl) | rfl) ?_
    (try simp only [Act.put]); (try simp only [List.setIfInBounds_toArray, List.set_cons_zero, List.set_cons_succ])
    refine heldTake 2 _ rfl (by kernel_rfl) (by kernel_rfl) (by kernel_rfl) (fun _ _ _ h => h) rfl hS (fun wy hy => by first | (go_simp; done) | (go_simp; rfl) | rfl) ?_
    (try simp only [Act.put]); (try simp only [List.setIfInBounds_toArray, List.set_cons_zero, List.set_cons_succ])
    refine heldTake 3 _ rfl (by kernel_rfl) (by kernel_rfl) (by kernel_rfl) (fun _ _ _ h => h) rfl hS (fun wy hy => by first | (go_simp; done) | (go_simp; rfl) | rfl) ?_
    (try simp only [Act.put]); (try simp only [List.setIfInBounds_toArray, List.set_cons_zero, List.set_cons_succ])
    refine heldTake 4 _ rfl (by kernel_rfl) (by kernel_rfl) (by kernel_rfl) (fun _ _ _ h => h) rfl hS (fun wy hy => by have h0 := blk_cell (j := 0) (v := .int .i64 (h.m : Nat)) hy rfl; first | (go_simp; done) | (go_simp; rfl) | rfl) ?_
    (try simp only [Act.put]); (try simp only [List.setIfInBounds_toArray, List.set_cons_zero, List.set_cons_succ])
    refine heldTake 5 _ rfl (by kernel_rfl) (by kernel_rfl) (by kernel_rfl) (fun _ _ _ h => h) rfl hS (fun wy hy => by first | (go_simp; done) | (go_simp; rfl) | rfl) ?_
    (try simp only [Act.put]); (try simp only [List.setIfInBounds_toArray, List.set_cons_zero, List.set_cons_succ])
    refine heldTake 6 _ rfl (by kernel_rfl) (by kernel_rfl) (by kernel_rfl) (fun _ _ _ h => h) rfl hS (fun wy hy => by first | (go_simp; done) | (go_simp; rfl) | rfl) ?_
    (try simp only [Act.put]); (try simp only [List.setIfInBounds_toArray, List.set_cons_zero, List.set_cons_succ])
    refine heldTake 7 _ rfl (by kernel_rfl) (by kernel_rfl) (by kernel_rfl) (fun _ _ _ h => h) rfl hS (fun wy hy => by first | (go_simp; done) | (go_simp; rfl) | rfl) ?_
    (try simp only [Act.put]); (try simp only [List.setIfInBounds_toArray, List.set_cons_zero, List.set_cons_succ])
    refine heldTake 8 _ rfl (by kernel_rfl) (by kernel_rfl) (by kernel_rfl) (fun _ _ _ h => h) rfl hS (fun wy hy => by first | (go_simp; done) | (go_simp; rfl) | rfl) ?_
    (try simp only [Act.put]); (try simp only [List.setIfInBounds_toArray, List.set_cons_zero, List.set_cons_succ])
    refine heldTake 9 _ rfl (by kernel_rfl) (by kernel_rfl) (by kernel_rfl) (fun _ _ _ h => h) rfl hS (fun wy hy => by first | (go_simp; done) | (go_simp; rfl) | rfl) ?_
    (try simp only [Act.put]); (try simp only [List.setIfInBounds_toArray, List.set_cons_zero, List.set_cons_succ])
    refine heldTake 10 _ rfl (by kernel_rfl) (by kernel_rfl) (by kernel_rfl) (fun _ _ _ h => h) rfl hS (fun wy hy => by have h0 := blk_cell (j := 2) (v := .int .u64 (h.n : Nat)) hy rfl; first | (go_simp; done) | (go_simp; rfl) | rfl) ?_
    (try simp only [Act.put]); (try simp only [List.setIfInBounds_toArray, List.set_cons_zero, List.set_cons_succ])
    refine heldTake 11 _ rfl (by kernel_rfl) (by kernel_rfl) (by kernel_rfl) (fun _ _ _ h => h) rfl hS (fun wy hy => by first | (go_simp; done) | (go_simp; rfl) | rfl) ?_
    (try simp only [Act.put]); (try simp only [List.setIfInBounds_toArray, List.set_cons_zero, List.set_cons_succ])
    refine heldStep 12 rfl (by kernel_rfl) (fun K hK => ?_)
    refine step_storeRow rfl rfl w.heap.size zv (vcs (.mk 3 false false h.n 0 ⟨#[]⟩ [] ⟨0, 0, 0, []⟩ [] []) (.slice none 0 0) (.slice none 0 0) (.slice none 0 0)) 62 rfl rfl HR0.out HI3.out HZ3.out HA3.out ?_
    have hrk := row_kp w0.drew w.heap.size (vcs (.mk 3 false false h.n 0 ⟨#[]⟩ [] ⟨0, 0, 0, []⟩ [] []) (.slice none 0 0) (.slice none 0 0) (.slice none 0 0))
    refine (Hid.out hK) _ _ ((hrk.block _ (blk_lt hS) (by have := HGL.out; omega)).trans hS) (fun hS4 => ?_)
    clear hK K hS
    (try simp only [Act.put]); (try simp only [List.setIfInBounds_toArray, List.set_cons_zero, List.set_cons_succ])
    refine heldDone (by kernel_rfl) ?_
    clear hS4
    go_wp2_with fail
    exact bodyPost_ret (end_leaf rfl (row_same (w := w0.drew) HR0.out) rfl) rfl (LeafP.mk HRL.out (HTT.out _) (HB0.out.drew.trans (hrk.below HB0.out.size (fun q e => by omega))))
  have g0 : ((h.m : Int) == 0) = false := beq_eq_false_iff_ne.2 (by omega)
  by_cases hm1 : h.m = 1
  · as_aux_lemma =>
    have hm := hm1
    clear hm1
    have g1 : ((h.m : Int) == 1) = true := beq_iff_eq.2 (by omega)
    have HRL : Hid (rleaf h y = (.mk 3 false true h.n 0 ⟨#[]⟩ [] ⟨0, 0, 0, []⟩ [] [])) := by show _ = _; unfold rleaf; rw [if_pos (by omega)]; simp [hm]
    have HI3 : Hid ((Tryz.prog.info? 62).map (·.size) = some (vcs (.mk 3 false true h.n 0 ⟨#[]⟩ [] ⟨0, 0, 0, []⟩ [] []) (.slice none 0 0) (.slice none 0 0) (.slice none 0 0)).size) := infoV
    have HZ3 : Hid (zv.size = (vcs (.mk 3 false true h.n 0 ⟨#[]⟩ [] ⟨0, 0, 0, []⟩ [] []) (.slice none 0 0) (.slice none 0 0) (.slice none 0 0)).size) := rfl
    have HTT : Hid (∀ wz, Tis wz (fun q => q < w.heap.size) (.mk 3 false true h.n 0 ⟨#[]⟩ [] ⟨0, 0, 0, []⟩ [] []) (vcs (.mk 3 false true h.n 0 ⟨#[]⟩ [] ⟨0, 0, 0, []⟩ [] []) (.slice none 0 0) (.slice none 0 0) (.slice none 0 0))) := fun wz => plain_tis wz _ (leaf_tbd hn (by show (0 : Nat) < _; decide) (by show (ByteArray.mk #[]).size ≤ _; decide) (by show (0 : Nat) ≤ _; decide) rfl) rfl rfl rfl
    have HA3 := hide (HTT.out w0).tin.all1
    clear hm
    go_wp2_with fail
    refine heldStart (S := fun wy => wy.heap[g]? = some (.cells (ics h (.slice a y.length cap) s l) 115 (0, 0))) (by kernel_rfl) ?_
    have hS : w0.drew.heap[g]? = some (.cells (ics h (.slice a y.length cap) s l) 115 (0, 0)) := HG0.out
    refine heldTake 0 _ rfl (by kernel_rfl) (by kernel_rfl) (by kernel_rfl) (fun _ _ _ h => h) rfl hS (fun wy hy => by first | (go_simp; done) | (go_simp; rfl) | rfl) ?_
    (try simp only [Act.put]); (try simp only [List.setIfInBounds_toArray, List.set_cons_zero, List.set_cons_succ])
    refine heldTake 1 _ rfl (by kernel_rfl) (by kernel_rfl) (by kernel_rfl) (fun _ _ _ h => h) rfl hS (fun wy hy => by first | (go_simp; done) | (go_simp; rfl) | rfl) ?_
    (try simp only [Act.put]); (try simp only [List.setIfInBounds_toArray, List.set_cons_zero, List.set_cons_succ])
    refine heldTake 2 _ rfl (by kernel_rfl) (by kernel_rfl) (by kernel_rfl) (fun _ _ _ h => h) rfl hS (fun wy hy => by first | (go_simp; done) | (go_simp; rfl) | rfl) ?_
    (try simp only [Act.put]); (try simp only [List.setIfInBounds_toArray, List.set_cons_zero, List.set_cons_succ])
    refine heldTake 3 _ rfl (by kernel_rfl) (by kernel_rfl) (by kernel_rfl) (fun _ _ _ h => h) rfl hS (fun wy hy => by first | (go_simp; done) | (go_simp; rfl) | rfl) ?_
    (try simp only [Act.put]); (try simp only [List.setIfInBounds_toArray, List.set_cons_zero, List.set_cons_succ])
    refine heldTake 4 _ rfl (by kernel_rfl) (by kernel_rfl) (by kernel_rfl) (fun _ _ _ h => h) rfl hS (fun wy hy => by have h0 := blk_cell (j := 0) (v := .int .i64 (h.m : Nat)) hy rfl; first | (go_simp; done) | (go_simp; rfl) | rfl) ?_
    (try simp only [Act.put]); (try simp only [List.setIfInBounds_toArray, List.set_cons_zero, List.set_cons_succ])
    refine heldTake 5 _ rfl (by kernel_rfl) (by kernel_rfl) (by kernel_rfl) (fun _ _ _ h => h) rfl hS (fun wy hy => by first | (go_simp; done) | (go_simp; rfl) | rfl) ?_
    (try simp only [Act.put]); (try simp only [List.setIfInBounds_toArray, List.set_cons_zero, List.set_cons_succ])
    refine heldTake 6 _ rfl (by kernel_rfl) (by kernel_rfl) (by kernel_rfl) (fun _ _ _ h => h) rfl hS (fun wy hy => by first | (go_simp; done) | (go_simp; rfl) | rfl) ?_
    (try simp only [Act.put]); (try simp only [List.setIfInBounds_toArray, List.set_cons_zero, List.set_cons_succ])
    refine heldTake 7 _ rfl (by kernel_rfl) (by kernel_rfl) (by kernel_rfl) (fun _ _ _ h => h) rfl hS (fun wy hy => by first | (go_simp; done) | (go_simp; rfl) | rfl) ?_
    (try simp only [Act.put]); (try simp only [List.setIfInBounds_toArray, List.set_cons_zero, List.set_cons_succ])
    refine heldTake 8 _ rfl (by kernel_rfl) (by kernel_rfl) (by kernel_rfl) (fun _ _ _ h => h) rfl hS (fun wy hy => by first | (go_simp; done) | (go_simp; rfl) | rfl) ?_
    (try simp only [Act.put]); (try simp only [List.setIfInBounds_toArray, List.set_cons_zero, List.set_cons_succ])
    refine heldTake 9 _ rfl (by kernel_rfl) (by kernel_rfl) (by kernel_rfl) (fun _ _ _ h => h) rfl hS (fun wy hy => by first | (go_simp; done) | (go_simp; rfl) | rfl) ?_
    (try simp only [Act.put]); (try simp only [List.setIfInBounds_toArray, List.set_cons_zero, List.set_cons_succ])
    refine heldTake 10 _ rfl (by kernel_rfl) (by kernel_rfl) (by kernel_rfl) (fun _ _ _ h => h) rfl hS (fun wy hy => by have h0 := blk_cell (j := 2) (v := .int .u64 (h.n : Nat)) hy rfl; first | (go_simp; done) | (go_simp; rfl) | rfl) ?_
    (try simp only [Act.put]); (try simp only [List.setIfInBounds_toArray, List.set_cons_zero, List.set_cons_succ])
    refine heldTake 11 _ rfl (by kernel_rfl) (by kernel_rfl) (by kernel_rfl) (fun _ _ _ h => h) rfl hS (fun wy hy => by first | (go_simp; done) | (go_simp; rfl) | rfl) ?_
    (try simp only [Act.put]); (try simp only [List.setIfInBounds_toArray, List.set_cons_zero, List.set_cons_succ])
    refine heldStep 12 rfl (by kernel_rfl) (fun K hK => ?_)
    refine step_storeRow rfl rfl w.heap.size zv (vcs (.mk 3 false true h.n 0 ⟨#[]⟩ [] ⟨0, 0, 0, []⟩ [] []) (.slice none 0 0) (.slice none 0 0) (.slice none 0 0)) 62 rfl rfl HR0.out HI3.out HZ3.out HA3.out ?_
    have hrk := row_kp w0.drew w.heap.size (vcs (.mk 3 false true h.n 0 ⟨#[]⟩ [] ⟨0, 0, 0, []⟩ [] []) (.slice none 0 0) (.slice none 0 0) (.slice none 0 0))
    refine (Hid.out hK) _ _ ((hrk.block _ (blk_lt hS) (by have := HGL.out; omega)).trans hS) (fun hS4 => ?_)
    clear hK K hS
    (try simp only [Act.put]); (try simp only [List.setIfInBounds_toArray, List.set_cons_zero, List.set_cons_succ])
    refine heldDone (by kernel_rfl) ?_
    clear hS4
    go_wp2_with fail
    exact bodyPost_ret (end_leaf rfl (row_same (w := w0.drew) HR0.out) rfl) rfl (LeafP.mk HRL.out (HTT.out _) (HB0.out.drew.trans (hrk.below HB0.out.size (fun q e => by omega))))
  have g1 : ((h.m : Int) == 1) = false := beq_eq_false_iff_ne.2 (by omega)
  by_cases hm2 : h.m = 2
  · as_aux_lemma =>
    have g2 : ((h.m : Int) == 2) = true := beq_iff_eq.2 (by omega)
    have HRL : Hid (rleaf h y = .mk 6 false false 0 0 ⟨#[]⟩ y ⟨0, 0, 0, []⟩ [] []) := by show _ = _; unfold rleaf; rw [if_neg (by omega), if_pos hm2]
    clear hm hm1 hm2
    go_wp2_with fail
    refine (clone_any w0 _ y (HBB.out.move (keep_below HB0.out)) hyl).mono ?_
    rintro e w1 ⟨v1, rfl, ho1, hb1⟩
    obtain ⟨a1, k1, hv1⟩ := own_slice8 ho1
    subst hv1
    have HR1 : Hid (w1.heap[w.heap.size]? = some (.cells zv 62 (0, 0))) := (hb1.block _ (blk_lt HR0.out)).trans HR0.out
    have HB1 : Hid (Below w.heap.size w w1) := HB0.out.trans (hb1.mono HB0.out.size)
    have hrk := row_kp w1 w.heap.size (vcs (.mk 6 false false 0 0 ⟨#[]⟩ y ⟨0, 0, 0, []⟩ [] []) (.slice a1 y.length k1) (.slice none 0 0) (.slice none 0 0))
    have hws := blk_lt HR0.out
    have HTT : Hid (Tis (w1.setRow w.heap.size (vcs (.mk 6 false false 0 0 ⟨#[]⟩ y ⟨0, 0, 0, []⟩ [] []) (.slice a1 y.length k1) (.slice none 0 0) (.slice none 0 0))) (fun q => q < w.heap.size) (.mk 6 false false 0 0 ⟨#[]⟩ y ⟨0, 0, 0, []⟩ [] []) (vcs (.mk 6 false false 0 0 ⟨#[]⟩ y ⟨0, 0, 0, []⟩ [] []) (.slice a1 y.length k1) (.slice none 0 0) (.slice none 0 0))) :=
      Tis.mk _ _ _ _ (leaf_tbd (by show (0 : Nat) < _; decide) (by show (0 : Nat) < _; decide) (by show (ByteArray.mk #[]).size ≤ _; decide) hyl rfl) (BSl.own (hrk.owns ho1 (fun q hq e => by have := ho1.lt q hq; omega)) HBY.out) (fun _ q hq e => by have := ho1.lt q hq; omega) ⟨⟨none, 0, rfl, ⟨Nat.le_refl _, fun _ => rfl⟩, .inl rfl⟩, by show (0 : Nat) ≤ _; decide, fun x hx => (by cases hx)⟩ (fun h => absurd rfl h) (fun _ => #[]) none 0 rfl ⟨Nat.le_refl _, fun _ => rfl⟩ (by show (0 : Nat) ≤ _; decide) (fun i u hu => (by cases hu)) (.inl rfl)
    have HA3 := hide HTT.out.tin.all1
    have HI3 : Hid ((Tryz.prog.info? 62).map (·.size) = some (vcs (.mk 6 false false 0 0 ⟨#[]⟩ y ⟨0, 0, 0, []⟩ [] []) (.slice a1 y.length k1) (.slice none 0 0) (.slice none 0 0)).size) := infoV
    have HZ3 : Hid (zv.size = (vcs (.mk 6 false false 0 0 ⟨#[]⟩ y ⟨0, 0, 0, []⟩ [] []) (.slice a1 y.length k1) (.slice none 0 0) (.slice none 0 0)).size) := rfl
    clear ho1 hb1 hws
    go_wp2_with (refine wpList_storeRow rfl rfl w.heap.size zv (vcs (.mk 6 false false 0 0 ⟨#[]⟩ y ⟨0, 0, 0, []⟩ [] []) (.slice a1 y.length k1) (.slice none 0 0) (.slice none 0 0)) 62 rfl rfl HR1.out HI3.out HZ3.out HA3.out ?_)
    exact bodyPost_ret (end_leaf rfl (row_same HR1.out) rfl) rfl (LeafP.mk HRL.out HTT.out (HB1.out.trans (hrk.below HB1.out.size (fun q e => by omega))))
  have g2 : ((h.m : Int) == 2) = false := beq_eq_false_iff_ne.2 (by omega)
  by_cases hm3 : h.m = 3
  · as_aux_lemma =>
    have g3 : ((h.m : Int) == 3) = true := beq_iff_eq.2 (by omega)
    have hs3 := hs hm3
    subst hs3
    have HRL : Hid (rleaf h y = .mk 5 false false 0 0 (nstr y) [] ⟨0, 0, 0, []⟩ [] []) := by show _ = _; unfold rleaf; rw [if_neg (by omega), if_neg hm2, if_pos hm3]
    have HI3 : Hid ((Tryz.prog.info? 62).map (·.size) = some (vcs (.mk 5 false false 0 0 (nstr y) [] ⟨0, 0, 0, []⟩ [] []) (.slice none 0 0) (.slice none 0 0) (.slice none 0 0)).size) := infoV
    have HZ3 : Hid (zv.size = (vcs (.mk 5 false false 0 0 (nstr y) [] ⟨0, 0, 0, []⟩ [] []) (.slice none 0 0) (.slice none 0 0) (.slice none 0 0)).size) := rfl
    have HTT : Hid (∀ wz, Tis wz (fun q => q < w.heap.size) (.mk 5 false false 0 0 (nstr y) [] ⟨0, 0, 0, []⟩ [] []) (vcs (.mk 5 false false 0 0 (nstr y) [] ⟨0, 0, 0, []⟩ [] []) (.slice none 0 0) (.slice none 0 0) (.slice none 0 0))) := fun wz => plain_tis wz _ (leaf_tbd (by show (0 : Nat) < _; decide) (by show (0 : Nat) < _; decide) (by show (nstr y).size ≤ _; rw [nstr_size HBY.out]; exact hyl) (by show (0 : Nat) ≤ _; decide) rfl) rfl rfl rfl
    have HA3 := hide (HTT.out w0).tin.all1
    clear hm hm1 hm2 hm3
    go_wp2_with (refine wpList_storeRow rfl rfl w.heap.size zv (vcs (.mk 5 false false 0 0 (nstr y) [] ⟨0, 0, 0, []⟩ [] []) (.slice none 0 0) (.slice none 0 0) (.slice none 0 0)) 62 rfl rfl HR0.out HI3.out HZ3.out HA3.out ?_)
    exact bodyPost_ret (end_leaf rfl (row_same HR0.out) rfl) rfl (LeafP.mk HRL.out (HTT.out _) (HB0.out.trans ((row_kp _ _ _).below HB0.out.size (fun q e => by omega))))
  have g3 : ((h.m : Int) == 3) = false := beq_eq_false_iff_ne.2 (by omega)
  by_cases hi27 : h.i = 27
  · as_aux_lemma =>
    have g4 : ((h.i : Int) == 27) = true := beq_iff_eq.2 (by omega)
    have HRL : Hid (rleaf h y = .mk 4 false false 0 h.n ⟨#[]⟩ [] ⟨0, 0, 0, []⟩ [] []) := by show _ = _; unfold rleaf; rw [if_neg (by omega), if_neg hm2, if_neg hm3, if_pos hi27]
    have HI3 : Hid ((Tryz.prog.info? 62).map (·.size) = some (vcs (.mk 4 false false 0 h.n ⟨#[]⟩ [] ⟨0, 0, 0, []⟩ [] []) (.slice none 0 0) (.slice none 0 0) (.slice none 0 0)).size) := infoV
    have HZ3 : Hid (zv.size = (vcs (.mk 4 false false 0 h.n ⟨#[]⟩ [] ⟨0, 0, 0, []⟩ [] []) (.slice none 0 0) (.slice none 0 0) (.slice none 0 0)).size) := rfl
    have HTT : Hid (∀ wz, Tis wz (fun q => q < w.heap.size) (.mk 4 false false 0 h.n ⟨#[]⟩ [] ⟨0, 0, 0, []⟩ [] []) (vcs (.mk 4 false false 0 h.n ⟨#[]⟩ [] ⟨0, 0, 0, []⟩ [] []) (.slice none 0 0) (.slice none 0 0) (.slice none 0 0))) := fun wz => plain_tis wz _ (leaf_tbd (by show (0 : Nat) < _; decide) hn (by show (ByteArray.mk #[]).size ≤ _; decide) (by show (0 : Nat) ≤ _; decide) rfl) rfl rfl rfl
    have HA3 := hide (HTT.out w0).tin.all1
    clear hm hm1 hm2 hm3 hi27
    go_wp2_with (refine wpList_storeRow rfl rfl w.heap.size zv (vcs (.mk 4 false false 0 h.n ⟨#[]⟩ [] ⟨0, 0, 0, []⟩ [] []) (.slice none 0 0) (.slice none 0 0) (.slice none 0 0)) 62 rfl rfl HR0.out HI3.out HZ3.out HA3.out ?_)
    exact bodyPost_ret (end_leaf rfl (row_same HR0.out) rfl) rfl (LeafP.mk HRL.out (HTT.out _) (HB0.out.trans ((row_kp _ _ _).below HB0.out.size (fun q e => by omega))))
  have g4 : ((h.i : Int) == 27) = false := beq_eq_false_iff_ne.2 (by omega)
  by_cases hi22 : h.i = 22
  · as_aux_lemma =>
    have g5 : ((h.i : Int) == 22) = true := beq_iff_eq.2 (by omega)
    have HRL : Hid (rleaf h y = .mk 1 false false 0 0 ⟨#[]⟩ [] ⟨0, 0, 0, []⟩ [] []) := by show _ = _; unfold rleaf; rw [if_neg (by omega), if_neg hm2, if_neg hm3, if_neg hi27, if_pos hi22]; rfl
    have HI3 : Hid ((Tryz.prog.info? 62).map (·.size) = some (vcs (.mk 1 false false 0 0 ⟨#[]⟩ [] ⟨0, 0, 0, []⟩ [] []) (.slice none 0 0) (.slice none 0 0) (.slice none 0 0)).size) := infoV
    have HZ3 : Hid (zv.size = (vcs (.mk 1 false false 0 0 ⟨#[]⟩ [] ⟨0, 0, 0, []⟩ [] []) (.slice none 0 0) (.slice none 0 0) (.slice none 0 0)).size) := rfl
    have HTT : Hid (∀ wz, Tis wz (fun q => q < w.heap.size) (.mk 1 false false 0 0 ⟨#[]⟩ [] ⟨0, 0, 0, []⟩ [] []) (vcs (.mk 1 false false 0 0 ⟨#[]⟩ [] ⟨0, 0, 0, []⟩ [] []) (.slice none 0 0) (.slice none 0 0) (.slice none 0 0))) := fun wz => plain_tis wz _ (leaf_tbd (by show (0 : Nat) < _; decide) (by show (0 : Nat) < _; decide) (by show (ByteArray.mk #[]).size ≤ _; decide) (by show (0 : Nat) ≤ _; decide) rfl) rfl rfl rfl
    have HA3 := hide (HTT.out w0).tin.all1
    clear hm hm1 hm2 hm3 hi27 hi22
    go_wp2_with (refine wpList_storeRow rfl rfl w.heap.size zv (vcs (.mk 1 false false 0 0 ⟨#[]⟩ [] ⟨0, 0, 0, []⟩ [] []) (.slice none 0 0) (.slice none 0 0) (.slice none 0 0)) 62 rfl rfl HR0.out HI3.out HZ3.out HA3.out ?_)
    exact bodyPost_ret (end_leaf rfl (row_same HR0.out) rfl) rfl (LeafP.mk HRL.out (HTT.out _) (HB0.out.trans ((row_kp _ _ _).below HB0.out.size (fun q e => by omega))))
  · as_aux_lemma =>
    have g5 : ((h.i : Int) == 22) = false := beq_eq_false_iff_ne.2 (by omega)
    have HD1 : Hid (decide (h.i = 21) = ((h.i : Int) == 21)) := by
      show _ = _
      rw [Bool.eq_iff_iff]
      simp
      omega
    have HRL : Hid (rleaf h y = .mk 2 ((h.i : Int) == 21) false 0 0 ⟨#[]⟩ [] ⟨0, 0, 0, []⟩ [] []) := by show _ = _; unfold rleaf; rw [if_neg (by omega), if_neg hm2, if_neg hm3, if_neg hi27, if_neg hi22, HD1.out]
    have HI3 : Hid ((Tryz.prog.info? 62).map (·.size) = some (vcs (.mk 2 ((h.i : Int) == 21) false 0 0 ⟨#[]⟩ [] ⟨0, 0, 0, []⟩ [] []) (.slice none 0 0) (.slice none 0 0) (.slice none 0 0)).size) := infoV
    have HZ3 : Hid (zv.size = (vcs (.mk 2 ((h.i : Int) == 21) false 0 0 ⟨#[]⟩ [] ⟨0, 0, 0, []⟩ [] []) (.slice none 0 0) (.slice none 0 0) (.slice none 0 0)).size) := rfl
    have HTT : Hid (∀ wz, Tis wz (fun q => q < w.heap.size) (.mk 2 ((h.i : Int) == 21) false 0 0 ⟨#[]⟩ [] ⟨0, 0, 0, []⟩ [] []) (vcs (.mk 2 ((h.i : Int) == 21) false 0 0 ⟨#[]⟩ [] ⟨0, 0, 0, []⟩ [] []) (.slice none 0 0) (.slice none 0 0) (.slice none 0 0))) := fun wz => plain_tis wz _ (leaf_tbd (by show (0 : Nat) < _; decide) (by show (0 : Nat) < _; decide) (by show (ByteArray.mk #[]).size ≤ _; decide) (by show (0 : Nat) ≤ _; decide) rfl) rfl rfl rfl
    have HA3 := hide (HTT.out w0).tin.all1
    clear hm hm1 hm2 hm3 hi27 hi22 HD1
    go_wp2_with (refine wpList_storeRow rfl rfl w.heap.size zv (vcs (.mk 2 ((h.i : Int) == 21) false 0 0 ⟨#[]⟩ [] ⟨0, 0, 0, []⟩ [] []) (.slice none 0 0) (.slice none 0 0) (.slice none 0 0)) 62 rfl rfl HR0.out HI3.out HZ3.out HA3.out ?_)
    exact bodyPost_ret (end_leaf rfl (row_same HR0.out) rfl) rfl (LeafP.mk HRL.out (HTT.out _) (HB0.out.trans ((row_kp _ _ _).below HB0.out.size (fun q e => by omega))))
end
section
open Go.RowKit Go
/-! ### The machine in memory -/
structure Mac (w : World) (lo M : Nat) (vB : Value) (b : List Nat) (d p : Nat) (vo : Value) (st : List Nst) (C : List (Array Value)) (K I : Nat → Value) (L : Nat → List (Array Value)) : Prop where
  m : w.heap[M]? = some (.cells #[vB, .int .i64 (p : Nat), .int .i64 (d : Nat), vo] 94 (0, 0))
  b : BSl w vB b
  q : ∀ q, vB.ownBlock = some q → q < lo ∧ q ≠ M
  o : Opn w lo (fun q => q < lo) vo st C K I L
  lm : M < lo
  l : lo ≤ w.heap.size
theorem infoN_ex : ∃ i, Tryz.prog.info? 121 = some i ∧ i.zero = some (.agg (ncs ⟨0, [], [], 0⟩ (.slice none 0 0) (.slice none 0 0))) ∧ i.size = 14 ∧ i.bytes = 168 := by
  have h : (Tryz.prog.info? 121).map (fun i => (i.size, i.bytes)) = some (14, 168) := by kernel_rfl
  have h2 : (Tryz.prog.info? 121).bind (fun i => i.zero) = some (.agg (ncs ⟨0, [], [], 0⟩ (.slice none 0 0) (.slice none 0 0))) := by kernel_rfl
  cases hi : Tryz.prog.info? 121 with
  | none => rw [hi] at h; cases h
  | some i =>
    rw [hi] at h h2
    simp at h h2
    exact ⟨i, rfl, h2, h.1, h.2⟩
set_option maxRecDepth 1000000 in
theorem top_any (w : World) (M g n cap : Nat) (vB vp vd : Value) (hm : w.heap[M]? = some (.cells #[vB, vp, vd, .slice (some ⟨g, 0, none⟩) n cap] 94 (0, 0))) (hn : 0 < n) (hn2 : n ≤ 100000000) :
    Calls Tryz.prog 82 #[.pointer (some ⟨M, 0, none⟩)] w fun e w' => e = .returned (.pointer (some ⟨g, (n - 1) * 14, none⟩)) ∧ Below w.heap.size w w' ∧ w'.heap = w.heap := by
  have HMM := hide hm
  have HW1 : Hid (IntKind.i64.wrap ((n : Int) - 1) = ((n - 1 : Nat) : Int)) := by show _ = _; rw [IntKind.wrap_i64]; omega
  have HL1 : Hid ((((n - 1 : Nat) : Int) < (n : Int)) ∧ (0 : Int) ≤ ((n - 1 : Nat) : Int)) := ⟨by omega, by omega⟩
  clear hm
  go_enter Tryz.func82, Tryz.ntmps82
  go_upto_region 1 with fail
  refine heldStart (S := fun wy => wy.heap[M]? = some (.cells #[vB, vp, vd, .slice (some ⟨g, 0, none⟩) n cap] 94 (0, 0))) (by kernel_rfl) ?_
  have hS : w.drew.heap[M]? = some (.cells #[vB, vp, vd, .slice (some ⟨g, 0, none⟩) n cap] 94 (0, 0)) := HMM.out
  refine heldTake 0 _ rfl (by kernel_rfl) (by kernel_rfl) (by kernel_rfl) (fun _ _ _ h => h) rfl hS (fun wy hy => by first | (go_simp; done) | (go_simp; rfl) | rfl) ?_
  (try simp only [Act.put]); (try simp only [List.setIfInBounds_toArray, List.set_cons_zero, List.set_cons_succ])
  refine heldTake 1 _ rfl (by kernel_rfl) (by kernel_rfl) (by kernel_rfl) (fun _ _ _ h => h) rfl hS (fun wy hy => by first | (go_simp; done) | (go_simp; rfl) | rfl) ?_
  (try simp only [Act.put]); (try simp only [List.setIfInBounds_toArray, List.set_cons_zero, List.set_cons_succ])
  refine heldTake 2 _ rfl (by kernel_rfl) (by kernel_rfl) (by kernel_rfl) (fun _ _ _ h => h) rfl hS (fun wy hy => by first | (go_simp; done) | (go_simp; rfl) | rfl) ?_
  (try simp only [Act.put]); (try simp only [List.setIfInBounds_toArray, List.set_cons_zero, List.set_cons_succ])
  refine heldTake 3 _ rfl (by kernel_rfl) (by kernel_rfl) (by kernel_rfl) (fun _ _ _ h => h) rfl hS (fun wy hy => by have h0 := blk_cell (j := 3) (v := .slice (some ⟨g, 0, none⟩) n cap) hy rfl; first | (go_simp; done) | (go_simp; rfl) | rfl) ?_
  (try simp only [Act.put]); (try simp only [List.setIfInBounds_toArray, List.set_cons_zero, List.set_cons_succ])
  refine heldTake 4 _ rfl (by kernel_rfl) (by kernel_rfl) (by kernel_rfl) (fun _ _ _ h => h) rfl hS (fun wy hy => by first | (go_simp; done) | (go_simp; rfl) | rfl) ?_
  (try simp only [Act.put]); (try simp only [List.setIfInBounds_toArray, List.set_cons_zero, List.set_cons_succ])
  refine heldTake 5 _ rfl (by kernel_rfl) (by kernel_rfl) (by kernel_rfl) (fun _ _ _ h => h) rfl hS (fun wy hy => by first | (go_simp; done) | (go_simp; rfl) | rfl) ?_
  (try simp only [Act.put]); (try simp only [List.setIfInBounds_toArray, List.set_cons_zero, List.set_cons_succ])
  refine heldTake 6 _ rfl (by kernel_rfl) (by kernel_rfl) (by kernel_rfl) (fun _ _ _ h => h) rfl hS (fun wy hy => by first | (go_simp; done) | (go_simp; rfl) | rfl) ?_
  (try simp only [Act.put]); (try simp only [List.setIfInBounds_toArray, List.set_cons_zero, List.set_cons_succ])
  refine heldTake 7 _ rfl (by kernel_rfl) (by kernel_rfl) (by kernel_rfl) (fun _ _ _ h => h) rfl hS (fun wy hy => by have h0 := blk_cell (j := 3) (v := .slice (some ⟨g, 0, none⟩) n cap) hy rfl; first | (go_simp; done) | (go_simp; rfl) | rfl) ?_
  (try simp only [Act.put]); (try simp only [List.setIfInBounds_toArray, List.set_cons_zero, List.set_cons_succ])
  refine heldTake 8 _ rfl (by kernel_rfl) (by kernel_rfl) (by kernel_rfl) (fun _ _ _ h => h) rfl hS (fun wy hy => by first | (go_simp; done) | (go_simp; rfl) | rfl) ?_
  (try simp only [Act.put]); (try simp only [List.setIfInBounds_toArray, List.set_cons_zero, List.set_cons_succ])
  refine heldTake 9 (.int .i64 ((n - 1 : Nat) : Int)) rfl (by kernel_rfl) (by kernel_rfl) (by kernel_rfl) (fun _ _ _ h => h) rfl hS (fun wy hy => by have h0 := HW1.out; first | (go_simp; done) | (go_simp; rw [h0])) ?_
  refine heldTake 10 (.pointer (some ⟨g, (n - 1) * 14, none⟩)) rfl (by kernel_rfl) (by kernel_rfl) (by kernel_rfl) (fun _ _ _ h => h) rfl hS (fun wy hy => by have h0 := HL1.out.1; have h1 := HL1.out.2; first | (go_simp; done) | (go_simp; rfl) | (go_simp; omega)) ?_
  refine heldTake 11 _ rfl (by kernel_rfl) (by kernel_rfl) (by kernel_rfl) (fun _ _ _ h => h) rfl hS (fun wy hy => by first | (go_simp; done) | (go_simp; rfl) | rfl) ?_
  (try simp only [Act.put]); (try simp only [List.setIfInBounds_toArray, List.set_cons_zero, List.set_cons_succ])
  refine heldDone (by kernel_rfl) ?_
  clear hS
  go_wp2_with fail
  go_ret
  exact ⟨rfl, by refine Below.drew ?_; exact Below.refl _ _, rfl⟩
end
section
open Go.RowKit Go
def one14 (c : Array Value) : Prop := c.size = 14 ∧ ∀ u ∈ c.toList, u.oneCell' = true
theorem fill_one14 (c cells : Array Value) (h : c.size = 14) (hc : cells.size = 14) : Instr.fill (fun i => some (i * 14, 14)) cells [(0, .agg c)] = some c := by
  obtain ⟨r, hr, hsz, hk⟩ := Great.fill_dense (s := 14) (by decide) [.agg c] 0 cells (by
    intro v hv
    simp only [List.mem_singleton] at hv
    subst hv
    simpa [Value.cells] using h) (by simp; omega)
  have e : r = c := by
    apply Array.ext_getElem?
    intro k
    rw [hk k]
    by_cases h1 : k < 14
    · rw [if_pos ⟨by omega, by simp; omega⟩]
      simp [Value.cells, Nat.div_eq_of_lt h1, Nat.mod_eq_of_lt h1]
    · rw [if_neg (by simp; omega), Array.getElem?_eq_none (by omega), Array.getElem?_eq_none (by omega)]
  rw [e] at hr
  exact hr
theorem wpList_nest1 {ops : Array Oper} {rest : List Oper} {o : Oper} {a : Act} {w : World} {Q : Exit → Act → World → Prop} {x0 : Operand} (hg : o.guard = none) (ho : o.op = .buildSlice 92 1 #[(0, x0)]) (c : Array Value) (hc : c.size = 14)
    (h0 : a.eval x0 = .agg c)
    (h : wpList Tryz.prog ops Q rest (a.put o.dst (.slice (some ⟨w.heap.size, 0, none⟩) 1 1)) (w.alloc (.cells c 121))) : wpList Tryz.prog ops Q (o :: rest) a w := by
  obtain ⟨i, hi, hz, hs, _⟩ := infoN_ex
  refine wpList_buildSlice hg 92 121 1 _ ho c i _ Tryz.underlying92 hi hz (by rw [hs]; decide) (by rw [hs]; decide) ?_ h
  rw [hs]
  have e : ((#[(0, x0)] : Array (Nat × Operand)).map fun (i, x) => (i, a.eval x)).toList = [(0, .agg c)] := by simp [h0]
  rw [e]
  exact fill_one14 c _ hc (by simp)
/-- append of one value. -/
theorem append_nest {ops : Array Oper} {rest : List Oper} {o : Oper} {a : Act} {Q : Exit → Act → World → Prop} {w : World} (hgd : o.guard = none) (s x : Operand)
    (ho : o.op = .call { callee := .builtin .append, args := #[s, x], argTypes := #[92, 92] }) (B : Nat) (v : Value) (n : Nat) (ds : List Value) (hs : a.eval s = v) (hown : w.ownsRow B 121 14 v n ds)
    (g : Nat) (c : Array Value) (h14 : one14 c) (hx : a.eval x = .slice (some ⟨g, 0, none⟩) 1 1) (hg : w.heap[g]? = some (.cells c 121 (0, 0))) (hlen : n < 109951162) (hbase : B ≤ w.heap.size)
    (h : ∀ v' w', w'.ownsRow B 121 14 v' (n + 1) (ds ++ c.toList) → w.grownBy w' v.ownBlock → (v'.ownBlock = v.ownBlock ∨ v'.ownBlock = some w.heap.size) → wpList Tryz.prog ops Q rest (a.put o.dst v') w') : wpList Tryz.prog ops Q (o :: rest) a w := by
  obtain ⟨i, hi, hz0, hz1, hz2⟩ := infoN_ex
  refine wpList_append_own_at w hgd s x 92 ho B 121 i _ 14 168 Tryz.underlying92 hi hz0 hz1 hz2 rfl (by decide) v n ds hs hown ⟨g, 0, none⟩ 1 1 c.toList hx (by rw [Array.length_toList, h14.1]) (fun j u hu => ?_) h14.2 (by unfold maxLen; omega) (by omega) hbase fun v' w' h1 h2 _ h4 => h v' w' h1 h2 ?_
  · have hadd : (⟨g, 0, none⟩ : Addr).add j = ⟨g, j, none⟩ := by unfold Addr.add; split <;> simp_all
    rw [hadd]
    exact blk_cell hg (by simpa using hu)
  · exact h4
theorem ncs_one (x : Nst) {vk vi : Value} (h1 : vk.oneCell' = true) (h2 : vi.oneCell' = true) : one14 (ncs x vk vi) := by
  refine ⟨rfl, fun u hu => ?_⟩
  simp only [ncs, vcs, Array.push] at hu
  simp at hu
  rcases hu with rfl | rfl | rfl | rfl | rfl | rfl | rfl | rfl | rfl | rfl | rfl | rfl | rfl | rfl <;> first | rfl | exact h1 | exact h2
/-- A cell of the machine is written. -/
theorem Mac.set {w : World} {lo M : Nat} {vB : Value} {b : List Nat} {d p : Nat} {vo : Value} {st : List Nst} {C : List (Array Value)} {K I : Nat → Value} {L : Nat → List (Array Value)} (h : Mac w lo M vB b d p vo st C K I L) (p' : Nat) : Mac (w.setCell ⟨M, 1, none⟩ (.int .i64 (p' : Nat))) lo M vB b d p' vo st C K I L := by
  have hk : Kp (fun q => q = M) w (w.setCell ⟨M, 1, none⟩ (.int .i64 (p' : Nat))) := (Kp.refl _ w).setCell _ _ (fun _ => rfl)
  exact ⟨blk_set 1 _ h.m, hk.bsl h.b (fun q hq e => (h.q q hq).2 e), h.q, h.o.kp (hk.mono (fun q _ e => by have := h.lm; show q < lo; omega)), h.lm, Nat.le_trans h.l hk.size⟩
theorem Mac.next {w w' : World} {lo M : Nat} {vB : Value} {b : List Nat} {d p : Nat} {vo : Value} {st : List Nst} {C : List (Array Value)} {K I : Nat → Value} {L : Nat → List (Array Value)} (h : Mac w lo M vB b d p vo st C K I L) (hb : Below w.heap.size w w') : Mac w' lo M vB b d p vo st C K I L :=
  ⟨(hb.block _ (blk_lt h.m)).trans h.m, h.b.move (keep_below hb), h.q, h.o.next hb, h.lm, Nat.le_trans h.l hb.size⟩
set_option maxRecDepth 1000000 in
set_option maxHeartbeats 1000000 in
theorem begin8_any (w : World) (lo M : Nat) (vB : Value) (b : List Nat) (d p : Nat) (vo : Value) (st : List Nst) (C : List (Array Value)) (K I : Nat → Value) (L : Nat → List (Array Value)) (h : Mac w lo M vB b d p vo st C K I L) (hst : st.length ≤ 100000) (k : Int) (n : Nat) (hn : n < 18446744073709551616) :
    Calls Tryz.prog 79 #[.pointer (some ⟨M, 0, none⟩), .int .i64 k, .int .u64 (n : Nat)] w fun e w' => e = .returned (.tuple #[]) ∧ Kp (fun q => q = M ∨ lo ≤ q) w w' ∧ ∃ vo' C' K' I' L', Mac w' lo M vB b d p vo' (st ++ [⟨k, [], [], n⟩]) C' K' I' L' := by
  have HMC := hide h
  obtain ⟨ao, co, hvo⟩ := own_slice8 h.o.o
  subst hvo
  have c3 : w.cell? ⟨M, 3, none⟩ = some (.slice ao st.length co) := blk_cell (j := 3) h.m rfl
  have HOW := hide (h.o.o.alloc (.cells (ncs ⟨k, [], [], n⟩ (.slice none 0 0) (.slice none 0 0)) 121))
  have HGA := hide (heap_alloc_new w (.cells (ncs ⟨k, [], [], n⟩ (.slice none 0 0) (.slice none 0 0)) 121))
  have HO1 := hide (ncs_one ⟨k, [], [], n⟩ (vk := .slice none 0 0) (vi := .slice none 0 0) rfl rfl)
  have HLB : Hid (lo ≤ (w.alloc (.cells (ncs ⟨k, [], [], n⟩ (.slice none 0 0) (.slice none 0 0)) 121)).heap.size) := by
    have h1 := h.l
    have h2 := h.o.mz M h.lm
    show _ ≤ _
    simp
    omega
  clear h
  go_enter Tryz.func79, Tryz.ntmps79
  go_wp2_with (first
    | (refine wpList_nest1 rfl rfl (ncs ⟨k, [], [], n⟩ (.slice none 0 0) (.slice none 0 0)) rfl rfl ?_)
    | (at_builtin; refine append_nest rfl _ _ rfl lo _ st.length (vfl C) rfl HOW.out w.heap.size (ncs ⟨k, [], [], n⟩ (.slice none 0 0) (.slice none 0 0)) HO1.out rfl HGA.out (by omega) HLB.out ?_))
  intro v7 w7 ho7 hg7 hv7
  obtain ⟨a7, c7, hs7⟩ := own_slice8 ho7
  subst hs7
  have hbA := below_alloc4 w (.cells (ncs ⟨k, [], [], n⟩ (.slice none 0 0) (.slice none 0 0)) 121)
  have hMA := HMC.out.next hbA
  have hk7 : Kp (fun q => (Value.slice ao st.length co).ownBlock = some q) (w.alloc (.cells (ncs ⟨k, [], [], n⟩ (.slice none 0 0) (.slice none 0 0)) 121)) w7 := (Kp.refl _ _).grown hg7 (fun _ _ h => h)
  have hO7 := hMA.o.push hn rfl ho7 hg7 (by simpa using hv7)
  have hm7 : w7.heap[M]? = some (.cells #[vB, .int .i64 (p : Nat), .int .i64 (d : Nat), .slice ao st.length co] 94 (0, 0)) := (hk7.block _ (blk_lt hMA.m) (hMA.o.m M hMA.lm)).trans hMA.m
  have c7' : w7.cell? ⟨M, 3, none⟩ = some (.slice ao st.length co) := blk_cell (j := 3) hm7 rfl
  have f7 := blk_frozen 3 hm7
  have hkS : Kp (fun q => q = M) w7 (w7.setCell ⟨M, 3, none⟩ (.slice a7 (st.length + 1) c7)) := (Kp.refl _ w7).setCell _ _ (fun _ => rfl)
  have HM8 : Hid (Mac (w7.setCell ⟨M, 3, none⟩ (.slice a7 (st.length + 1) c7)) lo M vB b d p (.slice a7 (st.length + 1) c7) (st ++ [⟨k, [], [], n⟩]) _ _ _ _) := ⟨blk_set 3 _ hm7, hkS.bsl (hk7.bsl hMA.b (fun q hq e => by have := hMA.q q hq; have := (HOW.out.lt q e).1; omega)) (fun q hq e => (hMA.q q hq).2 e), hMA.q, hO7.kp (hkS.mono (fun q _ e => by have := hMA.lm; show q < lo; omega)), hMA.lm, Nat.le_trans (Nat.le_trans hMA.l hk7.size) hkS.size⟩
  have HK8 : Hid (Kp (fun q => q = M ∨ lo ≤ q) w (w7.setCell ⟨M, 3, none⟩ (.slice a7 (st.length + 1) c7))) := ((Kp.of_below hbA).trans hk7 (fun q _ e => .inr (HOW.out.lt q e).1)).trans hkS (fun q _ e => .inl e)
  clear ho7 hg7 hv7 hk7 hO7 hm7 hMA hbA hkS c3
  go_wp2_with fail
  go_end0
  exact ⟨rfl, HK8.out, _, _, _, _, _, HM8.out⟩
end
end Go.Proofs.YtadilnmkjcmnnaaGreatDoor

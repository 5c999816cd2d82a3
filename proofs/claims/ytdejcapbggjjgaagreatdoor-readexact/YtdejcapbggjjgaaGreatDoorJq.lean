import Derived.Test.YtdejcapbggjjgaaGreatDoorJp
import Derived.Test.YtdejcapbggjjgaaGreatDoorJo
import Derived.Test.YtdejcapbggjjgaaGreatDoorJi
import Derived.Test.YtdejcapbggjjgaaGreatDoorJn
import Derived.ScopeJumps
import Derived.Test.YtdejcapbggjjgaaGreatDoorJc
namespace Go.Proofs.YtdejcapbggjjgaaGreatDoor
section
open Go.RowKit Go
theorem row_cell_comm (w : World) (g gi j : Nat) (v : Value) (r : Array Value) (h : gi ≠ g) : (w.setCell ⟨g, j, none⟩ v).setRow gi r = (w.setRow gi r).setCell ⟨g, j, none⟩ v := by
  unfold World.setRow World.setCell
  congr 1
  apply Array.ext_getElem?
  intro k
  simp only [Array.getElem?_modify]
  by_cases h1 : gi = k
  · subst h1
    simp [show ¬ g = gi from fun e => h e.symm]
  · simp [h1]
theorem zv_one8 : one13 zv := by
  refine ⟨rfl, fun u hu => ?_⟩
  simp only [zv, List.mem_cons, List.not_mem_nil, or_false] at hu
  rcases hu with rfl | rfl | rfl | rfl | rfl | rfl | rfl | rfl | rfl | rfl | rfl | rfl | rfl <;> rfl
set_option maxRecDepth 1000000 in
set_option maxHeartbeats 2000000 in
theorem add8_any (w : World) (lo M : Nat) (vB : Value) (b : List Nat) (d p : Nat) (vo : Value) (q : List Nst) (x : Nst) (C : List (Array Value)) (K I : Nat → Value) (L : Nat → List (Array Value)) (h : Mac w lo M vB b d p vo (q ++ [x]) C K I L) (hst : q.length ≤ 100000) (u : Tv) (c : Array Value) (hu0 : Tio w lo (fun r => r < lo) vo (q ++ [x]) K I L u c) (hil : x.is.length ≤ 10000000) (hn : 0 < x.n) :
    Calls Tryz.prog 56 #[.pointer (some ⟨M, 0, none⟩), .agg c] w fun e w' => e = .returned (.tuple #[]) ∧ Kp (fun q => lo ≤ q) w w' ∧ ∃ C' K' I' L', Mac w' lo M vB b d p vo (q ++ [⟨x.k, x.ks, x.is ++ [u], x.n - 1⟩]) C' K' I' L' := by
  have HMC := hide h
  have HU0 := hide hu0
  have hu := hu0.1
  clear hu0
  obtain ⟨-, -, -, g, cap, hvo, hcap, hlg⟩ := h.o.row
  subst hvo
  have hx := h.o.e q.length x (by simp)
  obtain ⟨ai, ci, hvi⟩ := own_slice8 hx.i
  have HVI := hide hvi
  have HUU := hide hu
  have HLL := hide hx.n
  have HL13 : Hid (∀ e ∈ L q.length ++ [zv], e.size = 13) := fun e he => by
    rcases List.mem_append.1 he with h1 | h1
    · exact hx.s e h1
    · simp only [List.mem_singleton] at h1
      rw [h1]; rfl
  have HXZ := hide hx.z
  have HIL : Hid (∀ r, (Value.slice ai x.is.length ci).ownBlock = some r → r < w.heap.size) := fun r hr => (hx.i.lt r (by rw [hvi]; exact hr)).2
  have HC13 := hide hu.tin.size13
  have HCO : Hid (∀ v ∈ c.toList, v.oneCell' = true) := fun v hv => by
    have h1 := hu.tin.all1
    rw [Array.all_eq_true'] at h1
    exact h1 v (by simpa using hv)
  have HZO := hide zv_one8
  have HP0 := hide (heap_alloc_new w (.cells c 61))
  have HM0 := hide (h.next (below_alloc4 w (.cells c 61)))
  have HB0 := hide (below_alloc4 w (.cells c 61))
  have HGS : Hid (g < w.heap.size) := (h.o.o.lt g rfl).2
  have HPG : Hid (w.heap.size ≠ g) := by have := HGS.out; show _ ≠ _; omega
  clear h hx hvi hu
  go_enter Tryz.func56, Tryz.ntmps56
  go_wp2_with fail
  generalize w.alloc (.cells c 61) = w0 at *
  refine (top_any w0 M g (q.length + 1) cap vB _ _ HM0.out.m (by omega) (by omega)).mono ?_
  rintro e w2 ⟨rfl, hb2, -⟩
  have HM2 := hide (HM0.out.next hb2)
  have HB2 : Hid (Below w.heap.size w w2) := HB0.out.trans (hb2.mono HB0.out.size)
  have HP2 : Hid (w2.heap[w.heap.size]? = some (.cells c 61 (0, 0))) := (hb2.block _ (blk_lt HP0.out)).trans HP0.out
  rw [Nat.add_sub_cancel]
  clear hb2 HM0 HB0 HP0
  go_wp2_with fail
  have HMD := hide (HM2.out.next (show Below w2.heap.size w2 w2.drew by refine Below.drew ?_; exact Below.refl _ _))
  have HBD : Hid (Below w.heap.size w w2.drew) := by refine Below.drew ?_; exact HB2.out
  have HPD : Hid (w2.drew.heap[w.heap.size]? = some (.cells c 61 (0, 0))) := HP2.out
  go_cut [] from 7 to 19 (fun wx => ∃ v5 w6, wx = w6.setCell ⟨g, q.length * 14 + 12, none⟩ v5 ∧ Hid (w6.ownsRow lo 61 13 v5 (x.is.length + 1) (vfl (L q.length ++ [c])) ∧ Kp (fun r => (Value.slice ai x.is.length ci).ownBlock = some r) w2.drew w6 ∧ (v5.ownBlock = (Value.slice ai x.is.length ci).ownBlock ∨ ∀ r, v5.ownBlock = some r → w2.drew.heap.size ≤ r)))
  case first => as_aux_lemma =>
    refine heldStart (S := fun wy => wy.heap[w.heap.size]? = some (.cells c 61 (0, 0))) (by kernel_rfl) ?_
    have hS : w2.drew.heap[w.heap.size]? = some (.cells c 61 (0, 0)) := HPD.out
    generalize w2.drew = w3 at *
    have HM3 := hide HMD.out
    have HP3 := hide HPD.out
    obtain ⟨curg, hcurg⟩ := HM3.out.o.cell.2
    have HCG := hide hcurg
    clear hcurg HMD HPD HM2 HP2 HB2
    refine heldTake 0 _ rfl (by kernel_rfl) (by kernel_rfl) (by kernel_rfl) (fun _ _ _ h => h) rfl hS (fun wy hy => by first | (go_simp; done) | (go_simp; rfl) | rfl) ?_
    (try simp only [Act.put]); (try simp only [List.setIfInBounds_toArray, List.set_cons_zero, List.set_cons_succ])
    refine heldTake 1 _ rfl (by kernel_rfl) (by kernel_rfl) (by kernel_rfl) (fun _ _ _ h => h) rfl hS (fun wy hy => by first | (go_simp; done) | (go_simp; rfl) | rfl) ?_
    (try simp only [Act.put]); (try simp only [List.setIfInBounds_toArray, List.set_cons_zero, List.set_cons_succ])
    refine heldTake 2 _ rfl (by kernel_rfl) (by kernel_rfl) (by kernel_rfl) (fun _ _ _ h => h) rfl hS (fun wy hy => by first | (go_simp; done) | (go_simp; rfl) | rfl) ?_
    (try simp only [Act.put]); (try simp only [List.setIfInBounds_toArray, List.set_cons_zero, List.set_cons_succ])
    refine heldTake 3 _ rfl (by kernel_rfl) (by kernel_rfl) (by kernel_rfl) (fun _ _ _ h => h) rfl hS (fun wy hy => by first | (go_simp; done) | (go_simp; rfl) | rfl) ?_
    (try simp only [Act.put]); (try simp only [List.setIfInBounds_toArray, List.set_cons_zero, List.set_cons_succ])
    refine heldTake 5 _ rfl (by kernel_rfl) (by kernel_rfl) (by kernel_rfl) (fun _ _ _ h => h) rfl hS (fun wy hy => exec_valAt (g := w.heap.size) (off := 0) (cs := c) rfl rfl HC13.out (fun k y hy2 => by rw [Nat.zero_add]; exact blk_cell hy hy2)) ?_
    (try simp only [Act.put]); (try simp only [List.setIfInBounds_toArray, List.set_cons_zero, List.set_cons_succ])
    refine wpAnyH_ready (rs := [4, 7]) (by kernel_rfl) (by simp) ?_
    refine AllReadyH.cons rfl (fun K hK => ?_) (AllReadyH.cons rfl (fun K hK => ?_) AllReadyH.nil)
    · as_aux_lemma =>
      have x12 : w3.cell? ⟨g, q.length * 14 + 12, none⟩ = some (.slice ai x.is.length ci) := HM3.out.o.cell.1 12 _ (by rw [HVI.out]; rfl)
      go_simp
      refine (Shut.out hK) _ _ hS (fun hS2 => ?_)
      clear hK K hS2 x12
      (try simp only [Act.put]); (try simp only [List.setIfInBounds_toArray, List.set_cons_zero, List.set_cons_succ])
      refine heldTake 6 _ rfl (by kernel_rfl) (by kernel_rfl) (by kernel_rfl) (fun _ _ _ h => h) rfl hS (fun wy hy => by first | (go_simp; done) | (go_simp; rfl) | rfl) ?_
      (try simp only [Act.put]); (try simp only [List.setIfInBounds_toArray, List.set_cons_zero, List.set_cons_succ])
      have HGA : Hid ((w3.alloc (.cells zv 61)).heap[w3.heap.size]? = some (.cells zv 61 (0, 0))) := heap_alloc_new w3 _
      have HBA : Hid (Below w3.heap.size w3 (w3.alloc (.cells zv 61))) := below_alloc4 w3 _
      have HMA := hide (HM3.out.next HBA.out)
      have HPA : Hid ((w3.alloc (.cells zv 61)).heap[w.heap.size]? = some (.cells c 61 (0, 0))) := blk_alloc _ HP3.out
      have HOA : Hid ((w3.alloc (.cells zv 61)).ownsRow lo 61 13 (.slice ai x.is.length ci) x.is.length (vfl (L q.length))) := by
        have h := (HMA.out.o.e q.length x (by simp)).i
        rw [HVI.out] at h
        exact h
      have HLB : Hid (lo ≤ (w3.alloc (.cells zv 61)).heap.size) := by have h1 := HMA.out.l; have h2 := HMA.out.o.mz M HMA.out.lm; show _ ≤ _; omega
      have HCU : Hid ((w3.alloc (.cells zv 61)).heap[g]? = some (.cells curg 95 (0, 0))) := blk_alloc _ HCG.out
      have HPI : Hid (¬ (Value.slice ai x.is.length ci).ownBlock = some w.heap.size) := fun e => by have := HIL.out _ e; omega
      have HGI : Hid (¬ (Value.slice ai x.is.length ci).ownBlock = some g) := fun e => own_not HOA.out HCU.out (by decide) e
      refine heldStep 7 rfl (by kernel_rfl) (fun K hK => ?_)
      refine step_val18 rfl rfl zv rfl rfl ?_
      refine (Hid.out hK) _ (w3.alloc (.cells zv 61)) HPA.out (fun hS2 => ?_)
      clear hK K hS
      (try simp only [Act.put]); (try simp only [List.setIfInBounds_toArray, List.set_cons_zero, List.set_cons_succ])
      generalize w3.alloc (.cells zv 61) = wA at *
      refine heldStep 8 rfl (by kernel_rfl) (fun K hK => ?_)
      refine step_append_val8 rfl _ _ rfl lo (.slice ai x.is.length ci) x.is.length (vfl (L q.length)) rfl HOA.out w3.heap.size zv HZO.out rfl HGA.out (by omega) HLB.out (fun v5 w5 ho5 hg5 hq5 => ?_)
      obtain ⟨gi, c5, hv5, cur5, hcur5, hcs5⟩ : ∃ gi c5, v5 = .slice (some ⟨gi, 0, none⟩) (x.is.length + 1) c5 ∧ ∃ cur5, w5.heap[gi]? = some (.cells cur5 61 (0, 0)) ∧ (x.is.length + 1) * 13 ≤ cur5.size := by
        rcases ho5.2 with ⟨_, h0⟩ | ⟨gi, c5, cur5, e, _, h1, h2, _, h3, _⟩
        · omega
        · exact ⟨gi, c5, e, cur5, h1, by rw [h3]; exact Nat.mul_le_mul_right 13 h2⟩
      subst hv5
      have hk5 : Kp (fun r => (Value.slice ai x.is.length ci).ownBlock = some r) wA w5 := (Kp.refl _ _).grown hg5 (fun _ _ h => h)
      have hP5 : w5.heap[w.heap.size]? = some (.cells c 61 (0, 0)) := (hk5.block _ (blk_lt HPA.out) HPI.out).trans HPA.out
      have hgi5 : (Value.slice ai x.is.length ci).ownBlock = some gi ∨ gi = wA.heap.size := by
        rcases hq5 with e | e
        · exact .inl e.symm
        · injection e with e
          exact .inr e
      have hgiP : gi ≠ w.heap.size := fun e => by
        rcases hgi5 with h | h
        · exact HPI.out (by rw [← e]; exact h)
        · have := blk_lt HPA.out
          omega
      have hgg : gi ≠ g := fun e => by
        rcases hgi5 with h | h
        · exact (HMA.out.o.d q.length (by simp) gi (.inr (by rw [HVI.out]; exact h))).2.1 (by rw [e]; rfl)
        · have := blk_lt HCU.out
          omega
      have hkS := row_kp w5 gi (splice cur5.toList (x.is.length * 13) c.toList).toArray
      have hrow6 : (w5.setRow gi (splice cur5.toList (x.is.length * 13) c.toList).toArray).ownsRow lo 61 13 (.slice (some ⟨gi, 0, none⟩) (x.is.length + 1) c5) (x.is.length + 1) (vfl (L q.length ++ [c])) := by
        have e1 : vfl (L q.length) ++ zv.toList = vfl (L q.length ++ [zv]) := by rw [vfl_app]; simp [vfl]
        have h0 := ho5
        rw [e1] at h0
        have h1 := own_part (c' := c) (j := x.is.length) h0 (by rw [List.length_append, HLL.out]; rfl) HL13.out hcur5 (by omega) HC13.out (row_same hcur5)
        have e2 : (L q.length ++ [zv]).set x.is.length c = L q.length ++ [c] := by
          rw [List.set_append_right _ _ (by rw [HLL.out]; exact Nat.le_refl _), HLL.out, Nat.sub_self]
          rfl
        rw [e2] at h1
        exact h1
      have HRW : Hid ((w5.setRow gi (splice cur5.toList (x.is.length * 13) c.toList).toArray).ownsRow lo 61 13 (.slice (some ⟨gi, 0, none⟩) (x.is.length + 1) c5) (x.is.length + 1) (vfl (L q.length ++ [c])) ∧ Kp (fun r => (Value.slice ai x.is.length ci).ownBlock = some r) w3 (w5.setRow gi (splice cur5.toList (x.is.length * 13) c.toList).toArray) ∧ ((Value.slice (some ⟨gi, 0, none⟩) (x.is.length + 1) c5).ownBlock = (Value.slice ai x.is.length ci).ownBlock ∨ ∀ r, (Value.slice (some ⟨gi, 0, none⟩) (x.is.length + 1) c5).ownBlock = some r → w3.heap.size ≤ r)) := by
        refine ⟨hrow6, ((Kp.of_below (S := fun r => (Value.slice ai x.is.length ci).ownBlock = some r) HBA.out).trans hk5 (fun _ _ h => h)).trans hkS (fun r hr e => ?_), ?_⟩
        · rcases hgi5 with h | h
          · rw [e]; exact h
          · have := HBA.out.size
            omega
        · rcases hgi5 with h | h
          · exact .inl h.symm
          · refine .inr (fun r hr => ?_)
            have e2 : gi = r := by simpa [Value.ownBlock] using hr
            have := HBA.out.size
            omega
      have hP6 : (w5.setRow gi (splice cur5.toList (x.is.length * 13) c.toList).toArray).heap[w.heap.size]? = some (.cells c 61 (0, 0)) := (hkS.block _ (blk_lt hP5) (fun e => hgiP e.symm)).trans hP5
      have hcu6 : (w5.setRow gi (splice cur5.toList (x.is.length * 13) c.toList).toArray).heap[g]? = some (.cells curg 95 (0, 0)) := (hkS.block _ (by have := blk_lt HCU.out; have := hk5.size; omega) (fun e => hgg e.symm)).trans ((hk5.block _ (blk_lt HCU.out) HGI.out).trans HCU.out)
      have HC6 : Hid ((w5.setRow gi (splice cur5.toList (x.is.length * 13) c.toList).toArray).cell? ⟨g, q.length * 14 + 12, none⟩ = some (.slice ai x.is.length ci)) := hkS.cell (hk5.cell (HMA.out.o.cell.1 12 _ (by rw [HVI.out]; rfl)) HGI.out) (fun e => hgg e.symm)
      have HF6 := hide (blk_frozen (q.length * 14 + 12) hcu6)
      have HI5 : Hid ((Tryz.prog.info? 61).map (·.size) = some c.size) := by show _ = _; rw [HC13.out]; exact infoV
      have HX5 : Hid (x.is.length * 13 + c.size ≤ cur5.size) := by have := HC13.out; show _ ≤ _; omega
      have HCR := hide hcur5
      have HGG : Hid (gi ≠ g) := hgg
      have HGP : Hid (gi ≠ w.heap.size) := hgiP
      have HC5a : Hid (w5.cell? ⟨g, q.length * 14 + 12, none⟩ = some (.slice ai x.is.length ci)) := hk5.cell (HMA.out.o.cell.1 12 _ (by rw [HVI.out]; rfl)) HGI.out
      have HF5a := hide (blk_frozen (q.length * 14 + 12) ((hk5.block _ (blk_lt HCU.out) HGI.out).trans HCU.out))
      have HIX : Hid ((((x.is.length : Nat) : Int) < ((x.is.length + 1 : Nat) : Int)) ∧ (x.is.length : Int) < (x.is.length : Int) + 1) := ⟨by omega, by omega⟩
      refine (Hid.out hK) _ _ hP5 (fun hS5 => ?_)
      clear hK K ho5 hg5 hq5 hk5 hgi5 hgiP hgg hrow6 hcs5 hkS hcur5 hcu6
      (try simp only [Act.put]); (try simp only [List.setIfInBounds_toArray, List.set_cons_zero, List.set_cons_succ])
      refine heldTake 9 (.pointer (some ⟨gi, x.is.length * 13, none⟩)) rfl (by kernel_rfl) (by kernel_rfl) (by kernel_rfl) (fun _ _ _ h => h) rfl hS5 (fun wy hy => by have h0 := HIX.out.1; have h1 := HIX.out.2; first | (go_simp; done) | (go_simp; omega) | (go_simp; rfl)) ?_
      refine heldTake 11 _ rfl (by kernel_rfl) (by kernel_rfl) (by kernel_rfl) (fun _ _ _ h => h) rfl hS5 (fun wy hy => by first | (go_simp; done) | (go_simp; rfl) | rfl) ?_
      (try simp only [Act.put]); (try simp only [List.setIfInBounds_toArray, List.set_cons_zero, List.set_cons_succ])
      refine heldTake 12 _ rfl (by kernel_rfl) (by kernel_rfl) (by kernel_rfl) (fun _ _ _ h => h) rfl hS5 (fun wy hy => by first | (go_simp; done) | (go_simp; rfl) | rfl) ?_
      (try simp only [Act.put]); (try simp only [List.setIfInBounds_toArray, List.set_cons_zero, List.set_cons_succ])
      refine heldTake 13 _ rfl (by kernel_rfl) (by kernel_rfl) (by kernel_rfl) (fun _ _ _ h => h) rfl hS5 (fun wy hy => by first | (go_simp; done) | (go_simp; rfl) | rfl) ?_
      (try simp only [Act.put]); (try simp only [List.setIfInBounds_toArray, List.set_cons_zero, List.set_cons_succ])
      have HC5 : Hid (w5.cell? ⟨g, q.length * 14 + 12, none⟩ = some (.slice ai x.is.length ci)) := HC5a
      have HF5 : Hid (w5.frozen? ⟨g, q.length * 14 + 12, none⟩ = false) := HF5a
      refine wpAnyH_ready (rs := [10, 14]) (by kernel_rfl) (by simp) ?_
      refine AllReadyH.cons rfl (fun K hK => ?_) (AllReadyH.cons rfl (fun K hK => ?_) AllReadyH.nil)
      · as_aux_lemma =>
        refine step_storePart8 rfl rfl gi (x.is.length * 13) cur5 c 61 rfl rfl HCR.out HI5.out HX5.out HCO.out ?_
        refine (Shut.out hK) _ _ hP6 (fun hS6 => ?_)
        clear hK K hP5 hS5
        (try simp only [Act.put])
        have c12 := HC6.out
        have f12 := HF6.out
        clear HC5 HF5
        generalize w5.setRow gi (splice cur5.toList (x.is.length * 13) c.toList).toArray = w6 at *
        refine heldStep 14 rfl (by kernel_rfl) (fun K hK => ?_)
        go_simp
        have hP7 : (w6.setCell ⟨g, q.length * 14 + 12, none⟩ (.slice (some ⟨gi, 0, none⟩) (x.is.length + 1) c5)).heap[w.heap.size]? = some (.cells c 61 (0, 0)) := blk_other _ _ hP6 HPG.out
        refine (Hid.out hK) _ _ hP7 (fun hS7 => ?_)
        clear hK K hP6 hS6 c12 f12 hP7
        (try simp only [Act.put])
        refine heldDone (by kernel_rfl) ?_
        clear hS7
        go_wp2_with fail
        go_meet
        case rel => exact ⟨_, w6, rfl, HRW⟩
      · as_aux_lemma =>
        have c12 := HC5.out
        have f12 := HF5.out
        go_simp
        have hP7 : (w5.setCell ⟨g, q.length * 14 + 12, none⟩ (.slice (some ⟨gi, 0, none⟩) (x.is.length + 1) c5)).heap[w.heap.size]? = some (.cells c 61 (0, 0)) := blk_other _ _ hP5 HPG.out
        have HCR7 : Hid ((w5.setCell ⟨g, q.length * 14 + 12, none⟩ (.slice (some ⟨gi, 0, none⟩) (x.is.length + 1) c5)).heap[gi]? = some (.cells cur5 61 (0, 0))) := blk_other _ _ HCR.out HGG.out
        have hrk := row_kp (w5.setCell ⟨g, q.length * 14 + 12, none⟩ (.slice (some ⟨gi, 0, none⟩) (x.is.length + 1) c5)) gi (splice cur5.toList (x.is.length * 13) c.toList).toArray
        have hP8 := (hrk.block _ (blk_lt hP7) (fun e => HGP.out e.symm)).trans hP7
        have HEQ := hide (row_cell_comm w5 g gi (q.length * 14 + 12) (.slice (some ⟨gi, 0, none⟩) (x.is.length + 1) c5) (splice cur5.toList (x.is.length * 13) c.toList).toArray HGG.out)
        refine (Shut.out hK) _ _ hP7 (fun hS7 => ?_)
        clear hK K hS5 c12 f12 hrk hP7
        (try simp only [Act.put])
        refine heldStep 10 rfl (by kernel_rfl) (fun K hK => ?_)
        refine step_storePart8 rfl rfl gi (x.is.length * 13) cur5 c 61 rfl rfl HCR7.out HI5.out HX5.out HCO.out ?_
        refine (Hid.out hK) _ _ hP8 (fun hS8 => ?_)
        clear hK K hS7 hP8 hP5 hP6
        (try simp only [Act.put])
        refine heldDone (by kernel_rfl) ?_
        clear hS8
        go_wp2_with fail
        go_meet
        case rel => exact ⟨_, _, HEQ.out, HRW⟩
    · as_aux_lemma =>
      have HGA : Hid ((w3.alloc (.cells zv 61)).heap[w3.heap.size]? = some (.cells zv 61 (0, 0))) := heap_alloc_new w3 _
      have HBA : Hid (Below w3.heap.size w3 (w3.alloc (.cells zv 61))) := below_alloc4 w3 _
      have HMA := hide (HM3.out.next HBA.out)
      have HPA : Hid ((w3.alloc (.cells zv 61)).heap[w.heap.size]? = some (.cells c 61 (0, 0))) := blk_alloc _ HP3.out
      have HOA : Hid ((w3.alloc (.cells zv 61)).ownsRow lo 61 13 (.slice ai x.is.length ci) x.is.length (vfl (L q.length))) := by
        have h := (HMA.out.o.e q.length x (by simp)).i
        rw [HVI.out] at h
        exact h
      have HLB : Hid (lo ≤ (w3.alloc (.cells zv 61)).heap.size) := by have h1 := HMA.out.l; have h2 := HMA.out.o.mz M HMA.out.lm; show _ ≤ _; omega
      have HCU : Hid ((w3.alloc (.cells zv 61)).heap[g]? = some (.cells curg 95 (0, 0))) := blk_alloc _ HCG.out
      have HPI : Hid (¬ (Value.slice ai x.is.length ci).ownBlock = some w.heap.size) := fun e => by have := HIL.out _ e; omega
      have HGI : Hid (¬ (Value.slice ai x.is.length ci).ownBlock = some g) := fun e => own_not HOA.out HCU.out (by decide) e
      refine step_val18 rfl rfl zv rfl rfl ?_
      refine (Shut.out hK) _ (w3.alloc (.cells zv 61)) HPA.out (fun hS2 => ?_)
      clear hK K hS
      (try simp only [Act.put]); (try simp only [List.setIfInBounds_toArray])
      generalize w3.alloc (.cells zv 61) = wA at *
      have x12 : wA.cell? ⟨g, q.length * 14 + 12, none⟩ = some (.slice ai x.is.length ci) := HMA.out.o.cell.1 12 _ (by rw [HVI.out]; rfl)
      refine heldStep 4 rfl (by kernel_rfl) (fun K hK => ?_)
      go_simp
      refine (Hid.out hK) _ _ hS2 (fun hS3 => ?_)
      clear hK K hS2 x12
      (try simp only [Act.put]); (try simp only [List.setIfInBounds_toArray, List.set_cons_zero, List.set_cons_succ])
      refine heldTake 6 _ rfl (by kernel_rfl) (by kernel_rfl) (by kernel_rfl) (fun _ _ _ h => h) rfl hS3 (fun wy hy => by first | (go_simp; done) | (go_simp; rfl) | rfl) ?_
      (try simp only [Act.put]); (try simp only [List.setIfInBounds_toArray, List.set_cons_zero, List.set_cons_succ])
      refine heldStep 8 rfl (by kernel_rfl) (fun K hK => ?_)
      refine step_append_val8 rfl _ _ rfl lo (.slice ai x.is.length ci) x.is.length (vfl (L q.length)) rfl HOA.out w3.heap.size zv HZO.out rfl HGA.out (by omega) HLB.out (fun v5 w5 ho5 hg5 hq5 => ?_)
      obtain ⟨gi, c5, hv5, cur5, hcur5, hcs5⟩ : ∃ gi c5, v5 = .slice (some ⟨gi, 0, none⟩) (x.is.length + 1) c5 ∧ ∃ cur5, w5.heap[gi]? = some (.cells cur5 61 (0, 0)) ∧ (x.is.length + 1) * 13 ≤ cur5.size := by
        rcases ho5.2 with ⟨_, h0⟩ | ⟨gi, c5, cur5, e, _, h1, h2, _, h3, _⟩
        · omega
        · exact ⟨gi, c5, e, cur5, h1, by rw [h3]; exact Nat.mul_le_mul_right 13 h2⟩
      subst hv5
      have hk5 : Kp (fun r => (Value.slice ai x.is.length ci).ownBlock = some r) wA w5 := (Kp.refl _ _).grown hg5 (fun _ _ h => h)
      have hP5 : w5.heap[w.heap.size]? = some (.cells c 61 (0, 0)) := (hk5.block _ (blk_lt HPA.out) HPI.out).trans HPA.out
      have hgi5 : (Value.slice ai x.is.length ci).ownBlock = some gi ∨ gi = wA.heap.size := by
        rcases hq5 with e | e
        · exact .inl e.symm
        · injection e with e
          exact .inr e
      have hgiP : gi ≠ w.heap.size := fun e => by
        rcases hgi5 with h | h
        · exact HPI.out (by rw [← e]; exact h)
        · have := blk_lt HPA.out
          omega
      have hgg : gi ≠ g := fun e => by
        rcases hgi5 with h | h
        · exact (HMA.out.o.d q.length (by simp) gi (.inr (by rw [HVI.out]; exact h))).2.1 (by rw [e]; rfl)
        · have := blk_lt HCU.out
          omega
      have hkS := row_kp w5 gi (splice cur5.toList (x.is.length * 13) c.toList).toArray
      have hrow6 : (w5.setRow gi (splice cur5.toList (x.is.length * 13) c.toList).toArray).ownsRow lo 61 13 (.slice (some ⟨gi, 0, none⟩) (x.is.length + 1) c5) (x.is.length + 1) (vfl (L q.length ++ [c])) := by
        have e1 : vfl (L q.length) ++ zv.toList = vfl (L q.length ++ [zv]) := by rw [vfl_app]; simp [vfl]
        have h0 := ho5
        rw [e1] at h0
        have h1 := own_part (c' := c) (j := x.is.length) h0 (by rw [List.length_append, HLL.out]; rfl) HL13.out hcur5 (by omega) HC13.out (row_same hcur5)
        have e2 : (L q.length ++ [zv]).set x.is.length c = L q.length ++ [c] := by
          rw [List.set_append_right _ _ (by rw [HLL.out]; exact Nat.le_refl _), HLL.out, Nat.sub_self]
          rfl
        rw [e2] at h1
        exact h1
      have HRW : Hid ((w5.setRow gi (splice cur5.toList (x.is.length * 13) c.toList).toArray).ownsRow lo 61 13 (.slice (some ⟨gi, 0, none⟩) (x.is.length + 1) c5) (x.is.length + 1) (vfl (L q.length ++ [c])) ∧ Kp (fun r => (Value.slice ai x.is.length ci).ownBlock = some r) w3 (w5.setRow gi (splice cur5.toList (x.is.length * 13) c.toList).toArray) ∧ ((Value.slice (some ⟨gi, 0, none⟩) (x.is.length + 1) c5).ownBlock = (Value.slice ai x.is.length ci).ownBlock ∨ ∀ r, (Value.slice (some ⟨gi, 0, none⟩) (x.is.length + 1) c5).ownBlock = some r → w3.heap.size ≤ r)) := by
        refine ⟨hrow6, ((Kp.of_below (S := fun r => (Value.slice ai x.is.length ci).ownBlock = some r) HBA.out).trans hk5 (fun _ _ h => h)).trans hkS (fun r hr e => ?_), ?_⟩
        · rcases hgi5 with h | h
          · rw [e]; exact h
          · have := HBA.out.size
            omega
        · rcases hgi5 with h | h
          · exact .inl h.symm
          · refine .inr (fun r hr => ?_)
            have e2 : gi = r := by simpa [Value.ownBlock] using hr
            have := HBA.out.size
            omega
      have hP6 : (w5.setRow gi (splice cur5.toList (x.is.length * 13) c.toList).toArray).heap[w.heap.size]? = some (.cells c 61 (0, 0)) := (hkS.block _ (blk_lt hP5) (fun e => hgiP e.symm)).trans hP5
      have hcu6 : (w5.setRow gi (splice cur5.toList (x.is.length * 13) c.toList).toArray).heap[g]? = some (.cells curg 95 (0, 0)) := (hkS.block _ (by have := blk_lt HCU.out; have := hk5.size; omega) (fun e => hgg e.symm)).trans ((hk5.block _ (blk_lt HCU.out) HGI.out).trans HCU.out)
      have HC6 : Hid ((w5.setRow gi (splice cur5.toList (x.is.length * 13) c.toList).toArray).cell? ⟨g, q.length * 14 + 12, none⟩ = some (.slice ai x.is.length ci)) := hkS.cell (hk5.cell (HMA.out.o.cell.1 12 _ (by rw [HVI.out]; rfl)) HGI.out) (fun e => hgg e.symm)
      have HF6 := hide (blk_frozen (q.length * 14 + 12) hcu6)
      have HI5 : Hid ((Tryz.prog.info? 61).map (·.size) = some c.size) := by show _ = _; rw [HC13.out]; exact infoV
      have HX5 : Hid (x.is.length * 13 + c.size ≤ cur5.size) := by have := HC13.out; show _ ≤ _; omega
      have HCR := hide hcur5
      have HGG : Hid (gi ≠ g) := hgg
      have HGP : Hid (gi ≠ w.heap.size) := hgiP
      have HC5a : Hid (w5.cell? ⟨g, q.length * 14 + 12, none⟩ = some (.slice ai x.is.length ci)) := hk5.cell (HMA.out.o.cell.1 12 _ (by rw [HVI.out]; rfl)) HGI.out
      have HF5a := hide (blk_frozen (q.length * 14 + 12) ((hk5.block _ (blk_lt HCU.out) HGI.out).trans HCU.out))
      have HIX : Hid ((((x.is.length : Nat) : Int) < ((x.is.length + 1 : Nat) : Int)) ∧ (x.is.length : Int) < (x.is.length : Int) + 1) := ⟨by omega, by omega⟩
      refine (Hid.out hK) _ _ hP5 (fun hS5 => ?_)
      clear hK K ho5 hg5 hq5 hk5 hgi5 hgiP hgg hrow6 hcs5 hkS hcur5 hcu6
      (try simp only [Act.put]); (try simp only [List.setIfInBounds_toArray, List.set_cons_zero, List.set_cons_succ])
      refine heldTake 9 (.pointer (some ⟨gi, x.is.length * 13, none⟩)) rfl (by kernel_rfl) (by kernel_rfl) (by kernel_rfl) (fun _ _ _ h => h) rfl hS5 (fun wy hy => by have h0 := HIX.out.1; have h1 := HIX.out.2; first | (go_simp; done) | (go_simp; omega) | (go_simp; rfl)) ?_
      refine heldTake 11 _ rfl (by kernel_rfl) (by kernel_rfl) (by kernel_rfl) (fun _ _ _ h => h) rfl hS5 (fun wy hy => by first | (go_simp; done) | (go_simp; rfl) | rfl) ?_
      (try simp only [Act.put]); (try simp only [List.setIfInBounds_toArray, List.set_cons_zero, List.set_cons_succ])
      refine heldTake 12 _ rfl (by kernel_rfl) (by kernel_rfl) (by kernel_rfl) (fun _ _ _ h => h) rfl hS5 (fun wy hy => by first | (go_simp; done) | (go_simp; rfl) | rfl) ?_
      (try simp only [Act.put]); (try simp only [List.setIfInBounds_toArray, List.set_cons_zero, List.set_cons_succ])
      refine heldTake 13 _ rfl (by kernel_rfl) (by kernel_rfl) (by kernel_rfl) (fun _ _ _ h => h) rfl hS5 (fun wy hy => by first | (go_simp; done) | (go_simp; rfl) | rfl) ?_
      (try simp only [Act.put]); (try simp only [List.setIfInBounds_toArray, List.set_cons_zero, List.set_cons_succ])
      have HC5 : Hid (w5.cell? ⟨g, q.length * 14 + 12, none⟩ = some (.slice ai x.is.length ci)) := HC5a
      have HF5 : Hid (w5.frozen? ⟨g, q.length * 14 + 12, none⟩ = false) := HF5a
      refine wpAnyH_ready (rs := [10, 14]) (by kernel_rfl) (by simp) ?_
      refine AllReadyH.cons rfl (fun K hK => ?_) (AllReadyH.cons rfl (fun K hK => ?_) AllReadyH.nil)
      · as_aux_lemma =>
        refine step_storePart8 rfl rfl gi (x.is.length * 13) cur5 c 61 rfl rfl HCR.out HI5.out HX5.out HCO.out ?_
        refine (Shut.out hK) _ _ hP6 (fun hS6 => ?_)
        clear hK K hP5 hS5
        (try simp only [Act.put])
        have c12 := HC6.out
        have f12 := HF6.out
        clear HC5 HF5
        generalize w5.setRow gi (splice cur5.toList (x.is.length * 13) c.toList).toArray = w6 at *
        refine heldStep 14 rfl (by kernel_rfl) (fun K hK => ?_)
        go_simp
        have hP7 : (w6.setCell ⟨g, q.length * 14 + 12, none⟩ (.slice (some ⟨gi, 0, none⟩) (x.is.length + 1) c5)).heap[w.heap.size]? = some (.cells c 61 (0, 0)) := blk_other _ _ hP6 HPG.out
        refine (Hid.out hK) _ _ hP7 (fun hS7 => ?_)
        clear hK K hP6 hS6 c12 f12 hP7
        (try simp only [Act.put])
        refine heldDone (by kernel_rfl) ?_
        clear hS7
        go_wp2_with fail
        go_meet
        case rel => exact ⟨_, w6, rfl, HRW⟩
      · as_aux_lemma =>
        have c12 := HC5.out
        have f12 := HF5.out
        go_simp
        have hP7 : (w5.setCell ⟨g, q.length * 14 + 12, none⟩ (.slice (some ⟨gi, 0, none⟩) (x.is.length + 1) c5)).heap[w.heap.size]? = some (.cells c 61 (0, 0)) := blk_other _ _ hP5 HPG.out
        have HCR7 : Hid ((w5.setCell ⟨g, q.length * 14 + 12, none⟩ (.slice (some ⟨gi, 0, none⟩) (x.is.length + 1) c5)).heap[gi]? = some (.cells cur5 61 (0, 0))) := blk_other _ _ HCR.out HGG.out
        have hrk := row_kp (w5.setCell ⟨g, q.length * 14 + 12, none⟩ (.slice (some ⟨gi, 0, none⟩) (x.is.length + 1) c5)) gi (splice cur5.toList (x.is.length * 13) c.toList).toArray
        have hP8 := (hrk.block _ (blk_lt hP7) (fun e => HGP.out e.symm)).trans hP7
        have HEQ := hide (row_cell_comm w5 g gi (q.length * 14 + 12) (.slice (some ⟨gi, 0, none⟩) (x.is.length + 1) c5) (splice cur5.toList (x.is.length * 13) c.toList).toArray HGG.out)
        refine (Shut.out hK) _ _ hP7 (fun hS7 => ?_)
        clear hK K hS5 c12 f12 hrk hP7
        (try simp only [Act.put])
        refine heldStep 10 rfl (by kernel_rfl) (fun K hK => ?_)
        refine step_storePart8 rfl rfl gi (x.is.length * 13) cur5 c 61 rfl rfl HCR7.out HI5.out HX5.out HCO.out ?_
        refine (Hid.out hK) _ _ hP8 (fun hS8 => ?_)
        clear hK K hS7 hP8 hP5 hP6
        (try simp only [Act.put])
        refine heldDone (by kernel_rfl) ?_
        clear hS8
        go_wp2_with fail
        go_meet
        case rel => exact ⟨_, _, HEQ.out, HRW⟩
  obtain ⟨v5, w6, hwc, HRW⟩ := hcut
  subst hwc
  obtain ⟨a5, k5, hv5⟩ := own_slice8 HRW.out.1
  subst hv5
  obtain ⟨curg, hcurg⟩ := HMD.out.o.cell.2
  have hiD := (HMD.out.o.e q.length x (by simp)).i
  rw [HVI.out] at hiD
  have hgI : ¬ (Value.slice ai x.is.length ci).ownBlock = some g := fun e => own_not hiD hcurg (by decide) e
  have hMI : ¬ (Value.slice ai x.is.length ci).ownBlock = some M := fun e => own_not hiD HMD.out.m (by decide) e
  have hc13 := cell_blk hcurg (HMD.out.o.cell.1 13 (.int .u64 (x.n : Nat)) rfl)
  have hcur6 : w6.heap[g]? = some (.cells curg 95 (0, 0)) := (HRW.out.2.1.block _ (blk_lt hcurg) hgI).trans hcurg
  have hcur7 := blk_set (q.length * 14 + 12) (.slice a5 (x.is.length + 1) k5) hcur6
  have c13 : (w6.setCell ⟨g, q.length * 14 + 12, none⟩ (.slice a5 (x.is.length + 1) k5)).cell? ⟨g, q.length * 14 + 13, none⟩ = some (.int .u64 (x.n : Nat)) := blk_cell hcur7 (by rw [Array.getElem?_setIfInBounds_ne (by omega)]; exact hc13)
  have f13 := blk_frozen (q.length * 14 + 13) hcur7
  have hxz := HXZ.out
  have e1 : IntKind.u64.wrap ((x.n : Int) - 1) = ((x.n - 1 : Nat) : Int) := by rw [IntKind.wrap_u64]; omega
  have hgM : M ≠ g := fun e => HMD.out.o.m M HMD.out.lm (by rw [e]; rfl)
  have hU : Tis w2.drew (Lvs (fun r => r < lo) (.slice (some ⟨g, 0, none⟩) (q.length + 1) cap) (q ++ [x]).length K I) u c := HUU.out.kp (Kp.of_below HBD.out)
  have hO := HMD.out.o.item HC13.out hU HRW.out.1 (by rw [HVI.out]; exact HRW.out.2.1) (by rw [HVI.out]; exact HRW.out.2.2) (by omega) (x.n - 1) (by omega)
  have hm6 : w6.heap[M]? = some (.cells #[vB, .int .i64 (p : Nat), .int .i64 (d : Nat), .slice (some ⟨g, 0, none⟩) (q.length + 1) cap] 74 (0, 0)) := (HRW.out.2.1.block _ (blk_lt HMD.out.m) hMI).trans HMD.out.m
  have hkS : Kp (fun r => r = g) w6 ((w6.setCell ⟨g, q.length * 14 + 12, none⟩ (.slice a5 (x.is.length + 1) k5)).setCell ⟨g, q.length * 14 + 13, none⟩ (.int .u64 ((x.n - 1 : Nat) : Int))) := ((Kp.refl (fun r => r = g) w6).setCell ⟨g, q.length * 14 + 12, none⟩ _ (fun _ => rfl)).setCell ⟨g, q.length * 14 + 13, none⟩ _ (fun _ => rfl)
  have HMF : Hid (Mac ((w6.setCell ⟨g, q.length * 14 + 12, none⟩ (.slice a5 (x.is.length + 1) k5)).setCell ⟨g, q.length * 14 + 13, none⟩ (.int .u64 ((x.n - 1 : Nat) : Int))) lo M vB b d p (.slice (some ⟨g, 0, none⟩) (q.length + 1) cap) (q ++ [⟨x.k, x.ks, x.is ++ [u], x.n - 1⟩]) _ _ _ _) :=
    ⟨(hkS.block _ (blk_lt hm6) hgM).trans hm6, hkS.bsl (HRW.out.2.1.bsl HMD.out.b (fun r hr e => by have := HMD.out.q r hr; have := (hiD.lt r e).1; omega)) (fun r hr e => by have := HMD.out.q r hr; omega), HMD.out.q, hO, HMD.out.lm, Nat.le_trans (Nat.le_trans HMD.out.l HRW.out.2.1.size) hkS.size, by
      obtain ⟨_, m, hy, hnos⟩ := HU0.out.next HBD.out
      have hkk : Kp (fun r => (Value.slice (some ⟨g, 0, none⟩) (q.length + 1) cap).ownBlock = some r ∨ (I q.length).ownBlock = some r) w2.drew ((w6.setCell ⟨g, q.length * 14 + 12, none⟩ (.slice a5 (x.is.length + 1) k5)).setCell ⟨g, q.length * 14 + 13, none⟩ (.int .u64 ((x.n - 1 : Nat) : Int))) := (HRW.out.2.1.mono (fun r _ e => .inr (by rw [HVI.out]; exact e))).trans hkS (fun r _ e => .inl (by rw [e]; rfl))
      have h3 := hy.item (t := q.length) (x := x) (x' := ⟨x.k, x.ks, x.is ++ [u], x.n - 1⟩) (vi' := .slice a5 (x.is.length + 1) k5) (by simp) (by simp) rfl HLL.out hnos hkk (by rw [HVI.out]; exact HRW.out.2.2)
      rw [List.set_append_right _ _ (Nat.le_refl _), Nat.sub_self] at h3
      exact ⟨_, h3⟩⟩
  have HKF : Hid (Kp (fun r => lo ≤ r) w ((w6.setCell ⟨g, q.length * 14 + 12, none⟩ (.slice a5 (x.is.length + 1) k5)).setCell ⟨g, q.length * 14 + 13, none⟩ (.int .u64 ((x.n - 1 : Nat) : Int)))) := ((Kp.of_below (S := fun r => lo ≤ r) HBD.out).trans HRW.out.2.1 (fun r _ e => (hiD.lt r e).1)).trans hkS (fun r _ e => by omega)
  clear hcurg hiD hgI hMI hc13 hcur6 hcur7 hxz hU hO hm6 hkS hgM
  go_wp2_with fail
  go_end0
  exact ⟨rfl, HKF.out, _, _, _, _, HMF.out⟩
end
section
open Go.RowKit Go
theorem tis_tbd {w : World} {S : Nat → Prop} {t : Tv} {c : Array Value} (h : Tis w S t c) : Tbd t := by
  obtain ⟨_, _, _, _, _, _, _, hb⟩ := h.tin.parts
  exact hb
/-- A tree without lists. -/
theorem plain_nos (w : World) (lo : Nat) (D : Nat → Prop) {t : Tv} (hb : Tbd t) (hy : t.y = []) (hk : t.ks = []) (hi : t.is = []) : Nos w lo D t (vcs t (.slice none 0 0) (.slice none 0 0) (.slice none 0 0)) :=
  Nos.mk D t _ _ _ [] (fun _ _ => False) hb (fun x hx => by rw [hy] at hx; cases hx) (by rw [hy]; exact World.ownsRow_nil _ _ _ _) (by rw [hk]; exact World.ownsRow_nil _ _ _ _) (by rw [hk]; show (0 : Nat) ≤ _; decide) (fun s hs => by rw [hk] at hs; cases hs) (by rw [hi]; exact World.ownsRow_nil _ _ _ _) (by rw [hi]; show (0 : Nat) ≤ _; decide) (by rw [hi]; rfl) (fun c hc => by cases hc) (fun q e => by cases e) (fun q e => by cases e) (fun q e => by cases e) (fun i h => by rw [hi] at h; exact absurd h (Nat.not_lt_zero i)) (fun i j hij h => by rw [hi] at h; exact absurd h (Nat.not_lt_zero j)) (fun i u c hu => by rw [hi] at hu; simp at hu)
def LeafO (w : World) (t : Tv) (e : Ending) (w' : World) : Prop := ∃ c, e = .returned (.agg c) ∧ Tis w' (fun q => q < w.heap.size) t c ∧ Below w.heap.size w w' ∧ Nos w' w.heap.size (fun q => w.heap.size ≤ q ∧ q < w'.heap.size) t c
theorem LeafO.mk {w w' : World} {t t' : Tv} {c : Array Value} (ht : t = t') (h1 : Tis w' (fun q => q < w.heap.size) t' c) (h2 : Below w.heap.size w w') (h3 : Nos w' w.heap.size (fun q => w.heap.size ≤ q ∧ q < w'.heap.size) t' c) : LeafO w t (.returned (.agg c)) w' := ⟨c, rfl, by rw [ht]; exact h1, h2, by rw [ht]; exact h3⟩
set_option maxRecDepth 1000000 in
set_option maxHeartbeats 4000000 in
theorem leafO8_any (w : World) (g : Nat) (h : HR) (vb : Value) (y : List Nat) (s : ByteArray) (l : Lk) (hg : w.heap[g]? = some (.cells (ics h vb s l) 89 (0, 0))) (hb : BSl w vb y) (hyl : y.length ≤ 140737488351232) (hn : h.n < 18446744073709551616) (hs : h.m = 3 → s = nstr y) :
    Calls Tryz.prog 55 #[.pointer (some ⟨g, 0, none⟩)] w (LeafO w (rleaf h y)) := by
  have HBB := hide hb
  have HBY := hide hb.byte
  have hlt := blk_lt hg
  have HGL := hide hlt
  have HG0 : Hid ((w.alloc (.cells zv 61)).heap[g]? = some (.cells (ics h vb s l) 89 (0, 0))) := blk_alloc _ hg
  have HR0 : Hid ((w.alloc (.cells zv 61)).heap[w.heap.size]? = some (.cells zv 61 (0, 0))) := heap_alloc_new w _
  have HB0 : Hid (Below w.heap.size w (w.alloc (.cells zv 61))) := below_alloc4 w _
  obtain ⟨⟨a, cap, rfl, _, _⟩, _, _⟩ := hb
  clear hg hlt
  unfold zv at HG0 HR0 HB0
  go_enter Tryz.func55, Tryz.ntmps55
  go_upto_region 1 with fail
  generalize w.alloc (.cells #[.int .i64 0, .bool false, .bool false, .int .u64 0, .int .u64 0, .string ⟨#[]⟩, .slice none 0 0, .int .i64 0, .int .u64 0, .int .u64 0, .string ⟨#[]⟩, .slice none 0 0, .slice none 0 0] 61) = w0 at *
  have HR0 : Hid (w0.heap[w.heap.size]? = some (.cells zv 61 (0, 0))) := HR0
  have c0 : w0.cell? ⟨g, 0, none⟩ = some (.int .i64 (h.m : Nat)) := blk_cell (j := 0) HG0.out rfl
  have c1 : w0.cell? ⟨g, 1, none⟩ = some (.int .i64 (h.i : Nat)) := blk_cell (j := 1) HG0.out rfl
  have c2 : w0.cell? ⟨g, 2, none⟩ = some (.int .u64 (h.n : Nat)) := blk_cell (j := 2) HG0.out rfl
  have c5 : w0.cell? ⟨g, 5, none⟩ = some (.slice a y.length cap) := blk_cell (j := 5) HG0.out rfl
  have c6 : w0.cell? ⟨g, 6, none⟩ = some (.string s) := blk_cell (j := 6) HG0.out rfl
  by_cases hm : h.m = 0
  · as_aux_lemma =>
    have g0 : ((h.m : Int) == 0) = true := beq_iff_eq.2 (by omega)
    have g1 : ((h.m : Int) == 1) = false := beq_eq_false_iff_ne.2 (by omega)
    have HRL : Hid (rleaf h y = (.mk 3 false false h.n 0 ⟨#[]⟩ [] ⟨0, 0, 0, []⟩ [] [])) := by show _ = _; unfold rleaf; rw [if_pos (by omega)]; simp [hm]
    have HI3 : Hid ((Tryz.prog.info? 61).map (·.size) = some (vcs (.mk 3 false false h.n 0 ⟨#[]⟩ [] ⟨0, 0, 0, []⟩ [] []) (.slice none 0 0) (.slice none 0 0) (.slice none 0 0)).size) := infoV
    have HZ3 : Hid (zv.size = (vcs (.mk 3 false false h.n 0 ⟨#[]⟩ [] ⟨0, 0, 0, []⟩ [] []) (.slice none 0 0) (.slice none 0 0) (.slice none 0 0)).size) := rfl
    have HTT : Hid (∀ wz, Tis wz (fun q => q < w.heap.size) (.mk 3 false false h.n 0 ⟨#[]⟩ [] ⟨0, 0, 0, []⟩ [] []) (vcs (.mk 3 false false h.n 0 ⟨#[]⟩ [] ⟨0, 0, 0, []⟩ [] []) (.slice none 0 0) (.slice none 0 0) (.slice none 0 0))) := fun wz => plain_tis wz _ (leaf_tbd hn (by show (0 : Nat) < _; decide) (by show (ByteArray.mk #[]).size ≤ _; decide) (by show (0 : Nat) ≤ _; decide) rfl) rfl rfl rfl
    have HA3 := hide (HTT.out w0).tin.all1
    clear hm
    go_wp2_with fail
    refine heldStart (S := fun wy => wy.heap[g]? = some (.cells (ics h (.slice a y.length cap) s l) 89 (0, 0))) (by kernel_rfl) ?_
    have hS : w0.drew.heap[g]? = some (.cells (ics h (.slice a y.length cap) s l) 89 (0, 0)) := HG0.out
    refine heldTake 0 _ rfl (by kernel_rfl) (by kernel_rfl) (by kernel_rfl) (fun _ _ _ h => h) rfl hS (fun wy hy => by first | (go_simp; done) | (go_simp; rfl) | rfl) ?_
    (try simp only [Act.put]); (try simp only [List.setIfInBounds_toArray, List.set_cons_zero, List.set_cons_succ])
    refine heldTake 1 _ rfl (by kernel_rfl) (by kernel_rfl) (by kernel_rfl) (fun _ _ _ h => h) rfl hS (fun wy hy => by first | (go_simp; done) | (go_simp; rfl) | rfl) ?_
    (try simp only [Act.put]); (try simp only [List.setIfInBounds_toArray, List.set_cons_zero, List.set_cons_succ])
    refine heldTake 2 _ rfl (by kernel_rfl) (by kernel_rfl) (by kernel_rfl) (fun _ _ _ h => h) rfl hS (fun wy hy => by first | (go_simp; done) | (go_simp; rfl) | rfl) ?_
    (try simp only [Act.put]); (try simp only [List.setIfInBounds_toArray, List.set_cons_zero, List.set_cons_succ])
    refine heldTake 3 _ rfl (by kernel_rfl) (by kernel_rfl) (by kernel_rfl) (fun _ _ _ h => h) rfl hS (fun wy hy => by first | (go_simp; done) | (go_simp; rfl) | rfl) ?_
    (try simp only [Act.put]); (try simp only [List.setIfInBounds_toArray, List.set_cons_zero, List.set_cons_succ])
    refine heldTake 4 _ rfl (by kernel_rfl) (by kernel_rfl) (by kernel_rfl) (fun _ _ _ h => h) rfl hS (fun wy hy => by have h0 := blk_cell (j := 0) (v := .int .i64 (h.m : Nat)) hy rfl; first | (go_simp; done) | (go_simp; rfl) | rfl) ?_
    (try simp only [Act.put]); (try simp only [List.setIfInBounds_toArray, List.set_cons_zero, List.set_cons_succ])
    refine heldTake 5 _ rfl (by kernel_rfl) (by kernel_rfl) (by kernel_rfl) (fun _ _ _ h => h) rfl hS (fun wy hy => by first | (go_simp; done) | (go_simp; rfl) | rfl) ?_
    (try simp only [Act.put]); (try simp only [List.setIfInBounds_toArray, List.set_cons_zero, List.set_cons_succ])
    refine heldTake 6 _ rfl (by kernel_rfl) (by kernel_rfl) (by kernel_rfl) (fun _ _ _ h => h) rfl hS (fun wy hy => by first | (go_simp; done) | (go_simp; rfl) | rfl) ?_
    (try simp only [Act.put]); (try simp only [List.setIfInBounds_toArray, List.set_cons_zero, List.set_cons_succ])
    refine heldTake 7 _ rfl (by kernel_rfl) (by kernel_rfl) (by kernel_rfl) (fun _ _ _ h => h) rfl hS (fun wy hy => by first | (go_simp; done) | (go_simp; rfl) | rfl) ?_
    (try simp only [Act.put]); (try simp only [List.setIfInBounds_toArray, List.set_cons_zero, List.set_cons_succ])
    refine heldTake 8 _ rfl (by kernel_rfl) (by kernel_rfl) (by kernel_rfl) (fun _ _ _ h => h) rfl hS (fun wy hy => by first | (go_simp; done) | (go_simp; rfl) | rfl) ?_
    (try simp only [Act.put]); (try simp only [List.setIfInBounds_toArray, List.set_cons_zero, List.set_cons_succ])
    refine heldTake 9 _ rfl (by kernel_rfl) (by kernel_rfl) (by kernel_rfl) (fun _ _ _ h => h) rfl hS (fun wy hy => by first | (go_simp; done) | (go_simp; rfl) | rfl) ?_
    (try simp only [Act.put]); (try simp only [List.setIfInBounds_toArray, List.set_cons_zero, List.set_cons_succ])
    refine heldTake 10 _ rfl (by kernel_rfl) (by kernel_rfl) (by kernel_rfl) (fun _ _ _ h => h) rfl hS (fun wy hy => by have h0 := blk_cell (j := 2) (v := .int .u64 (h.n : Nat)) hy rfl; first | (go_simp; done) | (go_simp; rfl) | rfl) ?_
    (try simp only [Act.put]); (try simp only [List.setIfInBounds_toArray, List.set_cons_zero, List.set_cons_succ])
    refine heldTake 11 _ rfl (by kernel_rfl) (by kernel_rfl) (by kernel_rfl) (fun _ _ _ h => h) rfl hS (fun wy hy => by first | (go_simp; done) | (go_simp; rfl) | rfl) ?_
    (try simp only [Act.put]); (try simp only [List.setIfInBounds_toArray, List.set_cons_zero, List.set_cons_succ])
    refine heldStep 12 rfl (by kernel_rfl) (fun K hK => ?_)
    refine step_storeRow rfl rfl w.heap.size zv (vcs (.mk 3 false false h.n 0 ⟨#[]⟩ [] ⟨0, 0, 0, []⟩ [] []) (.slice none 0 0) (.slice none 0 0) (.slice none 0 0)) 61 rfl rfl HR0.out HI3.out HZ3.out HA3.out ?_
    have hrk := row_kp w0.drew w.heap.size (vcs (.mk 3 false false h.n 0 ⟨#[]⟩ [] ⟨0, 0, 0, []⟩ [] []) (.slice none 0 0) (.slice none 0 0) (.slice none 0 0))
    refine (Hid.out hK) _ _ ((hrk.block _ (blk_lt hS) (by have := HGL.out; omega)).trans hS) (fun hS4 => ?_)
    clear hK K hS
    (try simp only [Act.put]); (try simp only [List.setIfInBounds_toArray, List.set_cons_zero, List.set_cons_succ])
    refine heldDone (by kernel_rfl) ?_
    clear hS4
    go_wp2_with fail
    exact bodyPost_ret (end_leaf rfl (row_same (w := w0.drew) HR0.out) rfl) rfl (LeafO.mk HRL.out (HTT.out _) (HB0.out.drew.trans (hrk.below HB0.out.size (fun q e => by omega))) (plain_nos _ _ _ (tis_tbd (HTT.out w)) rfl rfl rfl))
  have g0 : ((h.m : Int) == 0) = false := beq_eq_false_iff_ne.2 (by omega)
  by_cases hm1 : h.m = 1
  · as_aux_lemma =>
    have hm := hm1
    clear hm1
    have g1 : ((h.m : Int) == 1) = true := beq_iff_eq.2 (by omega)
    have HRL : Hid (rleaf h y = (.mk 3 false true h.n 0 ⟨#[]⟩ [] ⟨0, 0, 0, []⟩ [] [])) := by show _ = _; unfold rleaf; rw [if_pos (by omega)]; simp [hm]
    have HI3 : Hid ((Tryz.prog.info? 61).map (·.size) = some (vcs (.mk 3 false true h.n 0 ⟨#[]⟩ [] ⟨0, 0, 0, []⟩ [] []) (.slice none 0 0) (.slice none 0 0) (.slice none 0 0)).size) := infoV
    have HZ3 : Hid (zv.size = (vcs (.mk 3 false true h.n 0 ⟨#[]⟩ [] ⟨0, 0, 0, []⟩ [] []) (.slice none 0 0) (.slice none 0 0) (.slice none 0 0)).size) := rfl
    have HTT : Hid (∀ wz, Tis wz (fun q => q < w.heap.size) (.mk 3 false true h.n 0 ⟨#[]⟩ [] ⟨0, 0, 0, []⟩ [] []) (vcs (.mk 3 false true h.n 0 ⟨#[]⟩ [] ⟨0, 0, 0, []⟩ [] []) (.slice none 0 0) (.slice none 0 0) (.slice none 0 0))) := fun wz => plain_tis wz _ (leaf_tbd hn (by show (0 : Nat) < _; decide) (by show (ByteArray.mk #[]).size ≤ _; decide) (by show (0 : Nat) ≤ _; decide) rfl) rfl rfl rfl
    have HA3 := hide (HTT.out w0).tin.all1
    clear hm
    go_wp2_with fail
    refine heldStart (S := fun wy => wy.heap[g]? = some (.cells (ics h (.slice a y.length cap) s l) 89 (0, 0))) (by kernel_rfl) ?_
    have hS : w0.drew.heap[g]? = some (.cells (ics h (.slice a y.length cap) s l) 89 (0, 0)) := HG0.out
    refine heldTake 0 _ rfl (by kernel_rfl) (by kernel_rfl) (by kernel_rfl) (fun _ _ _ h => h) rfl hS (fun wy hy => by first | (go_simp; done) | (go_simp; rfl) | rfl) ?_
    (try simp only [Act.put]); (try simp only [List.setIfInBounds_toArray, List.set_cons_zero, List.set_cons_succ])
    refine heldTake 1 _ rfl (by kernel_rfl) (by kernel_rfl) (by kernel_rfl) (fun _ _ _ h => h) rfl hS (fun wy hy => by first | (go_simp; done) | (go_simp; rfl) | rfl) ?_
    (try simp only [Act.put]); (try simp only [List.setIfInBounds_toArray, List.set_cons_zero, List.set_cons_succ])
    refine heldTake 2 _ rfl (by kernel_rfl) (by kernel_rfl) (by kernel_rfl) (fun _ _ _ h => h) rfl hS (fun wy hy => by first | (go_simp; done) | (go_simp; rfl) | rfl) ?_
    (try simp only [Act.put]); (try simp only [List.setIfInBounds_toArray, List.set_cons_zero, List.set_cons_succ])
    refine heldTake 3 _ rfl (by kernel_rfl) (by kernel_rfl) (by kernel_rfl) (fun _ _ _ h => h) rfl hS (fun wy hy => by first | (go_simp; done) | (go_simp; rfl) | rfl) ?_
    (try simp only [Act.put]); (try simp only [List.setIfInBounds_toArray, List.set_cons_zero, List.set_cons_succ])
    refine heldTake 4 _ rfl (by kernel_rfl) (by kernel_rfl) (by kernel_rfl) (fun _ _ _ h => h) rfl hS (fun wy hy => by have h0 := blk_cell (j := 0) (v := .int .i64 (h.m : Nat)) hy rfl; first | (go_simp; done) | (go_simp; rfl) | rfl) ?_
    (try simp only [Act.put]); (try simp only [List.setIfInBounds_toArray, List.set_cons_zero, List.set_cons_succ])
    refine heldTake 5 _ rfl (by kernel_rfl) (by kernel_rfl) (by kernel_rfl) (fun _ _ _ h => h) rfl hS (fun wy hy => by first | (go_simp; done) | (go_simp; rfl) | rfl) ?_
    (try simp only [Act.put]); (try simp only [List.setIfInBounds_toArray, List.set_cons_zero, List.set_cons_succ])
    refine heldTake 6 _ rfl (by kernel_rfl) (by kernel_rfl) (by kernel_rfl) (fun _ _ _ h => h) rfl hS (fun wy hy => by first | (go_simp; done) | (go_simp; rfl) | rfl) ?_
    (try simp only [Act.put]); (try simp only [List.setIfInBounds_toArray, List.set_cons_zero, List.set_cons_succ])
    refine heldTake 7 _ rfl (by kernel_rfl) (by kernel_rfl) (by kernel_rfl) (fun _ _ _ h => h) rfl hS (fun wy hy => by first | (go_simp; done) | (go_simp; rfl) | rfl) ?_
    (try simp only [Act.put]); (try simp only [List.setIfInBounds_toArray, List.set_cons_zero, List.set_cons_succ])
    refine heldTake 8 _ rfl (by kernel_rfl) (by kernel_rfl) (by kernel_rfl) (fun _ _ _ h => h) rfl hS (fun wy hy => by first | (go_simp; done) | (go_simp; rfl) | rfl) ?_
    (try simp only [Act.put]); (try simp only [List.setIfInBounds_toArray, List.set_cons_zero, List.set_cons_succ])
    refine heldTake 9 _ rfl (by kernel_rfl) (by kernel_rfl) (by kernel_rfl) (fun _ _ _ h => h) rfl hS (fun wy hy => by first | (go_simp; done) | (go_simp; rfl) | rfl) ?_
    (try simp only [Act.put]); (try simp only [List.setIfInBounds_toArray, List.set_cons_zero, List.set_cons_succ])
    refine heldTake 10 _ rfl (by kernel_rfl) (by kernel_rfl) (by kernel_rfl) (fun _ _ _ h => h) rfl hS (fun wy hy => by have h0 := blk_cell (j := 2) (v := .int .u64 (h.n : Nat)) hy rfl; first | (go_simp; done) | (go_simp; rfl) | rfl) ?_
    (try simp only [Act.put]); (try simp only [List.setIfInBounds_toArray, List.set_cons_zero, List.set_cons_succ])
    refine heldTake 11 _ rfl (by kernel_rfl) (by kernel_rfl) (by kernel_rfl) (fun _ _ _ h => h) rfl hS (fun wy hy => by first | (go_simp; done) | (go_simp; rfl) | rfl) ?_
    (try simp only [Act.put]); (try simp only [List.setIfInBounds_toArray, List.set_cons_zero, List.set_cons_succ])
    refine heldStep 12 rfl (by kernel_rfl) (fun K hK => ?_)
    refine step_storeRow rfl rfl w.heap.size zv (vcs (.mk 3 false true h.n 0 ⟨#[]⟩ [] ⟨0, 0, 0, []⟩ [] []) (.slice none 0 0) (.slice none 0 0) (.slice none 0 0)) 61 rfl rfl HR0.out HI3.out HZ3.out HA3.out ?_
    have hrk := row_kp w0.drew w.heap.size (vcs (.mk 3 false true h.n 0 ⟨#[]⟩ [] ⟨0, 0, 0, []⟩ [] []) (.slice none 0 0) (.slice none 0 0) (.slice none 0 0))
    refine (Hid.out hK) _ _ ((hrk.block _ (blk_lt hS) (by have := HGL.out; omega)).trans hS) (fun hS4 => ?_)
    clear hK K hS
    (try simp only [Act.put]); (try simp only [List.setIfInBounds_toArray, List.set_cons_zero, List.set_cons_succ])
    refine heldDone (by kernel_rfl) ?_
    clear hS4
    go_wp2_with fail
    exact bodyPost_ret (end_leaf rfl (row_same (w := w0.drew) HR0.out) rfl) rfl (LeafO.mk HRL.out (HTT.out _) (HB0.out.drew.trans (hrk.below HB0.out.size (fun q e => by omega))) (plain_nos _ _ _ (tis_tbd (HTT.out w)) rfl rfl rfl))
  have g1 : ((h.m : Int) == 1) = false := beq_eq_false_iff_ne.2 (by omega)
  by_cases hm2 : h.m = 2
  · as_aux_lemma =>
    have g2 : ((h.m : Int) == 2) = true := beq_iff_eq.2 (by omega)
    have HRL : Hid (rleaf h y = .mk 6 false false 0 0 ⟨#[]⟩ y ⟨0, 0, 0, []⟩ [] []) := by show _ = _; unfold rleaf; rw [if_neg (by omega), if_pos hm2]
    clear hm hm1 hm2
    go_wp2_with fail
    refine (clone_any w0 _ y (HBB.out.move (keep_below HB0.out)) hyl).mono ?_
    rintro e w1 ⟨v1, rfl, ho1, hb1⟩
    obtain ⟨a1, k1, hv1⟩ := own_slice8 ho1
    subst hv1
    have HR1 : Hid (w1.heap[w.heap.size]? = some (.cells zv 61 (0, 0))) := (hb1.block _ (blk_lt HR0.out)).trans HR0.out
    have HB1 : Hid (Below w.heap.size w w1) := HB0.out.trans (hb1.mono HB0.out.size)
    have hrk := row_kp w1 w.heap.size (vcs (.mk 6 false false 0 0 ⟨#[]⟩ y ⟨0, 0, 0, []⟩ [] []) (.slice a1 y.length k1) (.slice none 0 0) (.slice none 0 0))
    have hws := blk_lt HR0.out
    have HTT : Hid (Tis (w1.setRow w.heap.size (vcs (.mk 6 false false 0 0 ⟨#[]⟩ y ⟨0, 0, 0, []⟩ [] []) (.slice a1 y.length k1) (.slice none 0 0) (.slice none 0 0))) (fun q => q < w.heap.size) (.mk 6 false false 0 0 ⟨#[]⟩ y ⟨0, 0, 0, []⟩ [] []) (vcs (.mk 6 false false 0 0 ⟨#[]⟩ y ⟨0, 0, 0, []⟩ [] []) (.slice a1 y.length k1) (.slice none 0 0) (.slice none 0 0))) :=
      Tis.mk _ _ _ _ (leaf_tbd (by show (0 : Nat) < _; decide) (by show (0 : Nat) < _; decide) (by show (ByteArray.mk #[]).size ≤ _; decide) hyl rfl) (BSl.own (hrk.owns ho1 (fun q hq e => by have := ho1.lt q hq; omega)) HBY.out) (fun _ q hq e => by have := ho1.lt q hq; omega) ⟨⟨none, 0, rfl, ⟨Nat.le_refl _, fun _ => rfl⟩, .inl rfl⟩, by show (0 : Nat) ≤ _; decide, fun x hx => (by cases hx)⟩ (fun h => absurd rfl h) (fun _ => #[]) none 0 rfl ⟨Nat.le_refl _, fun _ => rfl⟩ (by show (0 : Nat) ≤ _; decide) (fun i u hu => (by cases hu)) (.inl rfl)
    have HA3 := hide HTT.out.tin.all1
    have HNS : Hid (Nos (w1.setRow w.heap.size (vcs (.mk 6 false false 0 0 ⟨#[]⟩ y ⟨0, 0, 0, []⟩ [] []) (.slice a1 y.length k1) (.slice none 0 0) (.slice none 0 0))) w.heap.size (fun q => w.heap.size ≤ q ∧ q < (w1.setRow w.heap.size (vcs (.mk 6 false false 0 0 ⟨#[]⟩ y ⟨0, 0, 0, []⟩ [] []) (.slice a1 y.length k1) (.slice none 0 0) (.slice none 0 0))).heap.size) (.mk 6 false false 0 0 ⟨#[]⟩ y ⟨0, 0, 0, []⟩ [] []) (vcs (.mk 6 false false 0 0 ⟨#[]⟩ y ⟨0, 0, 0, []⟩ [] []) (.slice a1 y.length k1) (.slice none 0 0) (.slice none 0 0))) := by
      have ho := hrk.owns ho1 (fun q hq e => by have := ho1.lt q hq; omega)
      exact Nos.mk _ _ _ _ _ [] (fun _ _ => False) (tis_tbd HTT.out) HBY.out (own_mono ho (by omega)) (World.ownsRow_nil _ _ _ _) (by show (0 : Nat) ≤ _; decide) (fun s hs => by cases hs) (World.ownsRow_nil _ _ _ _) (by show (0 : Nat) ≤ _; decide) rfl (fun c hc => by cases hc) (fun q e => ⟨by have := (ho.lt q e).1; omega, (ho.lt q e).2⟩) (fun q e => by cases e) (fun q e => by cases e) (fun i hi => absurd hi (Nat.not_lt_zero i)) (fun i j hij hj => absurd hj (Nat.not_lt_zero j)) (fun i u c hu => by cases hu)
    have HI3 : Hid ((Tryz.prog.info? 61).map (·.size) = some (vcs (.mk 6 false false 0 0 ⟨#[]⟩ y ⟨0, 0, 0, []⟩ [] []) (.slice a1 y.length k1) (.slice none 0 0) (.slice none 0 0)).size) := infoV
    have HZ3 : Hid (zv.size = (vcs (.mk 6 false false 0 0 ⟨#[]⟩ y ⟨0, 0, 0, []⟩ [] []) (.slice a1 y.length k1) (.slice none 0 0) (.slice none 0 0)).size) := rfl
    clear ho1 hb1 hws
    go_wp2_with (refine wpList_storeRow rfl rfl w.heap.size zv (vcs (.mk 6 false false 0 0 ⟨#[]⟩ y ⟨0, 0, 0, []⟩ [] []) (.slice a1 y.length k1) (.slice none 0 0) (.slice none 0 0)) 61 rfl rfl HR1.out HI3.out HZ3.out HA3.out ?_)
    exact bodyPost_ret (end_leaf rfl (row_same HR1.out) rfl) rfl (LeafO.mk HRL.out HTT.out (HB1.out.trans (hrk.below HB1.out.size (fun q e => by omega))) HNS.out)
  have g2 : ((h.m : Int) == 2) = false := beq_eq_false_iff_ne.2 (by omega)
  by_cases hm3 : h.m = 3
  · as_aux_lemma =>
    have g3 : ((h.m : Int) == 3) = true := beq_iff_eq.2 (by omega)
    have hs3 := hs hm3
    subst hs3
    have HRL : Hid (rleaf h y = .mk 5 false false 0 0 (nstr y) [] ⟨0, 0, 0, []⟩ [] []) := by show _ = _; unfold rleaf; rw [if_neg (by omega), if_neg hm2, if_pos hm3]
    have HI3 : Hid ((Tryz.prog.info? 61).map (·.size) = some (vcs (.mk 5 false false 0 0 (nstr y) [] ⟨0, 0, 0, []⟩ [] []) (.slice none 0 0) (.slice none 0 0) (.slice none 0 0)).size) := infoV
    have HZ3 : Hid (zv.size = (vcs (.mk 5 false false 0 0 (nstr y) [] ⟨0, 0, 0, []⟩ [] []) (.slice none 0 0) (.slice none 0 0) (.slice none 0 0)).size) := rfl
    have HTT : Hid (∀ wz, Tis wz (fun q => q < w.heap.size) (.mk 5 false false 0 0 (nstr y) [] ⟨0, 0, 0, []⟩ [] []) (vcs (.mk 5 false false 0 0 (nstr y) [] ⟨0, 0, 0, []⟩ [] []) (.slice none 0 0) (.slice none 0 0) (.slice none 0 0))) := fun wz => plain_tis wz _ (leaf_tbd (by show (0 : Nat) < _; decide) (by show (0 : Nat) < _; decide) (by show (nstr y).size ≤ _; rw [nstr_size HBY.out]; exact hyl) (by show (0 : Nat) ≤ _; decide) rfl) rfl rfl rfl
    have HA3 := hide (HTT.out w0).tin.all1
    clear hm hm1 hm2 hm3
    go_wp2_with (refine wpList_storeRow rfl rfl w.heap.size zv (vcs (.mk 5 false false 0 0 (nstr y) [] ⟨0, 0, 0, []⟩ [] []) (.slice none 0 0) (.slice none 0 0) (.slice none 0 0)) 61 rfl rfl HR0.out HI3.out HZ3.out HA3.out ?_)
    exact bodyPost_ret (end_leaf rfl (row_same HR0.out) rfl) rfl (LeafO.mk HRL.out (HTT.out _) (HB0.out.trans ((row_kp _ _ _).below HB0.out.size (fun q e => by omega))) (plain_nos _ _ _ (tis_tbd (HTT.out w)) rfl rfl rfl))
  have g3 : ((h.m : Int) == 3) = false := beq_eq_false_iff_ne.2 (by omega)
  by_cases hi27 : h.i = 27
  · as_aux_lemma =>
    have g4 : ((h.i : Int) == 27) = true := beq_iff_eq.2 (by omega)
    have HRL : Hid (rleaf h y = .mk 4 false false 0 h.n ⟨#[]⟩ [] ⟨0, 0, 0, []⟩ [] []) := by show _ = _; unfold rleaf; rw [if_neg (by omega), if_neg hm2, if_neg hm3, if_pos hi27]
    have HI3 : Hid ((Tryz.prog.info? 61).map (·.size) = some (vcs (.mk 4 false false 0 h.n ⟨#[]⟩ [] ⟨0, 0, 0, []⟩ [] []) (.slice none 0 0) (.slice none 0 0) (.slice none 0 0)).size) := infoV
    have HZ3 : Hid (zv.size = (vcs (.mk 4 false false 0 h.n ⟨#[]⟩ [] ⟨0, 0, 0, []⟩ [] []) (.slice none 0 0) (.slice none 0 0) (.slice none 0 0)).size) := rfl
    have HTT : Hid (∀ wz, Tis wz (fun q => q < w.heap.size) (.mk 4 false false 0 h.n ⟨#[]⟩ [] ⟨0, 0, 0, []⟩ [] []) (vcs (.mk 4 false false 0 h.n ⟨#[]⟩ [] ⟨0, 0, 0, []⟩ [] []) (.slice none 0 0) (.slice none 0 0) (.slice none 0 0))) := fun wz => plain_tis wz _ (leaf_tbd (by show (0 : Nat) < _; decide) hn (by show (ByteArray.mk #[]).size ≤ _; decide) (by show (0 : Nat) ≤ _; decide) rfl) rfl rfl rfl
    have HA3 := hide (HTT.out w0).tin.all1
    clear hm hm1 hm2 hm3 hi27
    go_wp2_with (refine wpList_storeRow rfl rfl w.heap.size zv (vcs (.mk 4 false false 0 h.n ⟨#[]⟩ [] ⟨0, 0, 0, []⟩ [] []) (.slice none 0 0) (.slice none 0 0) (.slice none 0 0)) 61 rfl rfl HR0.out HI3.out HZ3.out HA3.out ?_)
    exact bodyPost_ret (end_leaf rfl (row_same HR0.out) rfl) rfl (LeafO.mk HRL.out (HTT.out _) (HB0.out.trans ((row_kp _ _ _).below HB0.out.size (fun q e => by omega))) (plain_nos _ _ _ (tis_tbd (HTT.out w)) rfl rfl rfl))
  have g4 : ((h.i : Int) == 27) = false := beq_eq_false_iff_ne.2 (by omega)
  by_cases hi22 : h.i = 22
  · as_aux_lemma =>
    have g5 : ((h.i : Int) == 22) = true := beq_iff_eq.2 (by omega)
    have HRL : Hid (rleaf h y = .mk 1 false false 0 0 ⟨#[]⟩ [] ⟨0, 0, 0, []⟩ [] []) := by show _ = _; unfold rleaf; rw [if_neg (by omega), if_neg hm2, if_neg hm3, if_neg hi27, if_pos hi22]; rfl
    have HI3 : Hid ((Tryz.prog.info? 61).map (·.size) = some (vcs (.mk 1 false false 0 0 ⟨#[]⟩ [] ⟨0, 0, 0, []⟩ [] []) (.slice none 0 0) (.slice none 0 0) (.slice none 0 0)).size) := infoV
    have HZ3 : Hid (zv.size = (vcs (.mk 1 false false 0 0 ⟨#[]⟩ [] ⟨0, 0, 0, []⟩ [] []) (.slice none 0 0) (.slice none 0 0) (.slice none 0 0)).size) := rfl
    have HTT : Hid (∀ wz, Tis wz (fun q => q < w.heap.size) (.mk 1 false false 0 0 ⟨#[]⟩ [] ⟨0, 0, 0, []⟩ [] []) (vcs (.mk 1 false false 0 0 ⟨#[]⟩ [] ⟨0, 0, 0, []⟩ [] []) (.slice none 0 0) (.slice none 0 0) (.slice none 0 0))) := fun wz => plain_tis wz _ (leaf_tbd (by show (0 : Nat) < _; decide) (by show (0 : Nat) < _; decide) (by show (ByteArray.mk #[]).size ≤ _; decide) (by show (0 : Nat) ≤ _; decide) rfl) rfl rfl rfl
    have HA3 := hide (HTT.out w0).tin.all1
    clear hm hm1 hm2 hm3 hi27 hi22
    go_wp2_with (refine wpList_storeRow rfl rfl w.heap.size zv (vcs (.mk 1 false false 0 0 ⟨#[]⟩ [] ⟨0, 0, 0, []⟩ [] []) (.slice none 0 0) (.slice none 0 0) (.slice none 0 0)) 61 rfl rfl HR0.out HI3.out HZ3.out HA3.out ?_)
    exact bodyPost_ret (end_leaf rfl (row_same HR0.out) rfl) rfl (LeafO.mk HRL.out (HTT.out _) (HB0.out.trans ((row_kp _ _ _).below HB0.out.size (fun q e => by omega))) (plain_nos _ _ _ (tis_tbd (HTT.out w)) rfl rfl rfl))
  · as_aux_lemma =>
    have g5 : ((h.i : Int) == 22) = false := beq_eq_false_iff_ne.2 (by omega)
    have HD1 : Hid (decide (h.i = 21) = ((h.i : Int) == 21)) := by
      show _ = _
      rw [Bool.eq_iff_iff]
      simp
      omega
    have HRL : Hid (rleaf h y = .mk 2 ((h.i : Int) == 21) false 0 0 ⟨#[]⟩ [] ⟨0, 0, 0, []⟩ [] []) := by show _ = _; unfold rleaf; rw [if_neg (by omega), if_neg hm2, if_neg hm3, if_neg hi27, if_neg hi22, HD1.out]
    have HI3 : Hid ((Tryz.prog.info? 61).map (·.size) = some (vcs (.mk 2 ((h.i : Int) == 21) false 0 0 ⟨#[]⟩ [] ⟨0, 0, 0, []⟩ [] []) (.slice none 0 0) (.slice none 0 0) (.slice none 0 0)).size) := infoV
    have HZ3 : Hid (zv.size = (vcs (.mk 2 ((h.i : Int) == 21) false 0 0 ⟨#[]⟩ [] ⟨0, 0, 0, []⟩ [] []) (.slice none 0 0) (.slice none 0 0) (.slice none 0 0)).size) := rfl
    have HTT : Hid (∀ wz, Tis wz (fun q => q < w.heap.size) (.mk 2 ((h.i : Int) == 21) false 0 0 ⟨#[]⟩ [] ⟨0, 0, 0, []⟩ [] []) (vcs (.mk 2 ((h.i : Int) == 21) false 0 0 ⟨#[]⟩ [] ⟨0, 0, 0, []⟩ [] []) (.slice none 0 0) (.slice none 0 0) (.slice none 0 0))) := fun wz => plain_tis wz _ (leaf_tbd (by show (0 : Nat) < _; decide) (by show (0 : Nat) < _; decide) (by show (ByteArray.mk #[]).size ≤ _; decide) (by show (0 : Nat) ≤ _; decide) rfl) rfl rfl rfl
    have HA3 := hide (HTT.out w0).tin.all1
    clear hm hm1 hm2 hm3 hi27 hi22 HD1
    go_wp2_with (refine wpList_storeRow rfl rfl w.heap.size zv (vcs (.mk 2 ((h.i : Int) == 21) false 0 0 ⟨#[]⟩ [] ⟨0, 0, 0, []⟩ [] []) (.slice none 0 0) (.slice none 0 0) (.slice none 0 0)) 61 rfl rfl HR0.out HI3.out HZ3.out HA3.out ?_)
    exact bodyPost_ret (end_leaf rfl (row_same HR0.out) rfl) rfl (LeafO.mk HRL.out (HTT.out _) (HB0.out.trans ((row_kp _ _ _).below HB0.out.size (fun q e => by omega))) (plain_nos _ _ _ (tis_tbd (HTT.out w)) rfl rfl rfl))
end
section
open Go.RowKit Go
/-! ### A scope with several labels -/
/-- As Q; by a goto to a label: J of it. -/
def jumps (J : Nat → Act → World → Prop) (Q : Exit → Act → World → Prop) : Exit → Act → World → Prop
  | .goto l, a, w => J l a w
  | e, a, w => Q e a w
theorem jumps_ret (J : Nat → Act → World → Prop) (Q : Exit → Act → World → Prop) (a : Act) (w : World) : jumps J Q .ret a w = Q .ret a w := rfl
theorem jumps_mono {J J' : Nat → Act → World → Prop} {Q : Exit → Act → World → Prop} (h : ∀ l a w, J l a w → J' l a w) (e : Exit) (a : Act) (w : World) (hq : jumps J Q e a w) : jumps J' Q e a w := by
  cases e with
  | goto l => exact h l a w hq
  | normal => exact hq
  | exit id => exact hq
  | ret => exact hq
  | panic ch => exact hq
  | outgrown => exact hq
theorem wp_scope_many {P : Program} {a : Act} {w : World} {Q : Exit → Act → World → Prop} {c : Code} (J : Nat → Nat → Act → World → Prop) (r : Nat → Code)
    (hf : ∀ n l a w, J n l a w → findLabel c l = some (r l))
    (pass : ∀ n l a w, J n l a w → (r l).wp P (jumps (fun l' a' w' => ∃ m, m < n ∧ J m l' a' w') Q) a w)
    (first : c.wp P (jumps (fun l a w => ∃ n, J n l a w) Q) a w) : (Code.scope c).wp P Q a w := by
  intro b k cs
  have hg : ∀ n l a w, J n l a w → gotoIn l (.inScope c :: k) = some (.code (r l) :: .inScope c :: k) := fun n l a w h => by simp [gotoIn, hf n l a w h]
  have key : ∀ n l a w, J n l a w → ∃ e a' w', Q e a' w' ∧ Arrives P (lone (b.at a (.code (r l) :: .inScope c :: k)) cs w) b k cs e a' w' := by
    intro n
    induction n using Nat.strongRecOn with
    | _ n ih =>
      intro l a w hJ
      obtain ⟨e, a₁, w₁, hq, harr⟩ := pass n l a w hJ b (.inScope c :: k) cs
      cases e with
      | normal => exact ⟨.normal, a₁, w₁, hq, Steps.trans harr (.one step_inScope)⟩
      | exit id => exact ⟨.exit id, a₁, w₁, hq, fun k' hk => harr k' (by simp [exitTo, hk])⟩
      | goto l' =>
        obtain ⟨m, hlt, hJ'⟩ := hq
        obtain ⟨e₂, a₂, w₂, hq₂, harr₂⟩ := ih m hlt l' a₁ w₁ hJ'
        exact ⟨e₂, a₂, w₂, hq₂, .of_steps (harr _ (hg m l' a₁ w₁ hJ')) harr₂⟩
      | ret => exact ⟨_, a₁, w₁, hq, harr⟩
      | panic ch => exact ⟨_, a₁, w₁, hq, harr⟩
      | outgrown => exact ⟨_, a₁, w₁, hq, harr⟩
  obtain ⟨e, a₁, w₁, hq, harr⟩ := first b (.inScope c :: k) cs
  cases e with
  | normal => exact ⟨.normal, a₁, w₁, hq, .head step_scope (Steps.trans harr (.one step_inScope))⟩
  | exit id => exact ⟨.exit id, a₁, w₁, hq, fun k' hk => .head step_scope (harr k' (by simp [exitTo, hk]))⟩
  | goto l' =>
    obtain ⟨n, hJ'⟩ := hq
    obtain ⟨e₂, a₂, w₂, hq₂, harr₂⟩ := key n l' a₁ w₁ hJ'
    exact ⟨e₂, a₂, w₂, hq₂, .of_steps (.head step_scope (harr _ (hg n l' a₁ w₁ hJ'))) harr₂⟩
  | ret => exact ⟨_, a₁, w₁, hq, .of_steps (.one step_scope) harr⟩
  | panic ch => exact ⟨_, a₁, w₁, hq, .of_steps (.one step_scope) harr⟩
  | outgrown => exact ⟨_, a₁, w₁, hq, .of_steps (.one step_scope) harr⟩

/-! ### How far the machine goes -/
def mlw : Lab → Nat
  | .plain => 0
  | .name => 0
  | .done _ => 2
  | .inside => 1
/-- How far it still is at most. -/
def mmu (b : List Nat) (s : Mst) : Nat := 4 * (b.length - s.p) + 2 * s.st.length + mlw s.lab
/-- What holds wherever it stands. -/
structure Inv8 (b : List Nat) (d : Nat) (s : Mst) : Prop where
  p : s.p ≤ b.length
  d : s.st.length ≤ d
  k : ∀ x ∈ s.st, x.ks.length ≤ s.p ∧ x.n < 18446744073709551616 ∧ (x.k = 8 ∨ x.k = 9)
  t : ∀ x ∈ s.st.tail, x.is.length + 1 ≤ s.p ∧ 0 < x.n
  h : ∀ x, s.st.head? = some x → x.is.length ≤ s.p ∧ (s.lab = .inside ∨ 0 < x.n)
  o : ∀ v, s.lab = .done v → ∀ x, s.st.head? = some x → x.is.length + 1 ≤ s.p
  i : s.lab = .inside → s.st ≠ []
theorem Inv8.start (b : List Nat) (d : Nat) : Inv8 b d m0 := ⟨Nat.zero_le _, Nat.zero_le _, fun x hx => (by cases hx), fun x hx => (by cases hx), fun x hx => (by cases hx), fun v h => (by cases h), fun h => by cases h⟩
theorem Inv8.step {b : List Nat} {d : Nat} {s s' : Mst} (hb : ∀ p, (hrd (b.drop p)).n < 18446744073709551616) (h : Inv8 b d s) (hs : mstep b d s = .inl s') : Inv8 b d s' ∧ mmu b s' < mmu b s := by
  have hd' := ((mstep_deep (b := b) h.d (Nat.le_refl d)).1 s' hs).2
  obtain ⟨lab, p, st⟩ := s
  obtain ⟨ip, id, ik, it, ih, io, ii⟩ := h
  simp only at ip id ik it ih io ii
  have key : ∀ want full ks, rtake want full ks (b.drop p) = 0 → 0 < rused (b.drop p) ∧ p + rused (b.drop p) ≤ b.length := fun want full ks h1 => by
    obtain ⟨hl, -⟩ := rtake_look h1
    have h2 := rlook_pos hl
    have h3 := rlook_le hl
    rw [List.length_drop] at h3
    exact ⟨h2, by omega⟩
  have hbp := hb p
  cases lab with
  | plain =>
    unfold mstep at hs
    dsimp only at hs
    by_cases h0 : rtake 0 (decide (st.length = d)) [] (b.drop p) ≠ 0
    · rw [if_pos h0] at hs; cases hs
    rw [if_neg h0] at hs
    obtain ⟨u1, u2⟩ := key _ _ _ (Decidable.not_not.1 h0)
    have hall : ∀ x ∈ st, x.is.length + 1 ≤ p + rused (b.drop p) ∧ 0 < x.n := fun x hx => by
      cases st with
      | nil => cases hx
      | cons y q =>
        rcases List.mem_cons.1 hx with e | e
        · subst e
          have h1 := ih x rfl
          rcases h1.2 with h2 | h2
          · cases h2
          · exact ⟨by omega, h2⟩
        · have h1 := it x e
          exact ⟨by omega, h1.2⟩
    have hks : ∀ x ∈ st, x.ks.length ≤ p + rused (b.drop p) ∧ x.n < 18446744073709551616 ∧ (x.k = 8 ∨ x.k = 9) := fun x hx => by
      have h1 := ik x hx
      exact ⟨by omega, h1.2⟩
    by_cases m6 : (hrd (b.drop p)).m = 6
    · rw [if_pos m6] at hs
      injection hs with hs
      subst hs
      refine ⟨⟨u2, hd', hks, fun x hx => hall x (List.mem_of_mem_tail hx), fun x hx => ?_, fun v h => (by cases h), fun h => by cases h⟩, by simp only [mmu, mlw]; omega⟩
      have h1 := hall x (List.mem_of_mem_head? hx)
      exact ⟨by simp only; omega, .inr h1.2⟩
    rw [if_neg m6] at hs
    by_cases m4 : (hrd (b.drop p)).m = 4
    · rw [if_pos m4] at hs
      injection hs with hs
      subst hs
      refine ⟨⟨u2, hd', fun x hx => ?_, hall, fun x hx => ?_, fun v h => (by cases h), fun _ => by simp⟩, by simp only [mmu, mlw, List.length_cons]; omega⟩
      · rcases List.mem_cons.1 hx with e | e
        · subst e
          exact ⟨Nat.zero_le _, hbp, .inl rfl⟩
        · exact hks x e
      · injection hx with hx
        subst hx
        exact ⟨Nat.zero_le _, .inl rfl⟩
    rw [if_neg m4] at hs
    by_cases m5 : (hrd (b.drop p)).m = 5
    · rw [if_pos m5] at hs
      injection hs with hs
      subst hs
      refine ⟨⟨u2, hd', fun x hx => ?_, hall, fun x hx => ?_, fun v h => (by cases h), fun _ => by simp⟩, by simp only [mmu, mlw, List.length_cons]; omega⟩
      · rcases List.mem_cons.1 hx with e | e
        · subst e
          exact ⟨Nat.zero_le _, hbp, .inr rfl⟩
        · exact hks x e
      · injection hx with hx
        subst hx
        exact ⟨Nat.zero_le _, .inl rfl⟩
    rw [if_neg m5] at hs
    injection hs with hs
    subst hs
    refine ⟨⟨u2, hd', hks, fun x hx => hall x (List.mem_of_mem_tail hx), fun x hx => ?_, fun v h x hx => (hall x (List.mem_of_mem_head? hx)).1, fun h => by cases h⟩, by simp only [mmu, mlw]; omega⟩
    have h1 := hall x (List.mem_of_mem_head? hx)
    exact ⟨by simp only; omega, .inr h1.2⟩
  | name =>
    unfold mstep at hs
    dsimp only at hs
    by_cases h0 : rtake 2 (decide (st.length = d)) [] (b.drop p) ≠ 0
    · rw [if_pos h0] at hs; cases hs
    rw [if_neg h0] at hs
    obtain ⟨u1, u2⟩ := key _ _ _ (Decidable.not_not.1 h0)
    have hall : ∀ x ∈ st, x.is.length + 1 ≤ p + rused (b.drop p) ∧ 0 < x.n := fun x hx => by
      cases st with
      | nil => cases hx
      | cons y q =>
        rcases List.mem_cons.1 hx with e | e
        · subst e
          have h1 := ih x rfl
          rcases h1.2 with h2 | h2
          · cases h2
          · exact ⟨by omega, h2⟩
        · have h1 := it x e
          exact ⟨by omega, h1.2⟩
    injection hs with hs
    subst hs
    refine ⟨⟨u2, hd', fun x hx => ?_, fun x hx => hall x (List.mem_of_mem_tail hx), fun x hx => ?_, fun v h x hx => (hall x (List.mem_of_mem_head? hx)).1, fun h => by cases h⟩, by simp only [mmu, mlw]; omega⟩
    · have h1 := ik x hx
      exact ⟨by simp only; omega, h1.2⟩
    · have h1 := hall x (List.mem_of_mem_head? hx)
      exact ⟨by simp only; omega, .inr h1.2⟩
  | done v =>
    cases st with
    | nil => cases hs
    | cons y q =>
      injection hs with hs
      subst hs
      have h1 := io v rfl y rfl
      have h2 := ik y (List.mem_cons_self ..)
      refine ⟨⟨ip, hd', fun x hx => ?_, it, fun x hx => ?_, fun v h => (by cases h), fun _ => by simp⟩, by simp only [mmu, mlw, List.length_cons]; omega⟩
      · rcases List.mem_cons.1 hx with e | e
        · subst e
          exact ⟨h2.1, by simp only; omega, h2.2.2⟩
        · exact ik x (List.mem_cons_of_mem _ e)
      · injection hx with hx
        subst hx
        exact ⟨by simp only [List.length_append, List.length_singleton]; omega, .inl rfl⟩
  | inside =>
    cases st with
    | nil => cases hs
    | cons y q =>
      unfold mstep at hs
      dsimp only at hs
      by_cases hn : y.n = 0
      · rw [if_pos hn] at hs
        injection hs with hs
        subst hs
        refine ⟨⟨ip, hd', fun x hx => ik x (List.mem_cons_of_mem _ hx), fun x hx => it x (List.mem_of_mem_tail hx), fun x hx => ?_, fun v h x hx => (it x (List.mem_of_mem_head? hx)).1, fun h => by cases h⟩, by simp only [mmu, mlw, List.length_cons]; omega⟩
        have h1 := it x (List.mem_of_mem_head? hx)
        exact ⟨by simp only; omega, .inr h1.2⟩
      rw [if_neg hn] at hs
      by_cases h8 : y.k = 8
      · rw [if_pos h8] at hs
        injection hs with hs
        subst hs
        refine ⟨⟨ip, hd', ik, it, fun x hx => ?_, fun v h => (by cases h), fun h => by cases h⟩, by simp only [mmu, mlw, List.length_cons]; omega⟩
        have h1 := ih x hx
        injection hx with hx
        subst hx
        exact ⟨h1.1, .inr (Nat.pos_of_ne_zero hn)⟩
      rw [if_neg h8] at hs
      by_cases h0 : rtake 1 (decide ((y :: q).length = d)) y.ks (b.drop p) ≠ 0
      · rw [if_pos h0] at hs; cases hs
      rw [if_neg h0] at hs
      obtain ⟨u1, u2⟩ := key _ _ _ (Decidable.not_not.1 h0)
      injection hs with hs
      subst hs
      have h2 := ik y (List.mem_cons_self ..)
      refine ⟨⟨u2, hd', fun x hx => ?_, fun x hx => ?_, fun x hx => ?_, fun v h => (by cases h), fun h => by cases h⟩, by simp only [mmu, mlw, List.length_cons]; omega⟩
      · rcases List.mem_cons.1 hx with e | e
        · subst e
          exact ⟨by simp only [List.length_append, List.length_singleton]; omega, h2.2⟩
        · have h1 := ik x (List.mem_cons_of_mem _ e)
          exact ⟨by simp only; omega, h1.2⟩
      · have h1 := it x hx
        exact ⟨by simp only; omega, h1.2⟩
      · have h1 := ih y rfl
        injection hx with hx
        subst hx
        exact ⟨by simp only; omega, .inr (Nat.pos_of_ne_zero hn)⟩
theorem mrun_ends {b : List Nat} {d : Nat} (hb : ∀ p, (hrd (b.drop p)).n < 18446744073709551616) : ∀ (n : Nat) {s : Mst}, Inv8 b d s → mmu b s < n → ∃ r, mrun b d n s = some r
  | 0, _, _, h => by omega
  | n + 1, s, hi, h => by
    cases hs : mstep b d s with
    | inl s' =>
      obtain ⟨h1, h2⟩ := hi.step hb hs
      rw [mrun_next hs]
      exact mrun_ends hb n h1 (by omega)
    | inr r => exact ⟨r, mrun_end hs⟩
end
section
open Go.RowKit Go
theorem lbytes_d8 {l : Lk} {b : List Nat} (hb : ∀ x ∈ b, x < 256) (e : lbytes l = b) : ∀ x ∈ l.d, x < 256 := fun x hx => hb x (by
  rw [← e]
  unfold lbytes
  split
  · simp [hx]
  · simp [hx])
theorem lok_lkb8 {l : Lk} (h : lok l) (hd : ∀ x ∈ l.d, x < 256) : Lkb l := by
  have hk := lok_okd h
  unfold okd at hk
  refine ⟨?_, by omega, hd, by omega⟩
  rcases h with h | h
  · omega
  · omega
theorem end_run {wx : World} {R : Nat} {c : Array Value} {e : Int} {tmps : Array Value} (hn : c.size = 13) (hr : wx.heap[R]? = some (.cells c 61 (0, 0))) (hp : tmps.getD 2 undef = .pointer (some ⟨R, 0, none⟩)) (he : tmps.getD 3 undef = .int .i64 e) : (results Tryz.f22 tmps).run Tryz.prog wx = .ok (.tuple #[.agg c, .int .i64 e]) wx := by
  have h1 := run_loadVar_row (P := Tryz.prog) wx R 61 61 c (0, 0) _ hr Tryz.underlying61 rfl (by rw [hn]; exact infoV)
  refine (results_cell_tmp rfl _ _ _).trans ?_
  rw [hp, he]
  simp [asAddr, h1, Result.andThen]
theorem ics_no (h : HR) {vb : Value} (s : ByteArray) (l : Lk) (h1 : ∀ x, vb ≠ .int .u8 x) (j : Nat) (x : Int) : (ics h vb s l)[j]? ≠ some (.int .u8 x) := by
  intro h
  have hj := (Array.getElem?_eq_some_iff.1 h).1
  have hj2 : j < 11 := hj
  have : j = 0 ∨ j = 1 ∨ j = 2 ∨ j = 3 ∨ j = 4 ∨ j = 5 ∨ j = 6 ∨ j = 7 ∨ j = 8 ∨ j = 9 ∨ j = 10 := by omega
  rcases this with rfl | rfl | rfl | rfl | rfl | rfl | rfl | rfl | rfl | rfl | rfl <;> simp [ics] at h
  exact h1 x h
theorem bsl_not8 {w : World} {v : Value} {y : List Nat} (h : BSl w v y) (x : Int) : v ≠ .int .u8 x := by
  obtain ⟨⟨a, c, hv, _⟩, _⟩ := h
  rw [hv]
  intro e
  cases e
/-- A block of the caller's frame is written over. -/
theorem Mac.kp {w w' : World} {lo M : Nat} {vB : Value} {b : List Nat} {d p : Nat} {vo : Value} {st : List Nst} {C : List (Array Value)} {K I : Nat → Value} {L : Nat → List (Array Value)} (h : Mac w lo M vB b d p vo st C K I L) {g : Nat} (hg : g < lo) (hM : g ≠ M) (hB : ∀ q, vB.ownBlock = some q → q ≠ g) (hk : Kp (fun q => q = g) w w') : Mac w' lo M vB b d p vo st C K I L :=
  ⟨(hk.block _ (blk_lt h.m) (fun e => hM e.symm)).trans h.m, hk.bsl h.b hB, h.q, h.o.kp (hk.mono (fun q _ e => by show q < lo; omega)), h.lm, Nat.le_trans h.l hk.size, by obtain ⟨m, h2⟩ := h.y; exact ⟨m, h2.kp (hk.mono (fun q _ e => by show q < lo; omega))⟩⟩
/-- Where run stands: the machine, the item's block, the value's block. -/
structure Rex (w0 : World) (M : Nat) (vB : Value) (b : List Nat) (d : Nat) (s : Mst) (w : World) (vo : Value) (C : List (Array Value)) (K I : Nat → Value) (L : Nat → List (Array Value)) (ci cv : Array Value) : Prop where
  m : Mac w (w0.heap.size + 3) M vB b d s.p vo s.st.reverse C K I L
  i : w.heap[w0.heap.size + 1]? = some (.cells ci 89 (0, 0))
  iz : ci.size = 11
  i8 : ∀ (j : Nat) (x : Int), ci[j]? ≠ some (.int .u8 x)
  v : w.heap[w0.heap.size + 2]? = some (.cells cv 61 (0, 0))
  vz : cv.size = 13
  t : ∀ v, s.lab = .done v → Tio w (w0.heap.size + 3) (fun r => r < w0.heap.size + 3) vo s.st.reverse K I L v cv
  r : w.heap[w0.heap.size]? = some (.cells zv 61 (0, 0))
  k : Kp (fun q => q = M) w0 w
def Run8 (w0 : World) (M : Nat) (vB : Value) (b : List Nat) (d : Nat) (s : Mst) (w : World) : Prop := Inv8 b d s ∧ ∃ vo C K I L ci cv, Rex w0 M vB b d s w vo C K I L ci cv
def Lb8 : Nat → Lab → Prop
  | 0, .plain => True
  | 1, .name => True
  | 2, .inside => True
  | 3, .done _ => True
  | _, _ => False
/-- What run tells. -/
def RunP (w0 : World) (M : Nat) (vB : Value) (d : Nat) (r : Res) (e : Ending) (w' : World) : Prop := Kp (fun q => q = M) w0 w' ∧ ∃ c vo, e = .returned (.tuple #[.agg c, .int .i64 (r.e : Nat)]) ∧ w'.heap[M]? = some (.cells #[vB, .int .i64 (r.p : Nat), .int .i64 (d : Nat), vo] 74 (0, 0)) ∧ Tis w' (fun q => q < w0.heap.size) r.v c ∧ Nos w' w0.heap.size (fun q => w0.heap.size ≤ q ∧ q < w'.heap.size) r.v c
theorem RunP.mk {w0 : World} {M : Nat} {vB : Value} {d : Nat} {r r' : Res} {w' : World} {c : Array Value} {vo : Value} (hr : r' = r) (hk : Kp (fun q => q = M) w0 w') (hm : w'.heap[M]? = some (.cells #[vB, .int .i64 (r.p : Nat), .int .i64 (d : Nat), vo] 74 (0, 0))) (ht : Tis w' (fun q => q < w0.heap.size) r.v c) (hn : Nos w' w0.heap.size (fun q => w0.heap.size ≤ q ∧ q < w'.heap.size) r.v c) : RunP w0 M vB d r' (.returned (.tuple #[.agg c, .int .i64 (r.e : Nat)])) w' := by
  subst hr
  exact ⟨hk, c, vo, rfl, hm, ht, hn⟩
theorem tz8_tis (w : World) (S : Nat → Prop) : Tis w S (tz8 0) zv := plain_tis w S (leaf_tbd (by show (0 : Nat) < _; decide) (by show (0 : Nat) < _; decide) (by show (ByteArray.mk #[]).size ≤ _; decide) (by show (0 : Nat) ≤ _; decide) rfl) rfl rfl rfl
theorem zv_all8 : zv.all (·.oneCell') = true := (tz8_tis (default : World) (fun _ => False)).tin.all1
/-- A fault: nothing but the answer is written. -/
theorem Rex.bad {w0 : World} {M : Nat} {vB : Value} {b : List Nat} {d : Nat} {p : Nat} {w : World} {vo : Value} {st : List Nst} {C : List (Array Value)} {K I : Nat → Value} {L : Nat → List (Array Value)} {e : Nat} {r : Res} (hm : Mac w (w0.heap.size + 3) M vB b d p vo st C K I L) (hM : M < w0.heap.size) (hk : Kp (fun q => q = M) w0 w) (hr : r = ⟨e, p, tz8 0⟩) : RunP w0 M vB d r (.returned (.tuple #[.agg zv, .int .i64 (e : Nat)])) (w.setRow w0.heap.size zv) := by
  have hkr := row_kp w w0.heap.size zv
  refine RunP.mk (r := ⟨e, p, tz8 0⟩) hr (hk.trans hkr (fun q hq e => by omega)) ((hkr.block _ (blk_lt hm.m) (by omega)).trans hm.m) (tz8_tis _ _) (plain_nos _ _ _ (tis_tbd (tz8_tis w (fun _ => False))) rfl rfl rfl)
/-- A new leaf in hand. -/
theorem tio_leaf {w w' : World} {lo M : Nat} {vB : Value} {b : List Nat} {d p : Nat} {vo : Value} {st : List Nst} {C : List (Array Value)} {K I : Nat → Value} {L : Nat → List (Array Value)} (h : Mac w lo M vB b d p vo st C K I L) (hb : Below w.heap.size w w') {t : Tv} {c : Array Value} (ht : Tis w' (fun q => q < w.heap.size) t c) (hn : Nos w' w.heap.size (fun q => w.heap.size ≤ q ∧ q < w'.heap.size) t c) : Tio w' lo (fun r => r < lo) vo st K I L t c := by
  obtain ⟨m, hy⟩ := h.y
  have hz : m ≤ w.heap.size := by obtain ⟨_, _, _, h9⟩ := hy; exact h9.z
  exact ⟨ht.mono (fun q hq => h.o.live hq), w.heap.size, (hy.up hz (Nat.le_refl _)).next hb, hn.mono h.l (fun q e => ⟨e.1, e.2, fun hl => by have := h.o.live hl; omega⟩)⟩
theorem tio_plain {w : World} {lo M : Nat} {vB : Value} {b : List Nat} {d p : Nat} {vo : Value} {st : List Nst} {C : List (Array Value)} {K I : Nat → Value} {L : Nat → List (Array Value)} (h : Mac w lo M vB b d p vo st C K I L) {t : Tv} (hb : Tbd t) (hy : t.y = []) (hk : t.ks = []) (hi : t.is = []) : Tio w lo (fun r => r < lo) vo st K I L t (vcs t (.slice none 0 0) (.slice none 0 0) (.slice none 0 0)) := by
  obtain ⟨m, h2⟩ := h.y
  exact ⟨plain_tis _ _ hb hy hk hi, m, h2, plain_nos _ _ _ hb hy hk hi⟩
/-- What a call that writes at lo and on and at the machine leaves. -/
theorem Rex.keep {w0 : World} {M : Nat} {w w' : World} {g : Nat} {o : Obj} (hM : M < w0.heap.size) (hk : Kp (fun q => q = M ∨ w0.heap.size + 3 ≤ q) w w') (hg : w.heap[g]? = some o) (h1 : w0.heap.size ≤ g) (h2 : g < w0.heap.size + 3) : w'.heap[g]? = some o :=
  (hk.block _ (blk_lt hg) (fun e => by omega)).trans hg
theorem Rex.kp {w0 : World} {M : Nat} {w w' : World} (h : Kp (fun q => q = M) w0 w) (hk : Kp (fun q => q = M ∨ w0.heap.size + 3 ≤ q) w w') : Kp (fun q => q = M) w0 w' := h.trans hk (fun q hq e => by omega)
theorem kp_eq {w w' : World} {M lo : Nat} (h : Kp (fun q => q = M) w w') : Kp (fun q => q = M ∨ lo ≤ q) w w' := h.mono (fun _ _ e => .inl e)
theorem kp_lo {w w' : World} {M lo : Nat} (h : Kp (fun q => lo ≤ q) w w') : Kp (fun q => q = M ∨ lo ≤ q) w w' := h.mono (fun _ _ e => .inr e)
theorem Kp.row8 {w0 : World} {M : Nat} {w : World} (h : Kp (fun q => q = M) w0 w) (j : Nat) (c : Array Value) : Kp (fun q => q = M) w0 (w.setRow (w0.heap.size + j) c) := h.trans (row_kp _ _ _) (fun q hq e => by omega)
theorem lnk_tbd {b : List Nat} (hb : ∀ x ∈ b, x < 256) (h : (lparse b).2 = 0) (k : Int) : Tbd (.mk k false false 0 0 ⟨#[]⟩ [] (lparse b).1 [] []) := by
  obtain ⟨h1, h2⟩ := lparse_back (l := (lparse b).1) hb (by rw [← h])
  have hl := lok_lkb8 h1 (lbytes_d8 hb h2)
  exact ⟨by show (0 : Nat) < _; decide, by show (0 : Nat) < _; decide, by show (ByteArray.mk #[]).size ≤ _; decide, by show (0 : Nat) ≤ _; decide, hl, by have h3 := lok_okd h1; unfold okd at h3; show (lparse b).1.d.length ≤ _; omega⟩
theorem rlook_name {r : List Nat} (h : rlook 2 r = 0) : (hrd r).m = 2 ∧ (rbody r).head? = some 0 ∧ (lparse (rbody r).tail).2 = 0 := by
  unfold rlook at h
  by_cases h20 : (hrd r).e = 20
  · rw [if_pos h20] at h; cases h
  rw [if_neg h20] at h
  by_cases h2 : (hrd r).e ≠ 0 ∨ (hrd r).i = 31
  · rw [if_pos h2] at h; cases h
  rw [if_neg h2] at h
  by_cases h3 : ((hrd r).m = 2 ∨ (hrd r).m = 3) ∧ r.length - (hrd r).u < (hrd r).n
  · rw [if_pos h3] at h; cases h
  rw [if_neg h3] at h
  by_cases h4 : rmay (hrd r) (rbody r) = false ∨ rfit 2 (hrd r) (rbody r) = false
  · rw [if_pos h4] at h; cases h
  have h5 : rfit 2 (hrd r) (rbody r) ≠ false := fun e => h4 (.inr e)
  unfold rfit at h5
  rw [if_neg (by decide), if_pos rfl] at h5
  simpa using h5
theorem mrun_pos {b : List Nat} {d n : Nat} {s : Mst} {r : Res} (h : mrun b d n s = some r) : ∃ m, n = m + 1 := by
  cases n with
  | zero => cases h
  | succ m => exact ⟨m, rfl⟩
theorem Rex.next {w0 : World} {M : Nat} {vB : Value} {b : List Nat} {d : Nat} {s : Mst} {w w' : World} {vo : Value} {C : List (Array Value)} {K I : Nat → Value} {L : Nat → List (Array Value)} {ci cv : Array Value} (h : Rex w0 M vB b d s w vo C K I L ci cv) (hb : Below w.heap.size w w') : Rex w0 M vB b d s w' vo C K I L ci cv :=
  ⟨h.m.next hb, (hb.block _ (blk_lt h.i)).trans h.i, h.iz, h.i8, (hb.block _ (blk_lt h.v)).trans h.v, h.vz, fun v hv => (h.t v hv).next hb, (hb.block _ (blk_lt h.r)).trans h.r, h.k.trans (Kp.of_below (S := fun q => q = M) hb) (fun _ _ e => e)⟩
/-- Behind a call that has changed what is open. -/
theorem Rex.call {w0 : World} {M : Nat} {vB : Value} {b : List Nat} {d : Nat} {s : Mst} {w w' : World} {vo : Value} {C : List (Array Value)} {K I : Nat → Value} {L : Nat → List (Array Value)} {ci cv : Array Value} (h : Rex w0 M vB b d s w vo C K I L ci cv) (hM : M < w0.heap.size) (hk : Kp (fun q => q = M ∨ w0.heap.size + 3 ≤ q) w w') {lab : Lab} (hl : ∀ v, lab ≠ .done v) {p : Nat} {st : List Nst} {vo' : Value} {C' : List (Array Value)} {K' I' : Nat → Value} {L' : Nat → List (Array Value)} (hm : Mac w' (w0.heap.size + 3) M vB b d p vo' st.reverse C' K' I' L') : Rex w0 M vB b d ⟨lab, p, st⟩ w' vo' C' K' I' L' ci cv :=
  ⟨hm, Rex.keep hM hk h.i (by omega) (by omega), h.iz, h.i8, Rex.keep hM hk h.v (by omega) (by omega), h.vz, fun v hv => absurd hv (hl v), Rex.keep hM hk h.r (by omega) (by omega), Rex.kp h.k hk⟩
theorem Rex.lab {w0 : World} {M : Nat} {vB : Value} {b : List Nat} {d p : Nat} {st : List Nst} {lab lab' : Lab} {w : World} {vo : Value} {C : List (Array Value)} {K I : Nat → Value} {L : Nat → List (Array Value)} {ci cv : Array Value} (h : Rex w0 M vB b d ⟨lab, p, st⟩ w vo C K I L ci cv) (hl : ∀ v, lab' ≠ .done v) : Rex w0 M vB b d ⟨lab', p, st⟩ w vo C K I L ci cv :=
  ⟨h.m, h.i, h.iz, h.i8, h.v, h.vz, fun v hv => absurd hv (hl v), h.r, h.k⟩
/-- The value's block is written over. -/
theorem Rex.put {w0 : World} {M : Nat} {vB : Value} {b : List Nat} {d p : Nat} {st : List Nst} {lab : Lab} {w : World} {vo : Value} {C : List (Array Value)} {K I : Nat → Value} {L : Nat → List (Array Value)} {ci cv : Array Value} (h : Rex w0 M vB b d ⟨lab, p, st⟩ w vo C K I L ci cv) (hM : M < w0.heap.size) (hB : ∀ q, vB.ownBlock = some q → q < w0.heap.size ∧ q ≠ M) {c : Array Value} {t : Tv} (ht : Tio w (w0.heap.size + 3) (fun r => r < w0.heap.size + 3) vo st.reverse K I L t c) : Rex w0 M vB b d ⟨.done t, p, st⟩ (w.setRow (w0.heap.size + 2) c) vo C K I L ci c := by
  have hkr := row_kp w (w0.heap.size + 2) c
  refine ⟨h.m.kp (by omega) (by omega) (fun q hq e => by have := hB q hq; omega) hkr, (hkr.block _ (blk_lt h.i) (by omega)).trans h.i, h.iz, h.i8, row_same h.v, ht.1.tin.size13, fun v hv => ?_, (hkr.block _ (blk_lt h.r) (by omega)).trans h.r, h.k.row8 2 c⟩
  injection hv with hv
  subst hv
  exact ht.kp (hkr.mono (fun r _ e => by show r < _; omega))
/-- Behind take and the store of its item. -/
theorem Rex.took {w0 : World} {M : Nat} {vB : Value} {b : List Nat} {d : Nat} {s : Mst} {w w1 : World} {vo : Value} {C : List (Array Value)} {K I : Nat → Value} {L : Nat → List (Array Value)} {ci cv : Array Value} (h : Rex w0 M vB b d s w vo C K I L ci cv) (hM : M < w0.heap.size) (hB : ∀ q, vB.ownBlock = some q → q < w0.heap.size ∧ q ≠ M) {want : Nat} {ks : List ByteArray} {c : Array Value} {F : Bool} (hk : Kp (fun q => q = M) w w1)
    (hbad : rtake want F ks (b.drop s.p) ≠ 0 → Mac w1 (w0.heap.size + 3) M vB b d s.p vo s.st.reverse C K I L)
    (hgood : rtake want F ks (b.drop s.p) = 0 → Mac w1 (w0.heap.size + 3) M vB b d (s.p + rused (b.drop s.p)) vo s.st.reverse C K I L ∧ ∃ vb, c = ics (hrd (b.drop s.p)) vb (rtext (hrd (b.drop s.p)) (rbody (b.drop s.p)) ⟨#[]⟩) (rlink want (hrd (b.drop s.p)) (rbody (b.drop s.p)) ⟨0, 0, 0, []⟩) ∧ BSl w1 vb (rbody (b.drop s.p))) :
    w1.heap[w0.heap.size + 1]? = some (.cells ci 89 (0, 0)) ∧ (w1.setRow (w0.heap.size + 1) c).heap[w0.heap.size]? = some (.cells zv 61 (0, 0)) ∧ Kp (fun q => q = M) w0 (w1.setRow (w0.heap.size + 1) c) ∧
    (rtake want F ks (b.drop s.p) ≠ 0 → Mac (w1.setRow (w0.heap.size + 1) c) (w0.heap.size + 3) M vB b d s.p vo s.st.reverse C K I L) ∧
    (rtake want F ks (b.drop s.p) = 0 → ∃ vb, c = ics (hrd (b.drop s.p)) vb (rtext (hrd (b.drop s.p)) (rbody (b.drop s.p)) ⟨#[]⟩) (rlink want (hrd (b.drop s.p)) (rbody (b.drop s.p)) ⟨0, 0, 0, []⟩) ∧ BSl (w1.setRow (w0.heap.size + 1) c) vb (rbody (b.drop s.p)) ∧ Rex w0 M vB b d ⟨.plain, s.p + rused (b.drop s.p), s.st⟩ (w1.setRow (w0.heap.size + 1) c) vo C K I L c cv) := by
  have hkr := row_kp w1 (w0.heap.size + 1) c
  have hk' : Kp (fun q => q = M ∨ w0.heap.size + 3 ≤ q) w w1 := kp_eq hk
  have hi1 := Rex.keep hM hk' h.i (by omega) (by omega)
  have hv1 := Rex.keep hM hk' h.v (by omega) (by omega)
  have hr1 := Rex.keep hM hk' h.r (by omega) (by omega)
  have hk1 : Kp (fun q => q = M) w0 (w1.setRow (w0.heap.size + 1) c) := (Rex.kp h.k hk').row8 1 c
  have hr2 := (hkr.block _ (blk_lt hr1) (by omega)).trans hr1
  refine ⟨hi1, hr2, hk1, fun hne => (hbad hne).kp (by omega) (by omega) (fun q hq e => by have := hB q hq; omega) hkr, fun h0 => ?_⟩
  obtain ⟨hm, vb, hc, hvb⟩ := hgood h0
  refine ⟨vb, hc, bsl_kp8 hvb hi1 h.i8 hkr, hm.kp (by omega) (by omega) (fun q hq e => by have := hB q hq; omega) hkr, row_same hi1, by rw [hc]; rfl, by rw [hc]; exact ics_no _ _ _ (bsl_not8 hvb), (hkr.block _ (blk_lt hv1) (by omega)).trans hv1, h.vz, fun v hv => (by cases hv), hr2, hk1⟩
theorem infoL8 : (Tryz.prog.info? 57).map (·.size) = some 4 := by kernel_rfl
theorem exec_lkAt {o : Oper} {a : Act} {p : Operand} {g off : Nat} {cs : Array Value} {w : World} (ho : o.op = .load 57 p) (hp : a.eval p = .pointer (some ⟨g, off, none⟩)) (hn : cs.size = 4) (hc : ∀ j u, cs[j]? = some u → w.cell? ⟨g, off + j, none⟩ = some u) : (execOp a.eval o).run Tryz.prog w = .ok (.value (.agg cs)) w := by
  unfold execOp
  have hr : (Instr.loadAt 57 (.pointer (some ⟨g, off, none⟩))).run Tryz.prog w = .ok (.agg cs) w := by
    have hl := run_loadCells_list (P := Tryz.prog) (w := w) ⟨g, off, none⟩ cs.toList (fun j v hv => by rw [addr_add]; exact hc j v (by simpa using hv))
    have hi := infoL8
    simp only [Instr.loadAt, Instr.sureAddr, Sem.run_bind, Sem.run_pure, Result.andThen]
    cases hq : Tryz.prog.info? 57 with
    | none => simp [hq] at hi
    | some i =>
      have hs : i.size = 4 := by simpa [hq] using hi
      have hn2 : cs.toList.length = 4 := by simpa using hn
      rw [hn2] at hl
      have ha : (isAgg 57).run Tryz.prog w = .ok true w := by
        unfold isAgg
        rw [Sem.run_bind, run_underlying Tryz.underlying57 w]
        simp
      simp [loadVar, ha, sizeOf, typeInfo, hq, hs, hl]
  simp only [ho, Sem.run_bind, hp, hr, Result.andThen_ok]
  rfl
end
section
open Go.RowKit Go
/-! ### How great a tree is that is read -/
def nstw (x : Nst) : Nat := 1 + x.ks.length + (x.ks.map fun k => k.size / 64).sum + tmuchL x.is
def labw : Lab → Nat
  | .done v => tmuch v
  | _ => 0
def mw (s : Mst) : Nat := labw s.lab + (s.st.map nstw).sum
theorem tmuchL_nil : tmuchL [] = 0 := by simp [tmuchL]
theorem mk_much (k : Int) (f g : Bool) (n b : Nat) (s : ByteArray) (y : List Nat) (l : Lk) : tmuch (.mk k f g n b s y l [] []) = 1 + y.length / 64 + s.size / 64 + l.d.length / 64 := by
  rw [tmuch_eq]
  show 1 + 0 + y.length / 64 + s.size / 64 + l.d.length / 64 + 0 + tmuchL [] = _
  rw [tmuchL_nil]
  omega
theorem tz8_much (k : Int) : tmuch (tz8 k) = 1 := mk_much k false false 0 0 ⟨#[]⟩ [] ⟨0, 0, 0, []⟩
theorem val_much (x : Nst) : tmuch x.val = nstw x := by
  rw [tmuch_eq]
  unfold nstw
  show 1 + x.ks.length + 0 / 64 + 0 / 64 + 0 / 64 + (x.ks.map fun k => k.size / 64).sum + tmuchL x.is = _
  omega
theorem leaf_much (h : HR) {y : List Nat} (hy : ∀ x ∈ y, x < 256) : tmuch (rleaf h y) ≤ 1 + y.length / 64 := by
  have hs := nstr_size hy
  have e0 : (ByteArray.mk #[]).size = 0 := rfl
  unfold rleaf
  split
  · rw [mk_much, e0]
    simp
  · split
    · rw [mk_much, e0]
      simp
    · split
      · rw [mk_much, hs]
        simp
      · split
        · rw [mk_much, e0]
          simp
        · split
          · rw [tz8_much]
            omega
          · rw [mk_much, e0]
            simp
theorem rused_body {want : Nat} {r : List Nat} (h : rlook want r = 0) : 1 + (rbody r).length ≤ rused r := by
  have := hrd_pos (rlook_e h)
  unfold rused
  omega
theorem body_byte {r : List Nat} (h : ∀ x ∈ r, x < 256) : ∀ x ∈ rbody r, x < 256 := fun x hx => by
  unfold rbody at hx
  split at hx
  · exact h x (List.mem_of_mem_drop (List.mem_of_mem_take hx))
  · cases hx
theorem link_much {b : List Nat} (hb : ∀ x ∈ b, x < 256) (h : (lparse b).2 = 0) : (lparse b).1.d.length ≤ b.length := by
  obtain ⟨h1, h2⟩ := lparse_back (l := (lparse b).1) hb (by rw [← h])
  have h3 : (lbytes (lparse b).1).length = b.length := by rw [h2]
  unfold lbytes at h3
  split at h3
  · simp at h3
    omega
  · simp at h3
    omega
/-- A step makes no more than it reads. -/
theorem mstep_much {b : List Nat} (hb : ∀ x ∈ b, x < 256) {d : Nat} {s s' : Mst} (h : mstep b d s = .inl s') : mw s' + s.p ≤ mw s + s'.p := by
  obtain ⟨lab, p, st⟩ := s
  have hd : ∀ x ∈ b.drop p, x < 256 := fun x hx => hb x (List.mem_of_mem_drop hx)
  cases lab with
  | plain =>
    unfold mstep at h
    simp only at h
    by_cases h0 : rtake 0 (decide (st.length = d)) [] (b.drop p) ≠ 0
    · rw [if_pos h0] at h; cases h
    have h1 : rtake 0 (decide (st.length = d)) [] (b.drop p) = 0 := Decidable.not_not.1 h0
    have hl := rused_body (rtake_look h1).1
    rw [if_neg h0] at h
    by_cases m6 : (hrd (b.drop p)).m = 6
    · rw [if_pos m6] at h
      injection h with h
      subst h
      simp only [mw, labw]
      omega
    rw [if_neg m6] at h
    by_cases m4 : (hrd (b.drop p)).m = 4
    · rw [if_pos m4] at h
      injection h with h
      subst h
      simp only [mw, labw, List.map_cons, List.sum_cons, nstw, List.length_nil, List.map_nil, List.sum_nil, tmuchL]
      omega
    rw [if_neg m4] at h
    by_cases m5 : (hrd (b.drop p)).m = 5
    · rw [if_pos m5] at h
      injection h with h
      subst h
      simp only [mw, labw, List.map_cons, List.sum_cons, nstw, List.length_nil, List.map_nil, List.sum_nil, tmuchL]
      omega
    rw [if_neg m5] at h
    injection h with h
    subst h
    have h2 := leaf_much (hrd (b.drop p)) (body_byte hd)
    simp only [mw, labw]
    omega
  | name =>
    unfold mstep at h
    simp only at h
    by_cases h0 : rtake 2 (decide (st.length = d)) [] (b.drop p) ≠ 0
    · rw [if_pos h0] at h; cases h
    have h1 : rtake 2 (decide (st.length = d)) [] (b.drop p) = 0 := Decidable.not_not.1 h0
    have hl := rused_body (rtake_look h1).1
    obtain ⟨_, _, n3⟩ := rlook_name (rtake_look h1).1
    rw [if_neg h0] at h
    injection h with h
    subst h
    have h2 := link_much (b := (rbody (b.drop p)).tail) (fun x hx => body_byte hd x (List.mem_of_mem_tail hx)) n3
    have h3 : (rbody (b.drop p)).tail.length ≤ (rbody (b.drop p)).length := by simp
    have h4 : tmuch (.mk 7 false false 0 0 ⟨#[]⟩ [] (lparse (rbody (b.drop p)).tail).1 [] []) = 1 + (lparse (rbody (b.drop p)).tail).1.d.length / 64 := by
      rw [mk_much]
      show 1 + 0 / 64 + 0 / 64 + _ = _
      omega
    simp only [mw, labw]
    rw [h4]
    omega
  | done v =>
    cases st with
    | nil => cases h
    | cons x q =>
      injection h with h
      subst h
      simp only [mw, labw, List.map_cons, List.sum_cons, nstw, tmuchL_app, tmuchL]
      omega
  | inside =>
    cases st with
    | nil => cases h
    | cons x q =>
      unfold mstep at h
      simp only at h
      by_cases hn : x.n = 0
      · rw [if_pos hn] at h
        injection h with h
        subst h
        simp only [mw, labw, List.map_cons, List.sum_cons, val_much]
        omega
      rw [if_neg hn] at h
      by_cases h8 : x.k = 8
      · rw [if_pos h8] at h
        injection h with h
        subst h
        simp only [mw, labw]
        omega
      rw [if_neg h8] at h
      by_cases h0 : rtake 1 (decide ((x :: q).length = d)) x.ks (b.drop p) ≠ 0
      · rw [if_pos h0] at h; cases h
      have h1 : rtake 1 (decide ((x :: q).length = d)) x.ks (b.drop p) = 0 := Decidable.not_not.1 h0
      have hl := rused_body (rtake_look h1).1
      rw [if_neg h0] at h
      injection h with h
      subst h
      have hs := nstr_size (body_byte hd)
      simp only [mw, labw, List.map_cons, List.sum_cons, nstw, List.length_append, List.map_append, List.sum_append, List.length_cons, List.length_nil, List.map_nil, List.sum_nil, hs]
      omega
/-- The tree that is read is no greater than the bytes. -/
theorem mrun_much {b : List Nat} (hb : ∀ x ∈ b, x < 256) {d : Nat} : ∀ {n : Nat} {s : Mst} {r : Res}, mrun b d n s = some r → mw s ≤ s.p → tmuch r.v ≤ r.p + 1
  | 0, _, _, h, _ => by cases h
  | n + 1, s, r, h, hm => by
    cases hs : mstep b d s with
    | inl s' =>
      rw [mrun_next hs] at h
      have := mstep_much hb hs
      exact mrun_much hb h (by omega)
    | inr r' =>
      rw [mrun_end hs] at h
      injection h with h
      subst h
      obtain ⟨lab, p, st⟩ := s
      revert hs
      cases lab with
      | plain =>
        unfold mstep
        dsimp only
        repeat' split
        all_goals (intro h; first | (cases h; done) | (injection h with h; rw [← h]; show tmuch (tz8 0) ≤ _; rw [tz8_much]; omega))
      | name =>
        unfold mstep
        dsimp only
        repeat' split
        all_goals (intro h; first | (cases h; done) | (injection h with h; rw [← h]; show tmuch (tz8 0) ≤ _; rw [tz8_much]; omega))
      | done v =>
        cases st with
        | nil =>
          intro h
          injection h with h
          rw [← h]
          simp only [mw, labw, List.map_nil, List.sum_nil] at hm
          show tmuch v ≤ p + 1
          omega
        | cons x q => intro h; cases h
      | inside =>
        cases st with
        | nil =>
          intro h
          injection h with h
          rw [← h]
          show tmuch (tz8 0) ≤ _
          rw [tz8_much]
          omega
        | cons x q =>
          unfold mstep
          dsimp only
          repeat' split
          all_goals (intro h; first | (cases h; done) | (injection h with h; rw [← h]; show tmuch (tz8 0) ≤ _; rw [tz8_much]; omega))
end
section
open Go.RowKit Go
def zh : Array Value := #[.int .i64 0, .int .i64 0, .int .u64 0, .int .i64 0, .bool false]
theorem hcs_all (h : HR) : (hcs h).all (·.oneCell') = true := by
  rw [Array.all_eq_true']
  intro u hu
  simp only [hcs, List.mem_toArray, List.mem_cons, List.not_mem_nil, or_false] at hu
  rcases hu with rfl | rfl | rfl | rfl | rfl <;> rfl
theorem zh_all : zh.all (·.oneCell') = true := hcs_all ⟨0, 0, 0, 0, false, 0⟩
theorem results_ctt {fn : Func} {p u v : Tmp} {ty : TypeId} (h : fn.results = #[.cell p ty, .tmp u, .tmp v]) (tmps : Array Value) (P : Program) (w : World) :
    (results fn tmps).run P w = ((asAddr (tmps.getD p undef)).run P w).andThen fun a w₁ => ((loadVar ty a).run P w₁).andThen fun x w₂ => .ok (.tuple #[x, tmps.getD u undef, tmps.getD v undef]) w₂ := by
  simp only [results, h]
  simp [Sem.run_bind, Result.andThen]
theorem end_fault {wx : World} {R : Nat} {c : Array Value} {vb : Value} {n : Int} {tmps : Array Value} (hn : c.size = 5) (hr : wx.heap[R]? = some (.cells c 99 (0, 0))) (hp : tmps.getD 6 undef = .pointer (some ⟨R, 0, none⟩)) (hm : tmps.getD 7 undef = vb) (hq : tmps.getD 8 undef = .int .i64 n) : (results Tryz.f60 tmps).run Tryz.prog wx = .ok (.tuple #[.agg c, vb, .int .i64 n]) wx := by
  have h1 := run_loadVar_row (P := Tryz.prog) wx R 99 99 c (0, 0) _ hr Tryz.underlying99 rfl (by rw [hn]; exact infoRH)
  refine (results_ctt rfl _ _ _).trans ?_
  rw [hp, hm, hq]
  simp [asAddr, h1, Result.andThen]
theorem bsl_inv {w : World} {a : Option Addr} {n c : Nat} {xs : List Nat} (h : BSl w (.slice a n c) xs) : n = xs.length ∧ (xs.length ≤ c ∧ (a = none → c = 0)) ∧ (xs = [] ∨ ∃ b off, a = some ⟨b, off, none⟩ ∧ ∀ j, j < xs.length → w.cell? ⟨b, off + j, none⟩ = some (.int .u8 ((xs.getD j 0 : Nat) : Int))) := by
  obtain ⟨⟨a', c', he, h1, h2⟩, _, _⟩ := h
  injection he with e1 e2 e3
  subst e1 e2 e3
  exact ⟨rfl, h1, h2⟩
theorem rtk_look {k : Nat} {full : Bool} {ks : List ByteArray} {r : List Nat} {n : Nat} (h : ¬ (rnest r = true ∧ full = true)) (hl : rlook k r = n) (hn : n ≠ 0) : rtake k full ks r = n := by
  unfold rtake
  rw [if_neg h, if_pos (by rw [hl]; exact hn), hl]
/-- What fault answers. -/
def FltP (w : World) (k : Nat) (full : Bool) (ks : List ByteArray) (r : List Nat) (e : Ending) (w' : World) : Prop :=
  Below w.heap.size w w' ∧ ∃ hc vb, e = .returned (.tuple #[.agg hc, vb, .int .i64 ((rtake k full ks r : Nat) : Int)]) ∧ (rtake k full ks r = 0 → hc = hcs (hrd r) ∧ BSl w' vb (rbody r)) ∧ hc.size = 5 ∧ hc.all (·.oneCell') = true
theorem FltP.mk {w w' : World} {k : Nat} {full : Bool} {ks : List ByteArray} {r : List Nat} {hc : Array Value} {vb : Value} {n : Nat} (hn : rtake k full ks r = n) (hb : Below w.heap.size w w') (h : n = 0 → hc = hcs (hrd r) ∧ BSl w' vb (rbody r)) (h5 : hc.size = 5) (ha : hc.all (·.oneCell') = true) : FltP w k full ks r (.returned (.tuple #[.agg hc, vb, .int .i64 ((n : Nat) : Int)])) w' := by
  subst hn
  exact ⟨hb, hc, vb, rfl, h, h5, ha⟩
/-- Where fault stands: the want's box, the result's, the head's. -/
structure Fc8 (w wx : World) (ws hr hh : Array Value) (g : Nat) : Prop where
  x : wx.heap[w.heap.size]? = some (.cells ws 79 (0, 0))
  r : wx.heap[w.heap.size + 1]? = some (.cells hr 99 (0, 0))
  h : wx.heap[g]? = some (.cells hh 99 (0, 0))
  g2 : w.heap.size + 2 ≤ g
  b : Below w.heap.size w wx
theorem Fc8.next {w wx wy : World} {ws hr hh : Array Value} {g : Nat} (h : Fc8 w wx ws hr hh g) (hb : Below wx.heap.size wx wy) : Fc8 w wy ws hr hh g := ⟨(hb.block _ (blk_lt h.x)).trans h.x, (hb.block _ (blk_lt h.r)).trans h.r, (hb.block _ (blk_lt h.h)).trans h.h, h.g2, h.b.trans (hb.mono h.b.size)⟩
theorem Fc8.set {w wx : World} {ws hr hh : Array Value} {g : Nat} (h : Fc8 w wx ws hr hh g) (c : Array Value) : (wx.setRow (w.heap.size + 1) c).heap[w.heap.size + 1]? = some (.cells c 99 (0, 0)) ∧ Below w.heap.size w (wx.setRow (w.heap.size + 1) c) := by
  have hk := row_kp wx (w.heap.size + 1) c
  exact ⟨row_same h.r, h.b.trans (hk.below h.b.size (fun q e => by omega))⟩
/-- Two blocks at the start. -/
structure Fd8 (w wx : World) (ws hr : Array Value) : Prop where
  x : wx.heap[w.heap.size]? = some (.cells ws 79 (0, 0))
  r : wx.heap[w.heap.size + 1]? = some (.cells hr 99 (0, 0))
  b : Below w.heap.size w wx
theorem Fd8.start (w : World) (ws hr : Array Value) : Fd8 w ((w.alloc (.cells ws 79)).alloc (.cells hr 99)) ws hr := by
  have h1 := heap_alloc_new w (.cells ws 79)
  have e1 : (w.alloc (.cells ws 79)).heap.size = w.heap.size + 1 := by simp
  have h2 := heap_alloc_new (w.alloc (.cells ws 79)) (.cells hr 99)
  rw [e1] at h2
  have b1 := below_alloc4 w (.cells ws 79)
  have b2 := below_alloc4 (w.alloc (.cells ws 79)) (.cells hr 99)
  exact ⟨blk_alloc _ h1, h2, b1.trans (b2.mono b1.size)⟩
theorem Fd8.next {w wx wy : World} {ws hr : Array Value} (h : Fd8 w wx ws hr) (hb : Below wx.heap.size wx wy) : Fd8 w wy ws hr := ⟨(hb.block _ (blk_lt h.x)).trans h.x, (hb.block _ (blk_lt h.r)).trans h.r, h.b.trans (hb.mono h.b.size)⟩
theorem Fd8.head {w wx : World} {ws hr : Array Value} (h : Fd8 w wx ws hr) (c : Array Value) : Fc8 w ((wx.alloc (.cells zh 99)).setRow wx.heap.size c) ws hr c wx.heap.size := by
  have hm := row_mkE wx zh c 99
  have h2 := h.next hm.1
  exact ⟨h2.x, h2.r, hm.2, by have := blk_lt h.r; omega, h2.b⟩
set_option maxRecDepth 1000000 in
set_option maxHeartbeats 16000000 in
theorem rfault8_any (w : World) (vB : Value) (b : List Nat) (hB : BSl w vB b) (hbl : b.length ≤ 8388608) (d p q k : Nat) (hp : p ≤ b.length) (hk : k = 0 ∨ k = 1 ∨ k = 2) (ah : ByteArray) (fi : Bool) (ks : List ByteArray) (ha : Ahd k ks ah fi) :
    Calls Tryz.prog 60 #[vB, .int .i64 (d : Nat), .agg (wcs8 p q k ah fi)] w (FltP w k (decide (d ≤ q)) ks (b.drop p)) := by
  have HB := hide hB
  have HA := hide ha
  have HK := hide hk
  have HBL := hide hbl
  have HQ := hide (Fd8.start w (wcs8 p q k ah fi) zh)
  have W0 : Hid ((wcs8 p q k ah fi)[0]? = some (.int .i64 (p : Nat))) := rfl
  have W1 : Hid ((wcs8 p q k ah fi)[1]? = some (.int .i64 (q : Nat))) := rfl
  have W2 : Hid ((wcs8 p q k ah fi)[2]? = some (.int .i64 (k : Nat))) := rfl
  have W3 : Hid ((wcs8 p q k ah fi)[3]? = some (.string ah)) := rfl
  have W4 : Hid ((wcs8 p q k ah fi)[4]? = some (.bool fi)) := rfl
  have WZ : Hid ((Tryz.prog.info? 79).map (·.size) = some (wcs8 p q k ah fi).size) := infoRW
  have HFB : Hid (∀ (wx : World) (h : HR) (vb : Value) (y : List Nat), BSl wx vb y → y.length ≤ 140737488351232 → h.n < 18446744073709551616 → Calls Tryz.prog 90 #[.agg (hcs h), vb, .agg (wcs8 p q k ah fi)] wx fun e w' => e = .returned (.bool (rfbd k h y)) ∧ Below wx.heap.size wx w') := fun wx h vb y h1 h2 h3 => rforb8_any wx h vb y p q k ah fi h1 h2 h3 hk
  generalize wcs8 p q k ah fi = ws at *
  have c0 := blk_cell (j := 0) HQ.out.x W0.out
  have HP : Hid (p ≤ b.length) := hp
  obtain ⟨⟨aB, cB, hvB, hnB, _⟩, _, _⟩ := hB
  subst hvB
  have HNB := hide hnB
  have HSS := hide (bsl_drop8 (k := p) HB.out hp)
  obtain ⟨ad, cp, hds⟩ : ∃ ad cp, dropS aB b.length cB p = .slice ad (b.drop p).length cp := by
    obtain ⟨⟨ad, cp, e, _⟩, _, _⟩ := HSS.out
    exact ⟨ad, cp, e⟩
  clear hk ha hbl hp hnB
  unfold zh at HQ c0
  go_enter Tryz.func60, Tryz.ntmps60
  go_upto_region 2 with (refine wpList_exec rfl (exec_drop (k := p) rfl rfl rfl HP.out HNB.out.1 HNB.out.2) ?_)
  have hlen : b.length - p = (b.drop p).length := (List.length_drop).symm
  rw [hlen]
  clear hlen
  rw [hds] at HSS
  generalize (w.alloc (.cells ws 79)).alloc (.cells #[.int .i64 0, .int .i64 0, .int .u64 0, .int .i64 0, .bool false] 99) = w2 at *
  replace HQ : Hid (Fd8 w w2 ws zh) := HQ
  have HRL : Hid ((b.drop p).length ≤ 8388608) := by have h1 := HBL.out; show _ ≤ _; rw [List.length_drop]; omega
  have HHN := hide (hrd_bd (b.drop p) HSS.out.byte)
  generalize b.drop p = rs at *
  clear c0 HB HP HBL HNB hds
  have hsl : BSl w2 (.slice ad rs.length cp) rs := HSS.out.move (keep_below HQ.out.b)
  have HIZ : Hid ((Tryz.prog.info? 99).map (·.size) = some zh.size) := infoRH
  have HIH : Hid (∀ h : HR, (Tryz.prog.info? 99).map (·.size) = some (hcs h).size) := fun _ => infoRH
  have HR1 := hide HQ.out.r
  have c1 := blk_cell (j := 1) HQ.out.x W1.out
  have HZA := hide zh_all
  go_cut [41] from 17 to 41 (fun s41 wx => s41 = .bool (decide (rnest rs = true ∧ decide (d ≤ q) = true)) ∧ wx = w2)
  case first =>
    match rs with
    | [] => as_aux_lemma =>
      have hf : decide (rnest [] = true ∧ decide (d ≤ q) = true) = false := by simp [rnest]
      go_wp2_with fail
      go_meet
      case rel => exact ⟨by rw [hf], rfl⟩
    | x :: r =>
      have gz : (0 : Int) < (((x :: r).length : Nat) : Int) := by simp
      obtain ⟨b0, off, rfl, hcc⟩ := (bsl_inv hsl).2.2.resolve_left (fun h => by cases h)
      have cx := hcc 0 (by simp)
      rw [show (x :: r).getD 0 0 = x from rfl, Nat.add_zero] at cx
      have hxb : x < 256 := hsl.byte x (List.mem_cons_self ..)
      have hq32 : (x : Int).tdiv 32 = ((x / 32 : Nat) : Int) := rfl
      have HRN : Hid (rnest (x :: r) = decide (x / 32 = 4 ∨ x / 32 = 5)) := rfl
      generalize (x :: r).length = ln at *
      generalize x :: r = rs at *
      clear hcc hsl
      by_cases h4 : x / 32 = 4
      · have g4 : (((x / 32 : Nat) : Int) == 4) = true := beq_iff_eq.2 (by omega)
        by_cases hdq : d ≤ q
        · as_aux_lemma =>
          have g6 : (d : Int) ≤ (q : Int) := by omega
          have hf : decide (rnest rs = true ∧ decide (d ≤ q) = true) = true := by rw [HRN.out]; simp [h4, hdq]
          go_wp2_with fail
          go_meet
          case rel => exact ⟨by rw [hf], rfl⟩
        · as_aux_lemma =>
          have g6 : ¬ (d : Int) ≤ (q : Int) := by omega
          have hf : decide (rnest rs = true ∧ decide (d ≤ q) = true) = false := by simp [hdq]
          go_wp2_with fail
          go_meet
          case rel => exact ⟨by rw [hf], rfl⟩
      have g4 : (((x / 32 : Nat) : Int) == 4) = false := beq_eq_false_iff_ne.2 (by omega)
      by_cases h5 : x / 32 = 5
      · have g5 : (((x / 32 : Nat) : Int) == 5) = true := beq_iff_eq.2 (by omega)
        by_cases hdq : d ≤ q
        · as_aux_lemma =>
          have g6 : (d : Int) ≤ (q : Int) := by omega
          have hf : decide (rnest rs = true ∧ decide (d ≤ q) = true) = true := by rw [HRN.out]; simp [h5, hdq]
          go_wp2_with fail
          go_meet
          case rel => exact ⟨by rw [hf], rfl⟩
        · as_aux_lemma =>
          have g6 : ¬ (d : Int) ≤ (q : Int) := by omega
          have hf : decide (rnest rs = true ∧ decide (d ≤ q) = true) = false := by simp [hdq]
          go_wp2_with fail
          go_meet
          case rel => exact ⟨by rw [hf], rfl⟩
      · as_aux_lemma =>
        have g5 : (((x / 32 : Nat) : Int) == 5) = false := beq_eq_false_iff_ne.2 (by omega)
        have hf : decide (rnest rs = true ∧ decide (d ≤ q) = true) = false := by rw [HRN.out]; simp [h4, h5]
        go_wp2_with fail
        go_meet
        case rel => exact ⟨by rw [hf], rfl⟩
  case rest =>
    obtain ⟨rfl, hwc⟩ := hcut
    replace hwc := hwc.symm
    subst hwc
    by_cases hnf : rnest rs = true ∧ decide (d ≤ q) = true
    · as_aux_lemma =>
      have hf : decide (rnest rs = true ∧ decide (d ≤ q) = true) = true := decide_eq_true hnf
      have HRT : Hid (rtake k (decide (d ≤ q)) ks rs = 81) := by show _ = _; unfold rtake; rw [if_pos hnf]
      rw [hf]
      clear hf hnf
      go_wp2_with (refine wpList_storeRow rfl rfl (w.heap.size + 1) zh zh 99 rfl rfl HR1.out HIZ.out rfl HZA.out ?_)
      have hk := row_kp w2 (w.heap.size + 1) zh
      exact bodyPost_ret (end_fault rfl (row_same HR1.out) rfl rfl rfl) rfl (FltP.mk HRT.out (HQ.out.b.trans (hk.below HQ.out.b.size (fun q e => by omega))) (fun e => by cases e) rfl HZA.out)
    have hf : decide (rnest rs = true ∧ decide (d ≤ q) = true) = false := decide_eq_false hnf
    have HNF := hide hnf
    rw [hf]
    clear hf hnf
    go_wp2_with fail
    refine (refRead_any w2 _ rs hsl).mono ?_
    rintro e w3 ⟨rfl, hb3⟩
    replace HQ := hide (HQ.out.next hb3)
    have HG := hide (heap_alloc_new w3 (.cells zh 99))
    have HF := hide (HQ.out.head (hcs (hrd rs)))
    have HAH := hide (hcs_all (hrd rs))
    have HAG : Hid ((hrd rs).val = .agg (hcs (hrd rs))) := rfl
    rw [HAG.out]
    clear hb3 HQ HR1 hsl c1 HAG
    generalize hhr : hrd rs = h at *
    have HHR := hide hhr
    clear hhr
    have HHH := hide HF.out.h
    go_upto_if 49 with (first
      | (refine wpList_storeRow rfl rfl w3.heap.size zh (hcs h) 99 rfl rfl HG.out (HIH.out h) rfl HAH.out ?_))
    unfold zh at HF
    generalize (w3.alloc (.cells #[.int .i64 0, .int .i64 0, .int .u64 0, .int .i64 0, .bool false] 99)).setRow w3.heap.size (hcs h) = w4 at *
    replace HF : Hid (Fc8 w w4 ws zh (hcs h) w3.heap.size) := HF
    generalize w3.heap.size = gh at *
    clear HG HHH
    have HHH := hide HF.out.h
    have HRR := hide HF.out.r
    by_cases he20 : h.e = 20
    · as_aux_lemma =>
      have g20 : ((h.e : Int) == 20) = true := beq_iff_eq.2 (by omega)
      have HRT : Hid (rtake k (decide (d ≤ q)) ks rs = 82) := rtk_look HNF.out (by unfold rlook; rw [HHR.out, if_pos he20]) (by decide)
      clear he20
      go_upto_region 6 with fail
      go_wp2_with (first
        | (refine wpList_loadAll rfl rfl gh (hcs h) 99 rfl HHH.out Tryz.underlying99 (HIH.out h) ?_)
        | (refine wpList_storeRow rfl rfl (w.heap.size + 1) zh (hcs h) 99 rfl rfl HRR.out (HIH.out h) rfl HAH.out ?_))
      have hE := HF.out.set (hcs h)
      exact bodyPost_ret (end_fault rfl hE.1 rfl rfl rfl) rfl (FltP.mk HRT.out hE.2 (fun e => by cases e) rfl HAH.out)
    have g20 : ((h.e : Int) == 20) = false := beq_eq_false_iff_ne.2 (by omega)
    by_cases he0 : h.e = 0
    case neg => as_aux_lemma =>
      have g0 : ((h.e : Int) != 0) = true := by simp; omega
      have HRT : Hid (rtake k (decide (d ≤ q)) ks rs = 83) := rtk_look HNF.out (by unfold rlook; rw [HHR.out, if_neg he20, if_pos (.inl he0)]) (by decide)
      clear he0 he20
      go_upto_region 8 with fail
      go_wp2_with (first
        | (refine wpList_loadAll rfl rfl gh (hcs h) 99 rfl HHH.out Tryz.underlying99 (HIH.out h) ?_)
        | (refine wpList_storeRow rfl rfl (w.heap.size + 1) zh (hcs h) 99 rfl rfl HRR.out (HIH.out h) rfl HAH.out ?_))
      have hE := HF.out.set (hcs h)
      exact bodyPost_ret (end_fault rfl hE.1 rfl rfl rfl) rfl (FltP.mk HRT.out hE.2 (fun e => by cases e) rfl HAH.out)
    have g0 : ((h.e : Int) != 0) = false := by simp; omega
    have hu : h.u ≤ rs.length := HHN.out.2.2 he0
    have hrl : rs.length ≤ 8388608 := HRL.out
    have HN : Hid (h.n < 18446744073709551616) := HHN.out.1
    have HE20 := hide he20
    have HE0 := hide he0
    clear he0 he20 HHN
    go_wp2_with (refine wpList_loadAll rfl rfl gh (hcs h) 99 rfl HHH.out Tryz.underlying99 (HIH.out h) ?_)
    refine (rknow8_any w4 h).mono ?_
    rintro e w5 ⟨he5, hb5⟩
    generalize hkb : decide ((h.m = 2 ∨ h.m = 3) ∧ h.i ≠ 31) = kb at he5
    subst he5
    have HKB := hide hkb
    clear hkb
    replace HF := hide (HF.out.next hb5)
    replace HHH := hide HF.out.h
    replace HRR := hide HF.out.r
    have HXX := hide HF.out.x
    clear hb5
    have e2 := blk_cell (j := 2) (v := .int .u64 (h.n : Nat)) HHH.out rfl
    have e3 := blk_cell (j := 3) (v := .int .i64 (h.u : Nat)) HHH.out rfl
    go_upto_if 55 with fail
    go_cut [12] from 56 to 75 (fun s12 wx => wx = w5 ∧ ∃ vb y, vb = s12 ∧ Hid (BSl w vb y) ∧ Hid (y.length ≤ 8388608) ∧ Hid ((h.i = 31 ∨ (rbody rs = y ∧ ¬ ((h.m = 2 ∨ h.m = 3) ∧ rs.length - h.u < h.n)))))
    case first =>
      by_cases hkn : (h.m = 2 ∨ h.m = 3) ∧ h.i ≠ 31
      · have hd1 : kb = true := HKB.out.symm.trans (decide_eq_true hkn)
        subst hd1
        clear HKB
        by_cases hsh : rs.length - h.u < h.n
        · as_aux_lemma =>
          have gsh : (rs.length : Int) - (h.u : Int) < (h.n : Int) := by omega
          have HRT : Hid (rtake k (decide (d ≤ q)) ks rs = 82) := rtk_look HNF.out (by unfold rlook; rw [HHR.out, if_neg HE20.out, if_neg (fun e => by rcases e with e | e; exact e HE0.out; exact hkn.2 e), if_pos ⟨hkn.1, hsh⟩]) (by decide)
          clear hkn hsh
          go_upto_region 12 with fail
          go_wp2_with (first
            | (refine wpList_loadAll rfl rfl gh (hcs h) 99 rfl HHH.out Tryz.underlying99 (HIH.out h) ?_)
            | (refine wpList_storeRow rfl rfl (w.heap.size + 1) zh (hcs h) 99 rfl rfl HRR.out (HIH.out h) rfl HAH.out ?_))
          have hE := HF.out.set (hcs h)
          exact bodyPost_ret (end_fault rfl hE.1 rfl rfl rfl) rfl (FltP.mk HRT.out hE.2 (fun e => by cases e) rfl HAH.out)
        · as_aux_lemma =>
          have gsh : ¬ (rs.length : Int) - (h.u : Int) < (h.n : Int) := by omega
          have hnl : h.n ≤ 8388608 := by omega
          have HBY : Hid (BSl w (dropS ad (h.u + h.n) cp h.u) (rbody rs)) := by
            have h1 := bsl_drop8 (k := h.u) (bsl_take8 (k := h.u + h.n) HSS.out (by omega)) (by rw [List.length_take]; omega)
            have e : (rs.take (h.u + h.n)).drop h.u = rbody rs := by
              unfold rbody
              rw [HHR.out, if_pos hkn.1, List.drop_take]
              congr 1
              omega
            rw [e] at h1
            exact h1
          have HYL : Hid ((rbody rs).length ≤ 8388608) := by
            have h1 : rbody rs = (rs.drop h.u).take h.n := by unfold rbody; rw [HHR.out, if_pos hkn.1]
            show _ ≤ _
            rw [h1, List.length_take]
            omega
          have HNS : Hid (¬ ((h.m = 2 ∨ h.m = 3) ∧ rs.length - h.u < h.n)) := fun e => hsh e.2
          have HK1 : Hid (h.u ≤ h.u + h.n) := Nat.le_add_right _ _
          have HK2 : Hid (h.u + h.n ≤ rs.length) := by show _ ≤ _; omega
          have HK3 := hide (bsl_inv HSS.out).2.1
          clear hkn hsh
          go_wp2_with (refine wpList_exec rfl (exec_sub (k := h.u) (m := h.u + h.n) rfl rfl rfl rfl HK1.out HK2.out HK3.out.1 HK3.out.2) ?_)
          go_meet
          case rel => exact ⟨rfl, _, _, rfl, HBY, HYL, Or.inr ⟨rfl, HNS.out⟩⟩
      · as_aux_lemma =>
        have hd1 : kb = false := HKB.out.symm.trans (decide_eq_false hkn)
        subst hd1
        clear HKB
        have HAL : Hid (h.i = 31 ∨ (rbody rs = [] ∧ ¬ ((h.m = 2 ∨ h.m = 3) ∧ rs.length - h.u < h.n))) := by
          by_cases hi : h.i = 31
          · exact .inl hi
          · have hm : ¬ (h.m = 2 ∨ h.m = 3) := fun e => hkn ⟨e, hi⟩
            exact .inr ⟨by unfold rbody; rw [HHR.out, if_neg hm], fun e => hm e.1⟩
        clear hkn
        go_wp2_with fail
        go_meet
        case rel => exact ⟨rfl, _, [], rfl, bsl_none w, by show (0 : Nat) ≤ _; decide, HAL⟩
    case rest =>
      obtain ⟨hwc, vb, y, rfl, HBY, HYL, HAL⟩ := hcut
      replace hwc := hwc.symm
      subst hwc
      go_wp2_with (first
        | (refine wpList_loadAll rfl rfl gh (hcs h) 99 rfl HHH.out Tryz.underlying99 (HIH.out h) ?_)
        | (refine wpList_loadAll rfl rfl w.heap.size ws 79 rfl HXX.out Tryz.underlying79 WZ.out ?_))
      refine (HFB.out w5 h vb y (HBY.out.move (keep_below HF.out.b)) (by have := HYL.out; omega) HN.out).mono ?_
      rintro e w6 ⟨rfl, hb6⟩
      replace HF := hide (HF.out.next hb6)
      replace HHH := hide HF.out.h
      replace HRR := hide HF.out.r
      replace HXX := hide HF.out.x
      clear hb6 e2 e3 HSS
      by_cases hfb : rfbd k h y = true
      · as_aux_lemma =>
        rw [hfb]
        have HRT : Hid (rtake k (decide (d ≤ q)) ks rs = 83) := by
          refine rtk_look HNF.out ?_ (by decide)
          unfold rlook
          rw [HHR.out, if_neg HE20.out]
          rcases HAL.out with hi | ⟨hy, hns⟩
          · rw [if_pos (.inr hi)]
          · by_cases hi : h.i = 31
            · rw [if_pos (.inr hi)]
            · rw [if_neg (fun e => by rcases e with e | e; exact e HE0.out; exact hi e), if_neg hns, hy]
              unfold rfbd at hfb
              rw [if_pos]
              simp [hi] at hfb
              exact hfb
        clear hfb
        go_upto_region 15 with fail
        go_wp2_with (first
          | (refine wpList_loadAll rfl rfl gh (hcs h) 99 rfl HHH.out Tryz.underlying99 (HIH.out h) ?_)
          | (refine wpList_storeRow rfl rfl (w.heap.size + 1) zh (hcs h) 99 rfl rfl HRR.out (HIH.out h) rfl HAH.out ?_))
        have hE := HF.out.set (hcs h)
        exact bodyPost_ret (end_fault rfl hE.1 rfl rfl rfl) rfl (FltP.mk HRT.out hE.2 (fun e => by cases e) rfl HAH.out)
      replace hfb : rfbd k h y = false := by simpa using hfb
      rw [hfb]
      have hall : h.i ≠ 31 ∧ rmay h y = true ∧ rfit k h y = true := by
        unfold rfbd at hfb
        simpa [and_assoc] using hfb
      obtain ⟨hi31, hmay, hfit⟩ := hall
      obtain ⟨hy, hns⟩ := HAL.out.resolve_left hi31
      have HRL0 : Hid (rlook k rs = 0) := by
        show _ = _
        unfold rlook
        rw [HHR.out, if_neg HE20.out, if_neg (fun e => by rcases e with e | e; exact e HE0.out; exact hi31 e), if_neg hns, hy, if_neg (by rw [hmay, hfit]; simp)]
      have HYY := hide hy
      clear hfb hi31 hmay hfit hy hns HAL
      have HTK : Hid (∀ n, (if h.s = false ∨ (k = 1 ∧ rrise ks (nstr y) = false) then 84 else 0) = n → rtake k (decide (d ≤ q)) ks rs = n) := by
        intro n hn
        unfold rtake
        rw [if_neg HNF.out, if_neg (by rw [HRL0.out]; simp), HHR.out, HYY.out]
        exact hn
      have e4 := blk_cell (j := 4) (v := .bool h.s) HHH.out rfl
      have d2 := blk_cell (j := 2) HXX.out W2.out
      have d3 := blk_cell (j := 3) HXX.out W3.out
      have d4 := blk_cell (j := 4) HXX.out W4.out
      by_cases hs : h.s = true
      case neg => as_aux_lemma =>
        have hs2 : h.s = false := by simpa using hs
        have HRT : Hid (rtake k (decide (d ≤ q)) ks rs = 84) := HTK.out 84 (if_pos (.inl hs2))
        rw [hs2] at e4
        clear hs
        go_upto_region 17 with fail
        go_wp2_with (first
          | (refine wpList_loadAll rfl rfl gh (hcs h) 99 rfl HHH.out Tryz.underlying99 (HIH.out h) ?_)
          | (refine wpList_storeRow rfl rfl (w.heap.size + 1) zh (hcs h) 99 rfl rfl HRR.out (HIH.out h) rfl HAH.out ?_))
        have hE := HF.out.set (hcs h)
        exact bodyPost_ret (end_fault rfl hE.1 rfl rfl rfl) rfl (FltP.mk HRT.out hE.2 (fun e => by cases e) rfl HAH.out)
      rw [hs] at e4
      have HS1 := hide hs
      clear hs
      by_cases hk1 : k = 1
      · subst hk1
        rcases HA.out rfl with ⟨rfl, hks⟩ | ⟨rfl, hks, hah⟩
        · as_aux_lemma =>
          have HRT : Hid (rtake 1 (decide (d ≤ q)) ks rs = 0) := HTK.out 0 (if_neg (fun e => by
            rcases e with e | ⟨_, e⟩
            · rw [HS1.out] at e; cases e
            · rw [hks] at e; cases e))
          clear hks
          go_upto_region 18 with fail
          go_wp2_with (first
            | (refine wpList_loadAll rfl rfl gh (hcs h) 99 rfl HHH.out Tryz.underlying99 (HIH.out h) ?_)
            | (refine wpList_storeRow rfl rfl (w.heap.size + 1) zh (hcs h) 99 rfl rfl HRR.out (HIH.out h) rfl HAH.out ?_))
          have hE := HF.out.set (hcs h)
          exact bodyPost_ret (end_fault rfl hE.1 rfl rfl rfl) rfl (FltP.mk HRT.out hE.2 (fun _ => ⟨by rw [HHR.out], by rw [HYY.out]; exact HBY.out.move (keep_below hE.2)⟩) rfl HAH.out)
        · obtain ⟨a9, c9, hv9⟩ : ∃ a9 c9, vb = .slice a9 y.length c9 := by
            obtain ⟨⟨a9, c9, e, _⟩, _, _⟩ := HBY.out
            exact ⟨a9, c9, e⟩
          subst hv9
          have hcv : Sem.run Tryz.prog (convert 46 9 (.slice a9 y.length c9)) w6 = .ok (.string (nstr y)) w6 := (HBY.out.move (keep_below HF.out.b)).text
          go_wp2_with fail
          refine (rbefore_any w6 ah (nstr y) (by omega)).mono ?_
          rintro e w7 ⟨rfl, hb7⟩
          have HF7 := hide (HF.out.next hb7)
          have HH7 := hide HF7.out.h
          have HR7 := hide HF7.out.r
          have HRS : Hid (rrise ks (nstr y) = bfr (sl ah) (sl (nstr y))) := by show _ = _; unfold rrise; rw [hks]
          clear hb7 hks hah
          by_cases hbf : bfr (sl ah) (sl (nstr y)) = true
          · as_aux_lemma =>
            have HRT : Hid (rtake 1 (decide (d ≤ q)) ks rs = 0) := HTK.out 0 (if_neg (fun e => by
              rcases e with e | ⟨_, e⟩
              · rw [HS1.out] at e; cases e
              · rw [HRS.out, hbf] at e; cases e))
            rw [hbf]
            clear hbf
            go_upto_region 18 with fail
            go_wp2_with (first
              | (refine wpList_loadAll rfl rfl gh (hcs h) 99 rfl HH7.out Tryz.underlying99 (HIH.out h) ?_)
              | (refine wpList_storeRow rfl rfl (w.heap.size + 1) zh (hcs h) 99 rfl rfl HR7.out (HIH.out h) rfl HAH.out ?_))
            have hE := HF7.out.set (hcs h)
            exact bodyPost_ret (end_fault rfl hE.1 rfl rfl rfl) rfl (FltP.mk HRT.out hE.2 (fun _ => ⟨by rw [HHR.out], by rw [HYY.out]; exact HBY.out.move (keep_below hE.2)⟩) rfl HAH.out)
          · as_aux_lemma =>
            have hbf2 : bfr (sl ah) (sl (nstr y)) = false := by simpa using hbf
            have HRT : Hid (rtake 1 (decide (d ≤ q)) ks rs = 84) := HTK.out 84 (if_pos (.inr ⟨by trivial, by rw [HRS.out, hbf2]⟩))
            rw [hbf2]
            clear hbf hbf2
            go_upto_region 17 with fail
            go_wp2_with (first
              | (refine wpList_loadAll rfl rfl gh (hcs h) 99 rfl HH7.out Tryz.underlying99 (HIH.out h) ?_)
              | (refine wpList_storeRow rfl rfl (w.heap.size + 1) zh (hcs h) 99 rfl rfl HR7.out (HIH.out h) rfl HAH.out ?_))
            have hE := HF7.out.set (hcs h)
            exact bodyPost_ret (end_fault rfl hE.1 rfl rfl rfl) rfl (FltP.mk HRT.out hE.2 (fun e => by cases e) rfl HAH.out)
      · as_aux_lemma =>
        have gk1 : ((k : Int) == 1) = false := beq_eq_false_iff_ne.2 (by omega)
        have HRT : Hid (rtake k (decide (d ≤ q)) ks rs = 0) := HTK.out 0 (if_neg (fun e => by
          rcases e with e | ⟨e, _⟩
          · rw [HS1.out] at e; cases e
          · exact hk1 e))
        clear hk1
        go_upto_region 18 with fail
        go_wp2_with (first
          | (refine wpList_loadAll rfl rfl gh (hcs h) 99 rfl HHH.out Tryz.underlying99 (HIH.out h) ?_)
          | (refine wpList_storeRow rfl rfl (w.heap.size + 1) zh (hcs h) 99 rfl rfl HRR.out (HIH.out h) rfl HAH.out ?_))
        have hE := HF.out.set (hcs h)
        exact bodyPost_ret (end_fault rfl hE.1 rfl rfl rfl) rfl (FltP.mk HRT.out hE.2 (fun _ => ⟨by rw [HHR.out], by rw [HYY.out]; exact HBY.out.move (keep_below hE.2)⟩) rfl HAH.out)
end
end Go.Proofs.YtdejcapbggjjgaaGreatDoor

import Derived.Test.YtibcepokeaaoiabDoorJi
import Derived.Test.YtibcepokeaaoiabDoorRows
import Derived.Lib.LaidU8T
import Derived.Lib.LaidIn
namespace Go.Proofs.YtibcepokeaaoiabDoor
section
open Go.RowKit Go
set_option maxRecDepth 1000000 in
set_option maxHeartbeats 2000000 in
theorem equal_rest (t u : Tv) (ih : ∀ v ∈ t.is, EqC v) (h9 : ¬ (t.k = 9 ∧ u.k = 9)) (w : World) (ca cb : Array Value) (hTa : Tin w t ca) (hTb : Tin w u cb) (hma : tmuch t ≤ 100000) (hmb : tmuch u ≤ 100000) : Calls Tryd.prog 12 #[.agg ca, .agg cb] w fun e w' => e = .returned (.bool (eqf t u)) ∧ Below w.heap.size w w' := by
  have eG : ∀ args w, (callFunc 12 args).run Tryd.prog w = .ok (.enter 12 args) w := enters_of Tryd.func12 (by kernel_rfl) rfl
  have HEG := hide eG
  have HR := hide (eqf_rest h9)
  generalize hR : eqf t u = R at *
  clear hR eG
  have hme := tmuch_eq t
  have hme2 := tmuch_eq u
  have HIH := hide ih
  have HMA : Hid (tmuchL t.is ≤ 100000) := by show _ ≤ _; omega
  have HMB : Hid (tmuchL u.is ≤ 100000) := by show _ ≤ _; omega
  clear ih hma hmb hme hme2
  obtain ⟨vy, vk, vi, rfl, hy, hk, hv, hb⟩ := hTa.parts
  obtain ⟨vy2, vk2, vi2, rfl, hy2, hk2, hv2, hb2⟩ := hTb.parts
  have HY := hide hy
  have HV := hide hv
  have HY2 := hide hy2
  have HV2 := hide hv2
  have HD1 := hide hb.l.d
  have HD2 := hide hb2.l.d
  obtain ⟨⟨ay, cy, rfl, _, _⟩, _, _⟩ := hy
  obtain ⟨⟨ak, ck, rfl, _, _⟩, _, _⟩ := hk
  obtain ⟨⟨ai, ci, rfl, _, _⟩, _⟩ := hv
  obtain ⟨⟨ay2, cy2, rfl, _, _⟩, _, _⟩ := hy2
  obtain ⟨⟨ak2, ck2, rfl, _, _⟩, _, _⟩ := hk2
  obtain ⟨⟨ai2, ci2, rfl, _, _⟩, _⟩ := hv2
  clear hTa hTb hb hb2
  have HW0 := hide (Bw.start w (vcs t (.slice ay t.y.length cy) (.slice ak t.ks.length ck) (.slice ai t.is.length ci)) (vcs u (.slice ay2 u.y.length cy2) (.slice ak2 u.ks.length ck2) (.slice ai2 u.is.length ci2)))
  have HA := hide (fun j x (h : (lcs t.l)[j]? = some x) => lk_in HW0.out.a h)
  have HBb := hide (fun j x (h : (lcs u.l)[j]? = some x) => lk_in HW0.out.c h)
  have a0 : ((w.alloc (.cells (vcs t (.slice ay t.y.length cy) (.slice ak t.ks.length ck) (.slice ai t.is.length ci)) 29)).alloc (.cells (vcs u (.slice ay2 u.y.length cy2) (.slice ak2 u.ks.length ck2) (.slice ai2 u.is.length ci2)) 29)).cell? ⟨w.heap.size, 0, none⟩ = some (.int .i64 t.k) := blk_cell HW0.out.a rfl
  have b0 : ((w.alloc (.cells (vcs t (.slice ay t.y.length cy) (.slice ak t.ks.length ck) (.slice ai t.is.length ci)) 29)).alloc (.cells (vcs u (.slice ay2 u.y.length cy2) (.slice ak2 u.ks.length ck2) (.slice ai2 u.is.length ci2)) 29)).cell? ⟨w.heap.size + 1, 0, none⟩ = some (.int .i64 u.k) := blk_cell HW0.out.c rfl
  have a1 : ((w.alloc (.cells (vcs t (.slice ay t.y.length cy) (.slice ak t.ks.length ck) (.slice ai t.is.length ci)) 29)).alloc (.cells (vcs u (.slice ay2 u.y.length cy2) (.slice ak2 u.ks.length ck2) (.slice ai2 u.is.length ci2)) 29)).cell? ⟨w.heap.size, 1, none⟩ = some (.bool t.f) := blk_cell HW0.out.a rfl
  have b1 : ((w.alloc (.cells (vcs t (.slice ay t.y.length cy) (.slice ak t.ks.length ck) (.slice ai t.is.length ci)) 29)).alloc (.cells (vcs u (.slice ay2 u.y.length cy2) (.slice ak2 u.ks.length ck2) (.slice ai2 u.is.length ci2)) 29)).cell? ⟨w.heap.size + 1, 1, none⟩ = some (.bool u.f) := blk_cell HW0.out.c rfl
  have a2 : ((w.alloc (.cells (vcs t (.slice ay t.y.length cy) (.slice ak t.ks.length ck) (.slice ai t.is.length ci)) 29)).alloc (.cells (vcs u (.slice ay2 u.y.length cy2) (.slice ak2 u.ks.length ck2) (.slice ai2 u.is.length ci2)) 29)).cell? ⟨w.heap.size, 2, none⟩ = some (.bool t.g) := blk_cell HW0.out.a rfl
  have b2 : ((w.alloc (.cells (vcs t (.slice ay t.y.length cy) (.slice ak t.ks.length ck) (.slice ai t.is.length ci)) 29)).alloc (.cells (vcs u (.slice ay2 u.y.length cy2) (.slice ak2 u.ks.length ck2) (.slice ai2 u.is.length ci2)) 29)).cell? ⟨w.heap.size + 1, 2, none⟩ = some (.bool u.g) := blk_cell HW0.out.c rfl
  have a3 : ((w.alloc (.cells (vcs t (.slice ay t.y.length cy) (.slice ak t.ks.length ck) (.slice ai t.is.length ci)) 29)).alloc (.cells (vcs u (.slice ay2 u.y.length cy2) (.slice ak2 u.ks.length ck2) (.slice ai2 u.is.length ci2)) 29)).cell? ⟨w.heap.size, 3, none⟩ = some (.int .u64 (t.n : Nat)) := blk_cell HW0.out.a rfl
  have b3 : ((w.alloc (.cells (vcs t (.slice ay t.y.length cy) (.slice ak t.ks.length ck) (.slice ai t.is.length ci)) 29)).alloc (.cells (vcs u (.slice ay2 u.y.length cy2) (.slice ak2 u.ks.length ck2) (.slice ai2 u.is.length ci2)) 29)).cell? ⟨w.heap.size + 1, 3, none⟩ = some (.int .u64 (u.n : Nat)) := blk_cell HW0.out.c rfl
  have a4 : ((w.alloc (.cells (vcs t (.slice ay t.y.length cy) (.slice ak t.ks.length ck) (.slice ai t.is.length ci)) 29)).alloc (.cells (vcs u (.slice ay2 u.y.length cy2) (.slice ak2 u.ks.length ck2) (.slice ai2 u.is.length ci2)) 29)).cell? ⟨w.heap.size, 4, none⟩ = some (.int .u64 (t.b : Nat)) := blk_cell HW0.out.a rfl
  have b4 : ((w.alloc (.cells (vcs t (.slice ay t.y.length cy) (.slice ak t.ks.length ck) (.slice ai t.is.length ci)) 29)).alloc (.cells (vcs u (.slice ay2 u.y.length cy2) (.slice ak2 u.ks.length ck2) (.slice ai2 u.is.length ci2)) 29)).cell? ⟨w.heap.size + 1, 4, none⟩ = some (.int .u64 (u.b : Nat)) := blk_cell HW0.out.c rfl
  have a5 : ((w.alloc (.cells (vcs t (.slice ay t.y.length cy) (.slice ak t.ks.length ck) (.slice ai t.is.length ci)) 29)).alloc (.cells (vcs u (.slice ay2 u.y.length cy2) (.slice ak2 u.ks.length ck2) (.slice ai2 u.is.length ci2)) 29)).cell? ⟨w.heap.size, 5, none⟩ = some (.string t.s) := blk_cell HW0.out.a rfl
  have b5 : ((w.alloc (.cells (vcs t (.slice ay t.y.length cy) (.slice ak t.ks.length ck) (.slice ai t.is.length ci)) 29)).alloc (.cells (vcs u (.slice ay2 u.y.length cy2) (.slice ak2 u.ks.length ck2) (.slice ai2 u.is.length ci2)) 29)).cell? ⟨w.heap.size + 1, 5, none⟩ = some (.string u.s) := blk_cell HW0.out.c rfl
  have a6 : ((w.alloc (.cells (vcs t (.slice ay t.y.length cy) (.slice ak t.ks.length ck) (.slice ai t.is.length ci)) 29)).alloc (.cells (vcs u (.slice ay2 u.y.length cy2) (.slice ak2 u.ks.length ck2) (.slice ai2 u.is.length ci2)) 29)).cell? ⟨w.heap.size, 6, none⟩ = some (.slice ay t.y.length cy) := blk_cell HW0.out.a rfl
  have b6 : ((w.alloc (.cells (vcs t (.slice ay t.y.length cy) (.slice ak t.ks.length ck) (.slice ai t.is.length ci)) 29)).alloc (.cells (vcs u (.slice ay2 u.y.length cy2) (.slice ak2 u.ks.length ck2) (.slice ai2 u.is.length ci2)) 29)).cell? ⟨w.heap.size + 1, 6, none⟩ = some (.slice ay2 u.y.length cy2) := blk_cell HW0.out.c rfl
  have a12 : ((w.alloc (.cells (vcs t (.slice ay t.y.length cy) (.slice ak t.ks.length ck) (.slice ai t.is.length ci)) 29)).alloc (.cells (vcs u (.slice ay2 u.y.length cy2) (.slice ak2 u.ks.length ck2) (.slice ai2 u.is.length ci2)) 29)).cell? ⟨w.heap.size, 12, none⟩ = some (.slice ai t.is.length ci) := blk_cell HW0.out.a rfl
  have b12 : ((w.alloc (.cells (vcs t (.slice ay t.y.length cy) (.slice ak t.ks.length ck) (.slice ai t.is.length ci)) 29)).alloc (.cells (vcs u (.slice ay2 u.y.length cy2) (.slice ak2 u.ks.length ck2) (.slice ai2 u.is.length ci2)) 29)).cell? ⟨w.heap.size + 1, 12, none⟩ = some (.slice ai2 u.is.length ci2) := blk_cell HW0.out.c rfl
  generalize hca : vcs t (.slice ay t.y.length cy) (.slice ak t.ks.length ck) (.slice ai t.is.length ci) = ca at *
  generalize hcb : vcs u (.slice ay2 u.y.length cy2) (.slice ak2 u.ks.length ck2) (.slice ai2 u.is.length ci2) = cb at *
  have HCA := hide hca
  have HCB := hide hcb
  clear hca hcb
  by_cases h9a : t.k = 9
  · as_aux_lemma =>
    have h0 : ¬ t.k = u.k := fun e => h9 ⟨h9a, e ▸ h9a⟩
    have n9 : (t.k == 9) = true := by rw [h9a]; rfl
    have n9b : (u.k == 9) = false := beq_eq_false_iff_ne.2 (fun e => h9 ⟨h9a, e⟩)
    have HN : Hid (R = false) := by show _ = _; rw [HR.out]; simp [h0]
    have k0 : (t.k == u.k) = false := beq_eq_false_iff_ne.2 h0
    clear h0 h9a h9
    go_enter Tryd.func12, Tryd.ntmps12
    go_wp2_with fail
    go_ret
    exact ⟨by rw [HN.out]; rfl, HW0.out.b⟩
  have n9 : (t.k == 9) = false := beq_eq_false_iff_ne.2 h9a
  clear h9 h9a
  by_cases h0 : t.k = u.k
  case neg => as_aux_lemma =>
    have HN : Hid (R = false) := by show _ = _; rw [HR.out]; simp [h0]
    have k0 : (t.k == u.k) = false := beq_eq_false_iff_ne.2 h0
    clear h0
    go_enter Tryd.func12, Tryd.ntmps12
    go_wp2_with fail
    go_ret
    exact ⟨by rw [HN.out]; rfl, HW0.out.b⟩
  have k0 : (t.k == u.k) = true := beq_iff_eq.2 h0
  have H0 := hide h0
  clear h0
  by_cases h1 : t.f = u.f
  case neg => as_aux_lemma =>
    have HN : Hid (R = false) := by show _ = _; rw [HR.out]; simp [h1]
    have k1 : (t.f == u.f) = false := beq_eq_false_iff_ne.2 h1
    clear h1
    go_enter Tryd.func12, Tryd.ntmps12
    go_wp2_with fail
    go_ret
    exact ⟨by rw [HN.out]; rfl, HW0.out.b⟩
  have k1 : (t.f == u.f) = true := beq_iff_eq.2 h1
  have H1 := hide h1
  clear h1
  by_cases h2 : t.g = u.g
  case neg => as_aux_lemma =>
    have HN : Hid (R = false) := by show _ = _; rw [HR.out]; simp [h2]
    have k2 : (t.g == u.g) = false := beq_eq_false_iff_ne.2 h2
    clear h2
    go_enter Tryd.func12, Tryd.ntmps12
    go_wp2_with fail
    go_ret
    exact ⟨by rw [HN.out]; rfl, HW0.out.b⟩
  have k2 : (t.g == u.g) = true := beq_iff_eq.2 h2
  have H2 := hide h2
  clear h2
  by_cases h3 : t.n = u.n
  case neg => as_aux_lemma =>
    have HN : Hid (R = false) := by show _ = _; rw [HR.out]; simp [h3]
    have k3 : ((t.n : Int) == (u.n : Int)) = false := beq_eq_false_iff_ne.2 (by omega)
    clear h3
    go_enter Tryd.func12, Tryd.ntmps12
    go_wp2_with fail
    go_ret
    exact ⟨by rw [HN.out]; rfl, HW0.out.b⟩
  have k3 : ((t.n : Int) == (u.n : Int)) = true := beq_iff_eq.2 (by omega)
  have H3 := hide h3
  clear h3
  by_cases h4 : t.b = u.b
  case neg => as_aux_lemma =>
    have HN : Hid (R = false) := by show _ = _; rw [HR.out]; simp [h4]
    have k4 : ((t.b : Int) == (u.b : Int)) = false := beq_eq_false_iff_ne.2 (by omega)
    clear h4
    go_enter Tryd.func12, Tryd.ntmps12
    go_wp2_with fail
    go_ret
    exact ⟨by rw [HN.out]; rfl, HW0.out.b⟩
  have k4 : ((t.b : Int) == (u.b : Int)) = true := beq_iff_eq.2 (by omega)
  have H4 := hide h4
  clear h4
  by_cases h5 : t.s = u.s
  case neg => as_aux_lemma =>
    have HN : Hid (R = false) := by show _ = _; rw [HR.out]; simp [h5]
    have k5 : (t.s.toList == u.s.toList) = false := str_beq_no h5
    clear h5
    go_enter Tryd.func12, Tryd.ntmps12
    go_wp2_with fail
    go_ret
    exact ⟨by rw [HN.out]; rfl, HW0.out.b⟩
  have k5 : (t.s.toList == u.s.toList) = true := by rw [h5]; exact beq_self_eq_true _
  have H5 := hide h5
  clear h5
  by_cases h6 : t.l = u.l
  case neg => as_aux_lemma =>
    have HN : Hid (R = false) := by show _ = _; rw [HR.out]; simp [h6]
    have HEQ : Hid (∀ wx : World, (Op.equalIn 10000 25 (.agg (lcs t.l)) (.agg (lcs u.l))).run Tryd.prog wx = .ok false wx) := fun wx => by have h := eqlk wx HD1.out HD2.out; rw [decide_eq_false h6] at h; exact h
    clear h6
    go_enter Tryd.func12, Tryd.ntmps12
    go_wp2_with (first
      | (refine wpList_lkAt rfl rfl w.heap.size 7 t.l rfl HA.out ?_)
      | (refine wpList_lkAt rfl rfl (w.heap.size + 1) 7 u.l rfl HBb.out ?_)
      | (refine wpList_eqlk rfl rfl _ _ false rfl rfl (HEQ.out _) ?_))
    go_ret
    exact ⟨by rw [HN.out]; rfl, HW0.out.b⟩
  have HEQ : Hid (∀ wx : World, (Op.equalIn 10000 25 (.agg (lcs t.l)) (.agg (lcs u.l))).run Tryd.prog wx = .ok true wx) := fun wx => by have h := eqlk wx HD1.out HD2.out; rw [decide_eq_true h6] at h; exact h
  have H6 := hide h6
  clear h6
  go_enter Tryd.func12, Tryd.ntmps12
  go_wp2_with (first
    | (refine wpList_lkAt rfl rfl w.heap.size 7 t.l rfl HA.out ?_)
    | (refine wpList_lkAt rfl rfl (w.heap.size + 1) 7 u.l rfl HBb.out ?_)
    | (refine wpList_eqlk rfl rfl _ _ true rfl rfl (HEQ.out _) ?_))
  clear a0 a1 a2 a3 a4 a5 a6 a12 b0 b1 b2 b3 b4 b5 b6 b12
  generalize (w.alloc (.cells ca 29)).alloc (.cells cb 29) = w2 at *
  refine (alikeE_any w2 _ _ t.y u.y (HY.out.move (keep_below HW0.out.b)) (HY2.out.move (keep_below HW0.out.b))).mono ?_
  rintro e w3 ⟨rfl, hb3⟩
  have HW3 := hide (HW0.out.next hb3)
  clear hb3 HW0 HA HBb HEQ
  by_cases h7 : t.y = u.y
  case neg => as_aux_lemma =>
    have HN : Hid (R = false) := by show _ = _; rw [HR.out]; simp [h7]
    rw [decide_eq_false h7]
    clear h7
    go_wp2_with fail
    go_ret
    exact ⟨by rw [HN.out]; rfl, HW3.out.b⟩
  rw [decide_eq_true h7]
  have HRR : Hid (R = alk (eqx t u) (List.range t.is.length) (List.range u.is.length)) := by show _ = _; rw [HR.out]; simp [H0.out, H1.out, H2.out, H3.out, H4.out, H5.out, H6.out, h7]
  clear h7
  have a12 : w3.cell? ⟨w.heap.size, 12, none⟩ = some (.slice ai t.is.length ci) := blk_cell HW3.out.a (by rw [← HCA.out]; rfl)
  have b12 : w3.cell? ⟨w.heap.size + 1, 12, none⟩ = some (.slice ai2 u.is.length ci2) := blk_cell HW3.out.c (by rw [← HCB.out]; rfl)
  go_wp2_with fail
  refine (alikeV_any 12 #[] HEG.out w3 _ _ t.is u.is (eqx t u) (HV.out.move (keep_below HW3.out.b)) (HV2.out.move (keep_below HW3.out.b)) (fun wx hbx i p q c1 c2 hp hq h1 h2 => ?_)).mono ?_
  · rw [eqx_at hp hq]
    exact HIH.out p (List.mem_of_getElem? hp) q wx c1 c2 h1 h2 (Nat.le_trans (tmuchL_mem (List.mem_of_getElem? hp)) HMA.out) (Nat.le_trans (tmuchL_mem (List.mem_of_getElem? hq)) HMB.out)
  rintro e w5 ⟨rfl, hb5⟩
  have HB5 : Hid (Below w.heap.size w w5) := HW3.out.b.trans (hb5.mono HW3.out.b.size)
  rw [← HRR.out]
  clear hb5 a12 b12
  go_wp2_with fail
  go_ret
  exact ⟨rfl, HB5.out⟩
theorem equal6_any (a : Tv) : EqC a := by
  have h : ∀ N, ∀ t : Tv, SizeOf.sizeOf t = N → EqC t := by
    intro N
    induction N using Nat.strongRecOn with
    | _ N ih =>
      intro t hN b w ca cb h1 h2 h3 h4
      have ih' : ∀ u ∈ t.is, EqC u := fun u hu => ih _ (by rw [← hN]; exact Tv.is_lt hu) u rfl
      by_cases h : t.k = 9 ∧ b.k = 9
      · exact equal_map t b ih' h.1 h.2 w ca cb h1 h2 h3 h4
      · exact equal_rest t b ih' h w ca cb h1 h2 h3 h4
  exact h _ a rfl
theorem ordp_srp (ks : List ByteArray) (n : Nat) : Srp ks n (ordp ks n) := by
  by_cases hn0 : 0 < n
  · let inst : Inhabited (Fin n) := ⟨⟨0, hn0⟩⟩
    have hod : ordp ks n = (ordF ks n).toList.map Fin.val := by
      unfold ordp
      rw [dif_pos hn0]
    have hds : (List.finRange n).toArray.size = n := by simp
    have hpd : Go.Sort.PermIn 0 (List.finRange n).toArray.size (List.finRange n).toArray (ordF ks n) ∧ Go.Sort.SortedIn (Go.Proofs.ltOf (kcf ks n)) 0 (List.finRange n).toArray.size (ordF ks n) := Go.Sort.pdq_sorts (Go.Proofs.ltOf (kcf ks n)) (kcf_swo ks n) (List.finRange n).toArray 0 (List.finRange n).toArray.size (Lib.bitLen (List.finRange n).toArray.size) true true (Nat.zero_le _) (Nat.le_refl _) (Or.inl rfl)
    generalize ordF ks n = d' at *
    obtain ⟨hp, hs⟩ := hpd
    rw [hds] at hp hs
    have hd' : d'.size = n := by rw [hp.1, hds]
    have hperm : d'.toList.Perm (List.finRange n) := by
      have h := hp.2.2
      have e1 : d'.extract 0 n = d' := by
        have h2 : d'.extract 0 d'.size = d' := by simp
        rw [hd'] at h2
        exact h2
      have e2 : (List.finRange n).toArray.extract 0 n = (List.finRange n).toArray := by
        have h2 : (List.finRange n).take n = List.finRange n := List.take_of_length_le (by simp)
        simp [h2]
      rw [e1, e2] at h
      exact h
    rw [hod]
    refine ⟨?_, fun i j p q hij h1 h2 => ?_⟩
    · have h := hperm.map Fin.val
      have e : (List.finRange n).map Fin.val = List.range n := by
        apply List.ext_getElem?
        intro j
        by_cases hj : j < n
        · simp [hj]
        · rw [List.getElem?_eq_none (by simpa using hj), List.getElem?_eq_none (by simpa using hj)]
      rw [e] at h
      exact h
    · have hjl : j < d'.size := by
        have := (List.getElem?_eq_some_iff.1 h2).1
        simpa using this
      have hil : i < d'.size := by omega
      simp [hil] at h1
      simp [hjl] at h2
      have hl := hs i j (Nat.zero_le _) hij (by omega)
      rw [kcf_lt, getElem!_pos d' i hil, getElem!_pos d' j hjl, h1, h2] at hl
      exact hl
  · have e : n = 0 := by omega
    subst e
    exact ⟨by simp [ordp], fun i j p q _ h => by simp [ordp] at h⟩
/-- Of trees: equal, whatever the order of entries. -/
theorem eqf_teq (a : Tv) : ∀ b, Trk a → Trk b → (eqf a b = true ↔ Teq a b) := by
  have h : ∀ N, ∀ t : Tv, SizeOf.sizeOf t = N → ∀ b, Trk t → Trk b → (eqf t b = true ↔ Teq t b) := by
    intro N
    induction N using Nat.strongRecOn with
    | _ N ih =>
      intro a hN b ha hb
      have ih' : ∀ u ∈ a.is, ∀ v, Trk u → Trk v → (eqf u v = true ↔ Teq u v) := fun u hu => ih _ (by rw [← hN]; exact Tv.is_lt hu) u rfl
      by_cases h9 : a.k = 9 ∧ b.k = 9
      · obtain ⟨h1, h2⟩ := h9
        have spa := ordp_srp a.ks (min a.ks.length a.is.length)
        have spb := ordp_srp b.ks (min b.ks.length b.is.length)
        rw [eqf_map h1 h2, alk_iff, teq_map ha hb h1 h2 spa spb]
        refine and_congr_right fun _ => ⟨fun h i p q hp hq => ?_, fun h i p q hp hq => ?_⟩
        · have hx := h i p q hp hq
          unfold eqk at hx
          rw [Bool.and_eq_true, decide_eq_true_iff] at hx
          refine ⟨hx.1, fun u v hu hv => ?_⟩
          have hy := hx.2
          rw [eqx_at hu hv] at hy
          exact (ih' u (List.mem_of_getElem? hu) v (ha.i u (List.mem_of_getElem? hu)) (hb.i v (List.mem_of_getElem? hv))).1 hy
        · have hx := h i p q hp hq
          have l1 := spa.lt p (List.mem_of_getElem? hp)
          have l2 := spb.lt q (List.mem_of_getElem? hq)
          have hu := List.getElem?_eq_getElem (show p < a.is.length by omega)
          have hv := List.getElem?_eq_getElem (show q < b.is.length by omega)
          unfold eqk
          rw [Bool.and_eq_true, decide_eq_true_iff, eqx_at hu hv]
          exact ⟨hx.1, (ih' _ (List.mem_of_getElem? hu) _ (ha.i _ (List.mem_of_getElem? hu)) (hb.i _ (List.mem_of_getElem? hv))).2 (hx.2 _ _ hu hv)⟩
      · rw [eqf_rest h9]
        simp only [Bool.and_eq_true, decide_eq_true_iff, alk_iff]
        constructor
        · rintro ⟨e0, e1, e2, e3, e4, e5, e6, e7, e8, e9⟩
          have ka : a.k ≠ 9 := fun e => h9 ⟨e, e0 ▸ e⟩
          refine teq_rest ka ⟨e0.symm, e1.symm, e2.symm, e3.symm, e4.symm, e5.symm, e7.symm, e6.symm⟩ (ha.e ka) (hb.e (by rw [← e0]; exact ka)) (by simpa using e8) (fun i u v hu hv => ?_)
          have l1 := (List.getElem?_eq_some_iff.1 hu).1
          have l2 := (List.getElem?_eq_some_iff.1 hv).1
          have hx := e9 i i i (List.getElem?_range l1) (List.getElem?_range l2)
          rw [eqx_at hu hv] at hx
          exact (ih' u (List.mem_of_getElem? hu) v (ha.i u (List.mem_of_getElem? hu)) (hb.i v (List.mem_of_getElem? hv))).1 hx
        · intro ht
          have tp := teq_top ht
          have ka : a.k ≠ 9 := fun e => h9 ⟨e, tp.k.trans e⟩
          obtain ⟨n1, i1⟩ := teq_items ka ht
          refine ⟨tp.k.symm, tp.f.symm, tp.g.symm, tp.n.symm, tp.b.symm, tp.s.symm, tp.l.symm, tp.y.symm, by simpa using n1, fun i x y hx hy => ?_⟩
          have l1 := (List.getElem?_eq_some_iff.1 hx).1
          have l2 := (List.getElem?_eq_some_iff.1 hy).1
          simp at l1 l2
          rw [List.getElem?_range l1] at hx
          rw [List.getElem?_range l2] at hy
          injection hx with hx
          injection hy with hy
          subst hx
          subst hy
          have hu := List.getElem?_eq_getElem l1
          have hv := List.getElem?_eq_getElem l2
          rw [eqx_at hu hv]
          exact (ih' _ (List.mem_of_getElem? hu) _ (ha.i _ (List.mem_of_getElem? hu)) (hb.i _ (List.mem_of_getElem? hv))).2 (i1 i _ _ hu hv)
  exact h _ a rfl
end
section
open Go.RowKit Go
theorem sorted6_any (t : Tv) : AgainC 11 SrtR t := by
  have h : ∀ N, ∀ t : Tv, SizeOf.sizeOf t = N → AgainC 11 SrtR t := by
    intro N
    induction N using Nat.strongRecOn with
    | _ N ih => exact fun t hN => sorted_step t (fun u hu => ih _ (by rw [← hN]; exact Tv.is_lt hu) u rfl)
  exact h _ t rfl
theorem mad_eq {is js : List Tv} (h : Mad (fun u s => s = u) is js) : js = is := by
  apply List.ext_getElem?
  intro i
  by_cases hi : i < is.length
  · have hj : i < js.length := by rw [h.n]; exact hi
    rw [List.getElem?_eq_getElem hi, List.getElem?_eq_getElem hj, h.r i _ _ (List.getElem?_eq_getElem hi) (List.getElem?_eq_getElem hj)]
  · have := h.n
    rw [List.getElem?_eq_none (by omega), List.getElem?_eq_none (by omega)]
theorem wi_self (t : Tv) : t.wi t.is = t := by
  obtain ⟨k, f, g, n, b, s, y, l, ks, is⟩ := t
  rfl
end
section
open Go.RowKit Go
def saa : ByteArray := ⟨#[97, 97]⟩
def sbb : ByteArray := ⟨#[98]⟩
def tone : Tv := .mk 3 false false 1 0 ⟨#[]⟩ [] ⟨0, 0, 0, []⟩ [] []
def tnull : Tv := .mk 1 false false 0 0 ⟨#[]⟩ [] ⟨0, 0, 0, []⟩ [] []
/-- The map of two entries. -/
def ttwo : Tv := .mk 9 false false 0 0 ⟨#[]⟩ [] ⟨0, 0, 0, []⟩ [saa, sbb] [tone, tnull]
theorem lkb0 : Lkb ⟨0, 0, 0, []⟩ := ⟨by show 0 < _; decide, by show 0 < _; decide, by simp, by show 0 ≤ _; decide⟩
theorem bsl0 (w : World) : BSl w (.slice none 0 0) [] := ⟨⟨none, 0, rfl, ⟨by simp, fun _ => rfl⟩, .inl rfl⟩, by simp, by simp⟩
theorem ssl0 (w : World) : SSl w (.slice none 0 0) [] := ⟨⟨none, 0, rfl, ⟨by simp, fun _ => rfl⟩, .inl rfl⟩, by simp, by simp⟩
theorem vsl0 (w : World) : VSl w (.slice none 0 0) [] := ⟨⟨none, 0, rfl, ⟨by simp, fun _ => rfl⟩, .inl rfl⟩, by simp⟩
theorem tin_one (w : World) : Tin w tone (vcs tone (.slice none 0 0) (.slice none 0 0) (.slice none 0 0)) := Tin.of (bsl0 w) (ssl0 w) (vsl0 w) ⟨by show 1 < _; decide, by show 0 < _; decide, by show (0 : Nat) ≤ _; decide, by show (0 : Nat) ≤ _; decide, lkb0, by show (0 : Nat) ≤ _; decide⟩
theorem tin_null (w : World) : Tin w tnull (vcs tnull (.slice none 0 0) (.slice none 0 0) (.slice none 0 0)) := Tin.of (bsl0 w) (ssl0 w) (vsl0 w) ⟨by show 0 < _; decide, by show 0 < _; decide, by show (0 : Nat) ≤ _; decide, by show (0 : Nat) ≤ _; decide, lkb0, by show (0 : Nat) ≤ _; decide⟩
def cTwo (n : Nat) : Array Value := vcs ttwo (.slice none 0 0) (.slice (some ⟨n + 1 + 1, 0, none⟩) 2 2) (.slice (some ⟨n + 1 + 1 + 1, 0, none⟩) 2 2)
def cOne : Array Value := vcs tone (.slice none 0 0) (.slice none 0 0) (.slice none 0 0)
def cNul : Array Value := vcs tnull (.slice none 0 0) (.slice none 0 0) (.slice none 0 0)
def wTwo (w : World) : World := (((w.alloc (.cells (cTwo w.heap.size) 29)).alloc (.cells cOne 29)).alloc (.cells #[.string saa, .string sbb] 9)).alloc (.cells (cOne ++ cNul) 29)
theorem two_tin (w : World) : Tin (wTwo w) ttwo (cTwo w.heap.size) ∧ Below w.heap.size w (wTwo w) ∧ (wTwo w).heap[w.heap.size]? = some (.cells (cTwo w.heap.size) 29 (0, 0)) := by
  have e1 : (w.alloc (.cells (cTwo w.heap.size) 29)).heap.size = w.heap.size + 1 := by simp
  have e2 : ((w.alloc (.cells (cTwo w.heap.size) 29)).alloc (.cells cOne 29)).heap.size = w.heap.size + 1 + 1 := by simp
  have e3 : (((w.alloc (.cells (cTwo w.heap.size) 29)).alloc (.cells cOne 29)).alloc (.cells #[.string saa, .string sbb] 9)).heap.size = w.heap.size + 1 + 1 + 1 := by simp
  have h1 := heap_alloc_new w (.cells (cTwo w.heap.size) 29)
  have h3 := heap_alloc_new ((w.alloc (.cells (cTwo w.heap.size) 29)).alloc (.cells cOne 29)) (.cells #[.string saa, .string sbb] 9)
  have h4 := heap_alloc_new (((w.alloc (.cells (cTwo w.heap.size) 29)).alloc (.cells cOne 29)).alloc (.cells #[.string saa, .string sbb] 9)) (.cells (cOne ++ cNul) 29)
  rw [e2] at h3
  rw [e3] at h4
  have hK : (wTwo w).heap[w.heap.size + 1 + 1]? = some (.cells #[.string saa, .string sbb] 9 (0, 0)) := blk_alloc _ h3
  have hI : (wTwo w).heap[w.heap.size + 1 + 1 + 1]? = some (.cells (cOne ++ cNul) 29 (0, 0)) := h4
  have b1 := below_alloc4 w (.cells (cTwo w.heap.size) 29)
  have b2 := below_alloc4 (w.alloc (.cells (cTwo w.heap.size) 29)) (.cells cOne 29)
  have b3 := below_alloc4 ((w.alloc (.cells (cTwo w.heap.size) 29)).alloc (.cells cOne 29)) (.cells #[.string saa, .string sbb] 9)
  have b4 := below_alloc4 (((w.alloc (.cells (cTwo w.heap.size) 29)).alloc (.cells cOne 29)).alloc (.cells #[.string saa, .string sbb] 9)) (.cells (cOne ++ cNul) 29)
  refine ⟨Tin.of (bsl0 _) ?_ ?_ ⟨by show 0 < _; decide, by show 0 < _; decide, by show (0 : Nat) ≤ _; decide, by show (0 : Nat) ≤ _; decide, lkb0, by show (0 : Nat) ≤ _; decide⟩, ((b1.trans (b2.mono (by omega))).trans (b3.mono (by omega))).trans (b4.mono (by omega)), blk_alloc _ (blk_alloc _ (blk_alloc _ h1))⟩
  · refine ⟨⟨_, 2, rfl, ⟨by decide, fun h => by cases h⟩, .inr ⟨w.heap.size + 1 + 1, 0, rfl, fun j s hj => ?_⟩⟩, by decide, fun s hs => ?_⟩
    · rw [Nat.zero_add]
      match j, hj with
      | 0, hj =>
        injection hj with hj
        subst hj
        exact blk_cell hK rfl
      | 1, hj =>
        injection hj with hj
        subst hj
        exact blk_cell hK rfl
      | j + 2, hj => simp [ttwo, Tv.ks] at hj
    · simp only [ttwo, Tv.ks, List.mem_cons, List.not_mem_nil, or_false] at hs
      rcases hs with rfl | rfl
      · show (2 : Nat) ≤ _
        decide
      · show (1 : Nat) ≤ _
        decide
  · refine ⟨⟨_, 2, rfl, ⟨by decide, fun h => by cases h⟩, .inr ⟨w.heap.size + 1 + 1 + 1, 0, rfl, fun i t hi => ?_⟩⟩, by decide⟩
    match i, hi with
    | 0, hi =>
      injection hi with hi
      subst hi
      refine ⟨_, tin_one _, fun j u hu => ?_⟩
      rw [show 0 + 0 * 13 + j = j by omega]
      have hj : j < 13 := (Array.getElem?_eq_some_iff.1 hu).1
      exact blk_cell hI (by rw [Array.getElem?_append_left (by exact hj)]; exact hu)
    | 1, hi =>
      injection hi with hi
      subst hi
      refine ⟨_, tin_null _, fun j u hu => ?_⟩
      rw [show 0 + 1 * 13 + j = 13 + j by omega]
      exact blk_cell hI (by rw [Array.getElem?_append_right (by show 13 ≤ 13 + j; omega)]; show cNul[13 + j - 13]? = some u; rw [Nat.add_sub_cancel_left]; exact hu)
    | i + 2, hi => simp [ttwo, Tv.is] at hi
theorem end_tw {wx : World} {R : Nat} {c : Array Value} {tmps : Array Value} (hn : c.size = 13) (hr : wx.heap[R]? = some (.cells c 29 (0, 0))) (hp : tmps.getD 0 undef = .pointer (some ⟨R, 0, none⟩)) : (results Tryd.f21 tmps).run Tryd.prog wx = .ok (.agg c) wx := by
  refine (results_one (p := 0) (ty := 29) rfl _ _ _).trans ?_
  rw [hp]
  have h1 := run_loadVar_row (P := Tryd.prog) wx R 29 29 c (0, 0) _ hr Tryd.underlying29 rfl (by rw [hn]; exact infoV)
  simp [asAddr, h1, Result.andThen]
set_option maxRecDepth 1000000 in
set_option maxHeartbeats 1000000 in
theorem two_any (w : World) : Calls Tryd.prog 21 #[] w fun e w' => ∃ c, e = .returned (.agg c) ∧ Tin w' ttwo c ∧ Below w.heap.size w w' := by
  have HTW := hide (two_tin w)
  go_enter Tryd.func21, Tryd.ntmps21
  go_wp2_with fail
  exact bodyPost_ret (end_tw rfl HTW.out.2.2 rfl) rfl ⟨_, rfl, HTW.out.1, HTW.out.2.1⟩
end
section
open Go.RowKit Go
theorem Top.self (t : Tv) : Top t t := ⟨rfl, rfl, rfl, rfl, rfl, rfl, rfl, rfl⟩
theorem pickS_range (ks : List ByteArray) : pickS ks (List.range ks.length) = ks := by
  apply List.ext_getElem?
  intro i
  by_cases hi : i < ks.length
  · rw [pickS_at (List.getElem?_range hi), List.getElem?_eq_getElem hi]
    simp [List.getD, List.getElem?_eq_getElem hi]
  · rw [List.getElem?_eq_none (by rw [pickS_len]; simpa using hi), List.getElem?_eq_none (by omega)]
/-- What is sorted is its own sorted form. -/
theorem srt_idem {t s : Tv} (h : SrtR t s) : SrtR s s := by
  induction h with
  | rest t s h9 ht hk hn hi ih =>
    refine SrtR.rest s s (by rw [ht.k]; exact h9) (Top.self s) rfl rfl (fun i u v hu hv => ?_)
    rw [hu] at hv
    injection hv with hv
    subst hv
    have hl := (List.getElem?_eq_some_iff.1 hu).1
    exact ih i _ u (List.getElem?_eq_getElem (by omega)) hu
  | map t s ps h9 ht hp hk hn hi ih =>
    have hkl : s.ks.length = ps.length := by rw [hk, pickS_len]
    have hpl := hp.len
    have hm : min s.ks.length s.is.length = s.ks.length := by omega
    refine SrtR.map s s (List.range s.ks.length) (by rw [ht.k]; exact h9) (Top.self s) ?_ (pickS_range s.ks).symm (by simp; omega) (fun i p u v hp' hu hv => ?_)
    · rw [hm]
      refine ⟨List.Perm.refl _, fun i j p q hij h1 h2 => ?_⟩
      have l1 := (List.getElem?_eq_some_iff.1 h1).1
      have l2 := (List.getElem?_eq_some_iff.1 h2).1
      simp at l1 l2
      rw [List.getElem?_range l1] at h1
      rw [List.getElem?_range l2] at h2
      injection h1 with h1
      injection h2 with h2
      subst h1
      subst h2
      have g1 : ps[i]? = some (ps[i]'(by omega)) := List.getElem?_eq_getElem (by omega)
      have g2 : ps[j]? = some (ps[j]'(by omega)) := List.getElem?_eq_getElem (by omega)
      have hs := hp.s i j _ _ hij g1 g2
      have k1 := pickS_at (ks := t.ks) g1
      have k2 := pickS_at (ks := t.ks) g2
      rw [← hk] at k1 k2
      simp only [List.getD, k1, k2, Option.getD_some]
      exact hs
    · have l1 := (List.getElem?_eq_some_iff.1 hp').1
      simp at l1
      rw [List.getElem?_range l1] at hp'
      injection hp' with hp'
      subst hp'
      rw [hu] at hv
      injection hv with hv
      subst hv
      have g1 : ps[i]? = some (ps[i]'(by omega)) := List.getElem?_eq_getElem (by omega)
      have m1 := hp.lt _ (List.mem_of_getElem? g1)
      exact ih i _ _ u g1 (List.getElem?_eq_getElem (by omega)) hu
theorem trk_srt {t s : Tv} (h : SrtR t s) : Trk t → Trk s := by
  induction h with
  | rest t s h9 ht hk hn hi ih =>
    intro hT
    refine Trk.mk s (fun e => absurd (ht.k.symm.trans e) h9) (fun _ => by rw [hk]; exact hT.e h9) (fun v hv => ?_)
    obtain ⟨i, hil, e⟩ := List.getElem_of_mem hv
    have hs : s.is[i]? = some v := by rw [List.getElem?_eq_getElem hil, e]
    have hu := List.getElem?_eq_getElem (show i < t.is.length by omega)
    exact ih i _ v hu hs (hT.i _ (List.mem_of_getElem? hu))
  | map t s ps h9 ht hp hk hn hi ih =>
    intro hT
    obtain ⟨l1, l2, f⟩ := hT.m h9
    have hpl := hp.len
    refine Trk.mk s (fun _ => ⟨by rw [hk, pickS_len, hn], ?_, by rw [ht.f]; exact f.1, by rw [ht.g]; exact f.2.1, by rw [ht.n]; exact f.2.2.1, by rw [ht.b]; exact f.2.2.2.1, by rw [ht.s]; exact f.2.2.2.2.1, by rw [ht.y]; exact f.2.2.2.2.2.1, by rw [ht.l]; exact f.2.2.2.2.2.2⟩) (fun e => absurd (ht.k.trans h9) e) (fun v hv => ?_)
    · rw [hk, List.Nodup, List.pairwise_iff_getElem]
      intro i j hi' hj' hij e
      rw [pickS_len] at hi' hj'
      have hnd : ps.Nodup := hp.p.nodup_iff.2 List.nodup_range
      have hx := List.pairwise_iff_getElem.1 hnd i j hi' hj' hij
      have m1 := hp.lt _ (List.getElem_mem hi')
      have m2 := hp.lt _ (List.getElem_mem hj')
      refine hx (nodup_at l2 (by omega) (by omega) ?_)
      simpa [pickS] using e
    · obtain ⟨i, hil, e⟩ := List.getElem_of_mem hv
      have hs : s.is[i]? = some v := by rw [List.getElem?_eq_getElem hil, e]
      have g1 : ps[i]? = some (ps[i]'(by omega)) := List.getElem?_eq_getElem (by omega)
      have m1 := hp.lt _ (List.mem_of_getElem? g1)
      have hu := List.getElem?_eq_getElem (show ps[i]'(by omega) < t.is.length by omega)
      exact ih i _ _ v g1 hu hs (hT.i _ (List.mem_of_getElem? hu))
end
section
open Go.RowKit Go
def ttwoS : Tv := .mk 9 false false 0 0 ⟨#[]⟩ [] ⟨0, 0, 0, []⟩ [sbb, saa] [tnull, tone]
theorem srt_leaf {t v : Tv} (h9 : t.k ≠ 9) (hi : t.is = []) (h : SrtR t v) : v = t := by
  cases h with
  | map _ _ _ e => exact absurd e h9
  | rest _ _ _ ht hk hn _ =>
    have e : v.is = [] := List.length_eq_zero_iff.1 (by rw [hn, hi]; rfl)
    exact Tv.same ht.k ht.f ht.g ht.n ht.b ht.s ht.l ht.y hk (by rw [e, hi])
theorem two_srp : Srp ttwo.ks 2 [1, 0] := by
  refine ⟨by decide, fun i j p q hij h1 h2 => ?_⟩
  have hj := (List.getElem?_eq_some_iff.1 h2).1
  simp at hj
  have e1 : i = 0 := by omega
  have e2 : j = 1 := by omega
  subst e1 e2
  simp at h1 h2
  subst h1 h2
  rfl
theorem two_srt {x : Tv} (h : SrtR ttwo x) : x = ttwoS := by
  cases h with
  | rest _ _ e => exact absurd rfl e
  | map _ _ ps _ ht hp hk hn hi =>
    have e := srp_one (ks := ttwo.ks) (n := 2) (by decide) (by decide) hp two_srp
    subst e
    have hks : x.ks = [sbb, saa] := hk
    have h2 : x.is.length = 2 := hn
    have g0 := List.getElem?_eq_getElem (show 0 < x.is.length by omega)
    have g1 := List.getElem?_eq_getElem (show 1 < x.is.length by omega)
    have v0 := srt_leaf (t := tnull) (by decide) rfl (hi 0 1 tnull _ rfl rfl g0)
    have v1 := srt_leaf (t := tone) (by decide) rfl (hi 1 0 tone _ rfl rfl g1)
    have his : x.is = [tnull, tone] := by
      apply List.ext_getElem?
      intro i
      match i with
      | 0 => rw [g0, v0]; rfl
      | 1 => rw [g1, v1]; rfl
      | i + 2 => rw [List.getElem?_eq_none (by omega), List.getElem?_eq_none (by simp)]
    exact Tv.same ht.k ht.f ht.g ht.n ht.b ht.s ht.l ht.y hks his
theorem two_trk : Trk ttwo := by
  refine Trk.mk ttwo (fun _ => ⟨rfl, by decide, rfl, rfl, rfl, rfl, rfl, rfl, rfl⟩) (fun e => absurd rfl e) (fun u hu => ?_)
  simp only [ttwo, Tv.is, List.mem_cons, List.not_mem_nil, or_false] at hu
  rcases hu with rfl | rfl
  · exact Trk.mk tone (fun e => absurd e (by decide)) (fun _ => rfl) (fun u hu => by simp [tone, Tv.is] at hu)
  · exact Trk.mk tnull (fun e => absurd e (by decide)) (fun _ => rfl) (fun u hu => by simp [tnull, Tv.is] at hu)
theorem two_eq (h : SrtR ttwo ttwoS) : eqf ttwo ttwoS = true := (eqf_teq ttwo ttwoS two_trk (trk_srt h two_trk)).2 ⟨ttwoS, h, srt_idem h⟩
theorem bad_e : badb ⟨#[]⟩ = false := by decide +kernel
theorem bad_aa : badb saa = false := by decide +kernel
theorem bad_bb : badb sbb = false := by decide +kernel
theorem one_chk : chkf tone 1 = 0 := by
  rw [chkf_eq]
  have h : onef tone 1 = 0 := by
    unfold onef
    rw [if_neg (by decide), if_neg (by decide), if_neg (by decide), if_neg (by rw [show tone.s = ⟨#[]⟩ from rfl, bad_e, show tone.ks = [] from rfl]; simp), if_neg (by intro h; exact absurd h.1 (by decide)), if_neg (by intro h; exact absurd h.1 (by decide))]
  rw [if_pos h]
  show chkL [] _ = 0
  rw [chkL]
theorem null_chk : chkf tnull 1 = 0 := by
  rw [chkf_eq]
  have h : onef tnull 1 = 0 := by
    unfold onef
    rw [if_neg (by decide), if_neg (by decide), if_neg (by decide), if_neg (by rw [show tnull.s = ⟨#[]⟩ from rfl, bad_e, show tnull.ks = [] from rfl]; simp), if_neg (by intro h; exact absurd h.1 (by decide)), if_neg (by intro h; exact absurd h.1 (by decide))]
  rw [if_pos h]
  show chkL [] _ = 0
  rw [chkL]
theorem two_chk : chkf ttwo 0 = 0 := by
  rw [chkf_eq]
  have h : onef ttwo 0 = 0 := by
    unfold onef
    rw [if_neg (by decide), if_neg (by decide), if_neg (by decide), if_neg (by rw [show ttwo.s = ⟨#[]⟩ from rfl, bad_e, show ttwo.ks = [saa, sbb] from rfl]; simp [bad_aa, bad_bb]), if_neg (by intro h; exact absurd h.1 (by decide)), if_neg (by intro h; exact h.2 ⟨rfl, by decide⟩)]
  rw [if_pos h]
  refine chkL_none (fun u hu => ?_)
  simp only [ttwo, Tv.is, List.mem_cons, List.not_mem_nil, or_false] at hu
  rcases hu with rfl | rfl
  · exact one_chk
  · exact null_chk
theorem zero_chk : chkf zt 0 = 61 := by
  rw [chkf_eq]
  have h : onef zt 0 = 61 := by
    unfold onef
    rw [if_neg (by decide), if_pos (by decide)]
  rw [h]
  rfl
theorem tin_zero (w : World) : Tin w zt zv := Tin.of (bsl0 w) (ssl0 w) (vsl0 w) ⟨by show 0 < _; decide, by show 0 < _; decide, by show (0 : Nat) ≤ _; decide, by show (0 : Nat) ≤ _; decide, lkb0, by show (0 : Nat) ≤ _; decide⟩
theorem two_much : tmuch ttwo ≤ 100000 ∧ tmuch ttwoS ≤ 100000 ∧ tmuch zt ≤ 100000 ∧ tdepth ttwo = 1 := by
  refine ⟨?_, ?_, ?_, ?_⟩ <;> decide +kernel
end
section
open Go.RowKit Go
set_option maxRecDepth 1000000 in
theorem num6_any (n : Int) (w : World) : Calls Tryd.prog 6 #[.int .i64 n] w fun e w' => e = .returned (.int .i64 n) ∧ w' = w := by
  go_enter Tryd.func6, Tryd.ntmps6
  go_wp2_with fail
  go_ret
  exact ⟨rfl, rfl⟩
/-- What wakes has in hand. -/
structure Wk (w wx : World) (g1 g2 : Nat) (c1 c2 : Array Value) : Prop where
  b : Below w.heap.size w wx
  x : wx.heap[g1]? = some (.cells c1 29 (0, 0))
  y : wx.heap[g2]? = some (.cells c2 29 (0, 0))
  t : Tin wx ttwo c1
  s : Tin wx ttwoS c2
  u : Tabs wx
theorem Wk.next {w wx wy : World} {g1 g2 : Nat} {c1 c2 : Array Value} (h : Wk w wx g1 g2 c1 c2) (hb : Below wx.heap.size wx wy) : Wk w wy g1 g2 c1 c2 :=
  ⟨h.b.trans (hb.mono h.b.size), (hb.block _ (blk_lt h.x)).trans h.x, (hb.block _ (blk_lt h.y)).trans h.y, h.t.move (keep_below hb), h.s.move (keep_below hb), h.u.next hb⟩
theorem Wk.vx {w wx : World} {g1 g2 : Nat} {c1 c2 : Array Value} (h : Wk w wx g1 g2 c1 c2) : ∀ j u, c1[j]? = some u → wx.cell? ⟨g1, 0 + j, none⟩ = some u := fun j u hu => by rw [Nat.zero_add]; exact blk_cell h.x hu
theorem Wk.vy {w wx : World} {g1 g2 : Nat} {c1 c2 : Array Value} (h : Wk w wx g1 g2 c1 c2) : ∀ j u, c2[j]? = some u → wx.cell? ⟨g2, 0 + j, none⟩ = some u := fun j u hu => by rw [Nat.zero_add]; exact blk_cell h.y hu
set_option maxRecDepth 1000000 in
set_option maxHeartbeats 2000000 in
theorem wakes_any (w : World) (hT : Tabs w) : Calls Tryd.prog 8 #[] w fun e w' => e = .returned (.bool true) ∧ Below w.heap.size w w' := by
  have HT := hide hT
  clear hT
  have HNU := hide (fun n W => num6_any n W)
  go_enter Tryd.func8, Tryd.ntmps8
  go_wp2_with fail
  refine (two_any w).mono ?_
  rintro e w1 ⟨c, rfl, ht, hb1⟩
  have HT1 := hide ht
  have HB1 := hide hb1
  have HSZ := hide ht.size13
  have HA1 := hide ht.all1
  have HIT := hide (itm_mk w1 c)
  have HG0 := hide (heap_alloc_new w1 (.cells zv 29))
  have HIN : Hid ((Tryd.prog.info? 29).map (·.size) = some c.size) := by show _ = _; rw [HSZ.out]; exact infoV
  have HZV : Hid (zv.size = c.size) := by show _ = _; rw [HSZ.out]; rfl
  have HCX := hide HIT.out.cells
  clear ht hb1
  go_wp2_with (first
    | (refine wpList_storeRow rfl rfl w1.heap.size zv c 29 rfl rfl HG0.out HIN.out HZV.out HA1.out ?_)
    | (refine wpList_valAt rfl rfl w1.heap.size 0 c rfl HSZ.out HCX.out ?_))
  refine (sorted6_any ttwo _ c (HT1.out.move (keep_below HIT.out.b)) two_much.1).mono ?_
  rintro e w3 ⟨c3, s, rfl, hS, hn, hb3⟩
  have hs := two_srt hS
  subst hs
  have HSR := hide hS
  have HT3 := hide hn.tin
  have HZ3 := hide hn.size
  have HA3 := hide hn.tin.all1
  have HX3 : Hid (w3.heap[w1.heap.size]? = some (.cells c 29 (0, 0))) := (hb3.block _ (blk_lt HIT.out.r)).trans HIT.out.r
  have HB3 : Hid (Below w.heap.size w w3 ∧ Tin w3 ttwo c) := ⟨(HB1.out.trans (HIT.out.b.mono HB1.out.size)).trans (hb3.mono (Nat.le_trans HB1.out.size HIT.out.b.size)), (HT1.out.move (keep_below HIT.out.b)).move (keep_below hb3)⟩
  clear hS hn hb3 HT1 HIT HG0 HCX HA1 HIN HZV
  have HIT := hide (itm_mk w3 c3)
  have HG0 := hide (heap_alloc_new w3 (.cells zv 29))
  have HIN : Hid ((Tryd.prog.info? 29).map (·.size) = some c3.size) := by show _ = _; rw [HZ3.out]; exact infoV
  have HZV : Hid (zv.size = c3.size) := by show _ = _; rw [HZ3.out]; rfl
  have HW4 : Hid (Wk w ((w3.alloc (.cells zv 29)).setRow w3.heap.size c3) w1.heap.size w3.heap.size c c3) := ⟨HB3.out.1.trans (HIT.out.b.mono HB3.out.1.size), (HIT.out.b.block _ (blk_lt HX3.out)).trans HX3.out, HIT.out.r, HB3.out.2.move (keep_below HIT.out.b), HT3.out.move (keep_below HIT.out.b), (HT.out.next HB3.out.1).next HIT.out.b⟩
  have HV4 := hide HW4.out.vx
  clear HX3 HB3 HT3 HT
  go_wp2_with (first
    | (refine wpList_storeRow rfl rfl w3.heap.size zv c3 29 rfl rfl HG0.out HIN.out HZV.out HA3.out ?_)
    | (refine wpList_valAt rfl rfl w1.heap.size 0 c rfl HSZ.out HV4.out ?_))
  refine (check6_any ttwo _ c HW4.out.t two_much.1 HW4.out.u).mono ?_
  rintro e w5 ⟨rfl, hb5⟩
  rw [two_chk]
  have HW5 := hide (HW4.out.next hb5)
  clear hb5 HW4 HV4 HIT HG0 HIN HZV HA3
  go_wp2_with (go_at_call 6; refine (Hid.out HNU _ _).mono ?_; rintro e w' ⟨rfl, hww⟩; have hww := hww.symm; subst hww)
  refine (check6_any zt _ zv (tin_zero _) two_much.2.2.1 HW5.out.u).mono ?_
  rintro e w6 ⟨rfl, hb6⟩
  rw [zero_chk]
  have HW6 := hide (HW5.out.next hb6)
  have HV6 := hide HW6.out.vx
  clear hb6 HW5
  go_wp2_with (first
    | (refine wpList_valAt rfl rfl w1.heap.size 0 c rfl HSZ.out HV6.out ?_)
    | (go_at_call 6; refine (Hid.out HNU _ _).mono ?_; rintro e w' ⟨rfl, hww⟩; have hww := hww.symm; subst hww))
  refine (depth_any ttwo _ c HW6.out.t (by rw [two_much.2.2.2]; omega)).mono ?_
  rintro e w7 ⟨rfl, hb7⟩
  rw [two_much.2.2.2]
  have HW7 := hide (HW6.out.next hb7)
  clear hb7 HW6 HV6
  obtain ⟨vy, vk, vi, hc3, _, hkk, _, _⟩ := HW7.out.s.parts
  have HKK := hide hkk
  obtain ⟨⟨ka, kc, hvk, _, _⟩, _, _⟩ := hkk
  have q11 : w7.cell? ⟨w3.heap.size, 11, none⟩ = some (.slice ka 2 kc) := blk_cell HW7.out.y (by rw [hc3, hvk]; rfl)
  have HKX : Hid (SSl w7 (.slice ka 2 kc) [sbb, saa]) := by
    have h := HKK.out
    rw [hvk] at h
    exact h
  have HNX : Hid (SSl (w7.alloc (.cells #[.string sbb, .string saa] 9)) (.slice (some ⟨w7.heap.size, 0, none⟩) 2 2) [sbb, saa]) := by
    refine ⟨⟨_, 2, rfl, ⟨by decide, fun h => by cases h⟩, .inr ⟨w7.heap.size, 0, rfl, fun j s hj => ?_⟩⟩, by decide, fun s hs => ?_⟩
    · rw [Nat.zero_add]
      match j, hj with
      | 0, hj =>
        injection hj with hj
        subst hj
        exact blk_cell (heap_alloc_new w7 _) rfl
      | 1, hj =>
        injection hj with hj
        subst hj
        exact blk_cell (heap_alloc_new w7 _) rfl
      | j + 2, hj => simp at hj
    · simp only [List.mem_cons, List.not_mem_nil, or_false] at hs
      rcases hs with rfl | rfl
      · show (1 : Nat) ≤ _
        decide
      · show (2 : Nat) ≤ _
        decide
  have HW8 := hide (HW7.out.next (below_alloc4 w7 (.cells #[.string sbb, .string saa] 9)))
  have HKY := hide (HKX.out.move (keep_below (below_alloc4 w7 (.cells #[.string sbb, .string saa] 9))))
  clear hc3 hvk HKK HKX HW7
  go_wp2_with fail
  refine (eqStrings_any HKY.out HNX.out).mono ?_
  rintro e w9 ⟨rfl, hb9⟩
  rw [decide_eq_true rfl]
  have HW9 := hide (HW8.out.next hb9)
  have HV9 := hide HW9.out.vx
  have HU9 := hide HW9.out.vy
  clear hb9 HW8 HKY HNX q11
  go_wp2_with (first
    | (refine wpList_valAt rfl rfl w1.heap.size 0 c rfl HSZ.out HV9.out ?_)
    | (refine wpList_valAt rfl rfl w3.heap.size 0 c3 rfl HZ3.out HU9.out ?_))
  refine (equal6_any ttwo ttwoS w9 c c3 HW9.out.t HW9.out.s two_much.1 two_much.2.1).mono ?_
  rintro e w10 ⟨rfl, hb10⟩
  rw [two_eq HSR.out]
  have HW10 := hide (HW9.out.next hb10)
  clear hb10 HW9 HV9 HU9
  go_wp2_with fail
  refine (before_any sbb saa w10).mono ?_
  rintro e w11 ⟨rfl, hww⟩
  have hww := hww.symm
  subst hww
  have HBF : Hid (bfr (sl sbb) (sl saa) = true) := by show _ = _; decide +kernel
  rw [HBF.out]
  go_wp2_with fail
  go_ret
  exact ⟨rfl, HW10.out.b⟩
end
section
open Go.RowKit Go
theorem acc_eq : (Rows.laid_unicode_utf8_acceptRanges : DataW Unit) = Lib.acceptData := by kernel_rfl
theorem fst_eq : Rows.laid_unicode_utf8_first = Lib.firstData := by kernel_rfl
theorem tabs_of_laid {W : World} (h : laidMet Tryd.prog [("unicode/utf8.acceptRanges", Rows.laid_unicode_utf8_acceptRanges), ("unicode/utf8.first", Rows.laid_unicode_utf8_first)] W) : Tabs W := by
  rw [acc_eq, fst_eq] at h
  exact utf8Tabs_of_readsT (U8Types.of196 Tryd.laysValid) ⟨by kernel_rfl, by kernel_rfl, by kernel_rfl, by kernel_rfl, by kernel_rfl, by kernel_rfl, by kernel_rfl⟩ (Lib.laidMet.reads h (.tail _ (.head _))) (Lib.laidMet.reads h (.head _))
/-- The settled world, the tables laid. -/
noncomputable def laidWorld6 (os : Os) : World :=
  let w0 := World.holding Tryd.prog os ⟨#[], #[], []⟩
  let put (h : Array Obj) (g : Nat) (cs : Array Value) : Array Obj := h.modify g fun
    | .cells _ t frozen => .cells cs t frozen
    | o => o
  let h1 := put w0.heap 1 (Lib.firstTab.map fun z => Value.int .u8 z).toArray
  let h2 := put h1 2 ((List.range 16).flatMap fun i => [Value.int .u8 (Lib.accLo i), Value.int .u8 (Lib.accHi i)]).toArray
  { w0 with heap := h2 }
theorem laid_met6 (os : Os) (args : Array Value) : laidMet Tryd.prog [("unicode/utf8.acceptRanges", Rows.laid_unicode_utf8_acceptRanges), ("unicode/utf8.first", Rows.laid_unicode_utf8_first)] ((laidWorld6 os).forCall (fun _ _ => 0) ⟨#[], args, []⟩).memory := by
  rw [acc_eq, fst_eq]
  exact (LaidIn.of_run (l := [("unicode/utf8.acceptRanges", Lib.acceptData), ("unicode/utf8.first", Lib.firstData)]) [2, 1] 8 (by kernel_rfl) (by kernel_rfl) (by kernel_rfl) (by kernel_rfl)).met
end
section
open Go.ChangeShapes Go.WideShapes Go.ChangeAt Go.RowKit Go.Deep Go.Joins Go
theorem weight_le {H : Type} {t : TypeId} {d : DataW H} (h : (d.weights Tryd.prog t).all (· ≤ reachBytes) = true) {n : Nat} (hn : n ∈ d.weights Tryd.prog t) : n ≤ 140737488351232 := by
  have := List.all_eq_true.1 h n hn
  unfold reachBytes at this
  simpa using this
theorem weight_each {H : Type} {ts : List TypeId} {ds : List (DataW H)} (h : (DataW.weightsEach Tryd.prog ts ds).all (· ≤ reachBytes) = true) {j : Nat} {t : TypeId} {d : DataW H} (ht : ts[j]? = some t) (hd : ds[j]? = some d) : (d.weights Tryd.prog t).all (· ≤ reachBytes) = true :=
  List.all_eq_true.2 fun n hn => List.all_eq_true.1 h n (DataW.weights_mem_each ht hd n hn)
theorem bsl_open6 {H : Type} {enc : TypeId × Value → H} {w : World} {base fuel : Nat} {held : Bool} {v : Value} {x : DataW H × List MemPlace} (h : DataW.trod enc Tryd.prog w base (fun _ => true) held fuel 23 [v] = some x) (hW : (x.1.weights Tryd.prog 23).all (· ≤ reachBytes) = true) : ∃ xs, BSl w v xs ∧ xs.length ≤ 140737488351232 := by
  rcases open_ints Tryd.underlying23 Tryd.underlying5 Tryd.cells5 h with ⟨hcs, _⟩ | ⟨a, len, cap, zs, hcs, _, hl, hm, hz, hx, hcell, hwz⟩
  · injection hcs with hcs _
    subst hcs
    exact ⟨_, bsl_of_row none 0 0 [] (Nat.le_refl _) (Nat.zero_le _) rfl (by simp) (fun _ => rfl) (fun _ hh => by cases hh), by simp⟩
  · injection hcs with hcs _
    subst hcs
    simp only [if_true] at hz
    refine ⟨_, bsl_of_row (some a) len cap zs hl hm hz hwz (fun hh => by cases hh) (fun a' hh c hc => by cases hh; exact hcell c (by omega)), ?_⟩
    have h1 := weight_le hW (n := cap) (by rw [hx]; exact row_weight a len cap zs hz)
    have hlen : ((zs.take len).map Int.toNat).length = len := by simp; omega
    omega
theorem Tryd.bytesStr : Tryd.prog.bytesOf 9 = 16 := by kernel_rfl
theorem Tryd.bytesValue : Tryd.prog.bytesOf 29 = 160 := by kernel_rfl
theorem ssl_open {H : Type} {enc : TypeId × Value → H} {w : World} {base fuel : Nat} {held : Bool} {v : Value} {x : DataW H × List MemPlace} (h : DataW.trod enc Tryd.prog w base (fun _ => true) held fuel 26 [v] = some x) (hW : (x.1.weights Tryd.prog 26).all (· ≤ reachBytes) = true) : ∃ ks, SSl w v ks := by
  rcases open_strings Tryd.underlying26 Tryd.underlying9 Tryd.cells_str h with ⟨hcs, _⟩ | ⟨a, len, cap, ss, hcs, _, hl, hm, hmm, hx, hel, hsz⟩
  · injection hcs with hcs _
    subst hcs
    exact ⟨[], ⟨none, 0, rfl, ⟨by simp, fun _ => rfl⟩, .inl rfl⟩, by simp, by simp⟩
  · injection hcs with hcs _
    subst hcs
    simp only [if_true] at hmm
    have hlen : (ss.take len).length = len := by rw [List.length_take]; omega
    unfold maxLen at hm
    have hw1 : len ≤ 140737488351232 := by
      have h1 := weight_le hW (n := ((strs (H := H) (ss.take len)).length + (strs (H := H) (ss.drop len)).length) * Tryd.prog.bytesOf 9) (by rw [hx]; simp only [DataW.weights, Tryd.underlying26]; exact List.mem_cons_self ..)
      rw [Tryd.bytesStr] at h1
      have h2 : (strs (H := H) (ss.take len)).length = len := by simp [strs]; omega
      omega
    have hw2 : ∀ s ∈ ss.take len, s.size ≤ 140737488351232 := fun s hs => by
      refine weight_le hW ?_
      rw [hx]
      simp only [DataW.weights, Tryd.underlying26]
      refine List.mem_cons.2 (.inr (List.mem_append.2 (.inl (weights_all (d := .lit (.string s.data.toList)) (List.mem_map.2 ⟨s, hs, rfl⟩) _ ?_))))
      simp only [DataW.weights, List.mem_singleton]
      rfl
    refine ⟨ss.take len, ⟨some a, cap, by rw [hlen], ⟨by rw [hlen]; exact hl, fun h => by cases h⟩, ?_⟩, by rw [hlen]; exact hw1, hw2⟩
    by_cases hz : len = 0
    · exact .inl (by rw [hz]; rfl)
    · obtain ⟨b, off, spot⟩ := a
      have hspot : spot = none := by
        have := hel 0 (by omega)
        simpa [Addr.add] using World.cell?_spot this
      subst hspot
      refine .inr ⟨b, off, rfl, fun j s hj => ?_⟩
      have hjl : j < len := by
        have := (List.getElem?_eq_some_iff.1 hj).1
        omega
      have h1 := hel j (by omega)
      rw [addr_add] at h1
      rw [h1]
      rw [List.getElem?_take_of_lt hjl] at hj
      rw [List.getD_eq_getElem?_getD, hj]
      rfl
theorem vsl_of {w : World} {a : Addr} {len cap : Nat} (hl : len ≤ cap) (hm : len ≤ 140737488351232) (each : ∀ i, i < len → ∃ t cs', Tin w t cs' ∧ ∀ j u, cs'[j]? = some u → w.cell? ((a.add (i * 13)).add j) = some u) : ∃ is, VSl w (.slice (some a) len cap) is := by
  have hch : ∀ i, ∃ t : Tv, i < len → ∃ cs', Tin w t cs' ∧ ∀ j u, cs'[j]? = some u → w.cell? ((a.add (i * 13)).add j) = some u := fun i => by
    by_cases hi : i < len
    · obtain ⟨t, h⟩ := each i hi
      exact ⟨t, fun _ => h⟩
    · exact ⟨.mk 0 false false 0 0 ByteArray.empty [] ⟨0, 0, 0, []⟩ [] [], fun h => absurd h hi⟩
  obtain ⟨f, hf⟩ := Classical.axiomOfChoice hch
  have hln : ((List.range len).map f).length = len := by simp
  refine ⟨(List.range len).map f, ⟨some a, cap, by rw [hln], ⟨by rw [hln]; exact hl, fun h => by cases h⟩, ?_⟩, by rw [hln]; omega⟩
  by_cases hz : len = 0
  · exact .inl (by rw [hz]; rfl)
  · obtain ⟨b, off, spot⟩ := a
    have hspot : spot = none := by
      obtain ⟨t, cs', ht, hc⟩ := each 0 (by omega)
      obtain ⟨vy, vk, vi, he, _⟩ := ht.parts
      have := hc 0 (.int .i64 t.k) (by rw [he]; rfl)
      simpa [Addr.add] using World.cell?_spot this
    subst hspot
    refine .inr ⟨b, off, rfl, fun i t hi => ?_⟩
    have hil : i < len := by
      have := (List.getElem?_eq_some_iff.1 hi).1
      omega
    rw [List.getElem?_map, List.getElem?_range hil] at hi
    injection hi with hi
    subst hi
    obtain ⟨cs', h1, h2⟩ := hf i hil
    refine ⟨cs', h1, fun j u hu => ?_⟩
    have := h2 j u hu
    rw [addr_add, addr_add] at this
    exact this
theorem Tryd.cellsValue : Tryd.prog.cellsOf 29 = 13 := by kernel_rfl
theorem Tryd.cells_bool : Tryd.prog.cellsOf 4 = 1 := by kernel_rfl
theorem Tryd.cells_strs : Tryd.prog.cellsOf 26 = 1 := by kernel_rfl
theorem Tryd.cells_values : Tryd.prog.cellsOf 27 = 1 := by kernel_rfl
theorem Tryd.cells_bytes6 : Tryd.prog.cellsOf 23 = 1 := by kernel_rfl
set_option maxRecDepth 100000 in
/-- A value opened. -/
theorem value_open {H : Type} {enc : TypeId × Value → H} {w : World} {base : Nat} {held : Bool} : ∀ (fuel : Nat) (cs : List Value) (x : DataW H × List MemPlace), DataW.trod enc Tryd.prog w base (fun _ => true) held fuel 29 cs = some x → (x.1.weights Tryd.prog 29).all (· ≤ reachBytes) = true → ∃ t, Tin w t cs.toArray := by
  intro fuel
  induction fuel using Nat.strongRecOn with
  | _ fuel ih =>
    intro cs x h hW
    obtain ⟨xs, n, hfu, hx, hlen, hxl, hf⟩ := DataW.trod_struct Tryd.underlying29 h
    rw [Tryd.cellsValue] at hlen
    match cs, hlen, xs, hxl with
    | [c0, c1, c2, c3, c4, c5, c6, c7, c8, c9, c10, c11, c12], _, [y0, y1, y2, y3, y4, y5, y6, y7, y8, y9], _ =>
      have g0 : DataW.trod enc Tryd.prog w base (fun _ => true) held n 3 [c0] = some y0 := by simpa [Tryd.cells_int] using hf 0 _ rfl
      have g1 : DataW.trod enc Tryd.prog w base (fun _ => true) held n 4 [c1] = some y1 := by simpa [Tryd.cells_bool] using hf 1 _ rfl
      have g2 : DataW.trod enc Tryd.prog w base (fun _ => true) held n 4 [c2] = some y2 := by simpa [Tryd.cells_bool] using hf 2 _ rfl
      have g3 : DataW.trod enc Tryd.prog w base (fun _ => true) held n 22 [c3] = some y3 := by simpa [Tryd.cells_u64] using hf 3 _ rfl
      have g4 : DataW.trod enc Tryd.prog w base (fun _ => true) held n 22 [c4] = some y4 := by simpa [Tryd.cells_u64] using hf 4 _ rfl
      have g5 : DataW.trod enc Tryd.prog w base (fun _ => true) held n 9 [c5] = some y5 := by simpa [Tryd.cells_str] using hf 5 _ rfl
      have g6 : DataW.trod enc Tryd.prog w base (fun _ => true) held n 23 [c6] = some y6 := by simpa [Tryd.cells_bytes6] using hf 6 _ rfl
      have g7 : DataW.trod enc Tryd.prog w base (fun _ => true) held n 25 [c7, c8, c9, c10] = some y7 := by simpa [Tryd.cellsLink] using hf 7 _ rfl
      have g8 : DataW.trod enc Tryd.prog w base (fun _ => true) held n 26 [c11] = some y8 := by simpa [Tryd.cells_strs] using hf 8 _ rfl
      have g9 : DataW.trod enc Tryd.prog w base (fun _ => true) held n 27 [c12] = some y9 := by simpa [Tryd.cells_values] using hf 9 _ rfl
      have hWE : (DataW.weightsEach Tryd.prog [3, 4, 4, 22, 22, 9, 23, 25, 26, 27] [y0.1, y1.1, y2.1, y3.1, y4.1, y5.1, y6.1, y7.1, y8.1, y9.1]).all (· ≤ reachBytes) = true := by
        rw [hx] at hW
        simp only [DataW.weights, Tryd.underlying29] at hW
        exact hW
      obtain ⟨n0, f0, _, _⟩ := DataW.trod_int (fuel := n) (cs := [c0]) Tryd.underlying3 g0
      obtain ⟨b1, f1, _⟩ := DataW.trod_bool (fuel := n) (cs := [c1]) Tryd.underlying4 g1
      obtain ⟨b2, f2, _⟩ := DataW.trod_bool (fuel := n) (cs := [c2]) Tryd.underlying4 g2
      obtain ⟨n3, f3, _, w3⟩ := DataW.trod_int (fuel := n) (cs := [c3]) Tryd.underlying22 g3
      obtain ⟨n4, f4, _, w4⟩ := DataW.trod_int (fuel := n) (cs := [c4]) Tryd.underlying22 g4
      obtain ⟨s5, f5, hx5, hs5⟩ := DataW.trod_string (fuel := n) (cs := [c5]) Tryd.underlying9 g5
      obtain ⟨y, hy, hyl⟩ := bsl_open6 g6 (weight_each hWE (j := 6) rfl rfl)
      obtain ⟨z0, z1, z2, z3, k, hx7, _, e0, e1, e2, e3⟩ := trod_struct4 Tryd.underlying25 g7
      obtain ⟨m0, f7, _, _⟩ := DataW.trod_int (fuel := k) (cs := [c7]) Tryd.underlying3 (by simpa [Tryd.cells_int] using e0)
      obtain ⟨m1, f8, _, w8⟩ := DataW.trod_int (fuel := k) (cs := [c8]) Tryd.underlying22 (by simpa [Tryd.cells_u64] using e1)
      obtain ⟨m2, f9, _, w9⟩ := DataW.trod_int (fuel := k) (cs := [c9]) Tryd.underlying22 (by simpa [Tryd.cells_u64] using e2)
      obtain ⟨s10, f10, hx10, hs10⟩ := DataW.trod_string (fuel := k) (cs := [c10]) Tryd.underlying9 (by simpa [Tryd.cells_str] using e3)
      obtain ⟨ks, hk⟩ := ssl_open g8 (weight_each hWE (j := 8) rfl rfl)
      injection f0 with f0 _
      injection f1 with f1 _
      injection f2 with f2 _
      injection f3 with f3 _
      injection f4 with f4 _
      injection f5 with f5 _
      injection f7 with f7 _
      injection f8 with f8 _
      injection f9 with f9 _
      injection f10 with f10 _
      subst f0 f1 f2 f3 f4 f5 f7 f8 f9 f10
      have b3 := bounds_u64 w3
      have b4 := bounds_u64 w4
      have b8 := bounds_u64 w8
      have b9 := bounds_u64 w9
      have hs5 : s5.size ≤ 140737488351232 := weight_le (weight_each hWE (j := 5) (t := 9) rfl rfl) (by rw [hx5]; simp only [DataW.weights, List.mem_singleton]; rfl)
      have hW7 := weight_each hWE (j := 7) (t := 25) rfl rfl
      have hs10 : s10.size ≤ 140737488351232 := by
        rw [hx7] at hW7
        simp only [DataW.weights, Tryd.underlying25] at hW7
        exact weight_le (weight_each hW7 (j := 3) (t := 9) rfl rfl) (by rw [hx10]; simp only [DataW.weights, List.mem_singleton]; rfl)
      have hW9 := weight_each hWE (j := 9) (t := 27) rfl rfl
      have hv : ∃ is, VSl w c12 is := by
        rcases DataW.trod_slice Tryd.underlying27 g9 with ⟨hcs, _⟩ | ⟨a, len, cap, elems, rest, m, hfm, hcs, hx9, hb, hl, hm, hlen2, hel, _, _⟩
        · injection hcs with hcs _
          subst hcs
          exact ⟨[], ⟨none, 0, rfl, ⟨by simp, fun _ => rfl⟩, .inl rfl⟩, by simp⟩
        · injection hcs with hcs _
          subst hcs
          have hm2 : len ≤ 140737488351232 := by
            have h1 := weight_le hW9 (n := ((elems.map (·.1)).length + (rest.map (·.1)).length) * Tryd.prog.bytesOf 29) (by rw [hx9]; simp only [DataW.weights, Tryd.underlying27]; exact List.mem_cons_self ..)
            rw [Tryd.bytesValue, List.length_map] at h1
            omega
          have hwe : ∀ (i : Nat) (z : DataW H × List MemPlace), elems[i]? = some z → (z.1.weights Tryd.prog 29).all (· ≤ reachBytes) = true := fun i z hz => List.all_eq_true.2 fun n hn => by
            refine List.all_eq_true.1 hW9 n ?_
            rw [hx9]
            simp only [DataW.weights, Tryd.underlying27]
            exact List.mem_cons.2 (.inr (List.mem_append.2 (.inl (weights_all (List.mem_map.2 ⟨z, List.mem_of_getElem? hz, rfl⟩) n hn))))
          have each : ∀ i, i < len → ∃ t cs', Tin w t cs' ∧ ∀ j u, cs'[j]? = some u → w.cell? ((a.add (i * 13)).add j) = some u := by
            intro i hi
            have h1 := hel i hi
            rw [Tryd.cellsValue] at h1
            have h2 : ∃ z, elems[i]? = some z := ⟨elems[i]'(by omega), List.getElem?_eq_getElem (by omega)⟩
            obtain ⟨z, hz⟩ := h2
            rw [hz] at h1
            obtain ⟨cs', h3, h4⟩ := Option.bind_eq_some_iff.1 h1
            obtain ⟨t, ht⟩ := ih m (by omega) cs' z h4 (hwe i z hz)
            obtain ⟨_, hln, hcell⟩ := World.cells?_some h3
            refine ⟨t, cs'.toArray, ht, fun j u hu => ?_⟩
            rw [List.getElem?_toArray] at hu
            have hj : j < 13 := by
              have := (List.getElem?_eq_some_iff.1 hu).1
              omega
            rw [hcell j hj]
            exact hu
          exact vsl_of hl hm2 each
      obtain ⟨is, hi⟩ := hv
      refine ⟨.mk n0 b1 b2 n3.toNat n4.toNat s5 y ⟨m0, m1.toNat, m2.toNat, sl s10⟩ ks is, ?_⟩
      have q3 : ((n3.toNat : Nat) : Int) = n3 := by omega
      have q4 : ((n4.toNat : Nat) : Int) = n4 := by omega
      have q8 : ((m1.toNat : Nat) : Int) = m1 := by omega
      have q9 : ((m2.toNat : Nat) : Int) = m2 := by omega
      have hT := Tin.of (t := .mk n0 b1 b2 n3.toNat n4.toNat s5 y ⟨m0, m1.toNat, m2.toNat, sl s10⟩ ks is) (vy := c6) (vk := c11) (vi := c12) hy hk hi ⟨by show n3.toNat < _; omega, by show n4.toNat < _; omega, hs5, hyl, ⟨by show m1.toNat < _; omega, by show m2.toNat < _; omega, sl_byte s10, by show (sl s10).length ≤ _; rw [sl_len]; omega⟩, by show (sl s10).length ≤ _; rw [sl_len]; exact hs10⟩
      have e : vcs (.mk n0 b1 b2 n3.toNat n4.toNat s5 y ⟨m0, m1.toNat, m2.toNat, sl s10⟩ ks is) c6 c11 c12 = [.int .i64 n0, .bool b1, .bool b2, .int .u64 n3, .int .u64 n4, .string s5, c6, .int .i64 m0, .int .u64 m1, .int .u64 m2, .string s10, c11, c12].toArray := by
        simp only [vcs, Tv.k, Tv.f, Tv.g, Tv.n, Tv.b, Tv.s, Tv.l, nstr_sl, q3, q4, q8, q9]
      rw [e] at hT
      exact hT
/-- A slice of values opened. -/
theorem values_open {H : Type} {enc : TypeId × Value → H} {w : World} {base fuel : Nat} {held : Bool} {v : Value} {x : DataW H × List MemPlace} (h : DataW.trod enc Tryd.prog w base (fun _ => true) held fuel 27 [v] = some x) (hW : (x.1.weights Tryd.prog 27).all (· ≤ reachBytes) = true) : ∃ is, VSl w v is := by
  rcases DataW.trod_slice Tryd.underlying27 h with ⟨hcs, _⟩ | ⟨a, len, cap, elems, rest, m, hfm, hcs, hx9, hb, hl, hm, hlen2, hel, _, _⟩
  · injection hcs with hcs _
    subst hcs
    exact ⟨[], ⟨none, 0, rfl, ⟨by simp, fun _ => rfl⟩, .inl rfl⟩, by simp⟩
  · injection hcs with hcs _
    subst hcs
    have hm2 : len ≤ 140737488351232 := by
      have h1 := weight_le hW (n := ((elems.map (·.1)).length + (rest.map (·.1)).length) * Tryd.prog.bytesOf 29) (by rw [hx9]; simp only [DataW.weights, Tryd.underlying27]; exact List.mem_cons_self ..)
      rw [Tryd.bytesValue, List.length_map] at h1
      omega
    have hwe : ∀ (i : Nat) (z : DataW H × List MemPlace), elems[i]? = some z → (z.1.weights Tryd.prog 29).all (· ≤ reachBytes) = true := fun i z hz => List.all_eq_true.2 fun n hn => by
      refine List.all_eq_true.1 hW n ?_
      rw [hx9]
      simp only [DataW.weights, Tryd.underlying27]
      exact List.mem_cons.2 (.inr (List.mem_append.2 (.inl (weights_all (List.mem_map.2 ⟨z, List.mem_of_getElem? hz, rfl⟩) n hn))))
    refine vsl_of hl hm2 fun i hi => ?_
    have h1 := hel i hi
    rw [Tryd.cellsValue] at h1
    have h2 : ∃ z, elems[i]? = some z := ⟨elems[i]'(by omega), List.getElem?_eq_getElem (by omega)⟩
    obtain ⟨z, hz⟩ := h2
    rw [hz] at h1
    obtain ⟨cs', h3, h4⟩ := Option.bind_eq_some_iff.1 h1
    obtain ⟨t, ht⟩ := value_open m cs' z h4 (hwe i z hz)
    obtain ⟨_, hln, hcell⟩ := World.cells?_some h3
    refine ⟨t, cs'.toArray, ht, fun j u hu => ?_⟩
    rw [List.getElem?_toArray] at hu
    have hj : j < 13 := by
      have := (List.getElem?_eq_some_iff.1 hu).1
      omega
    rw [hcell j hj]
    exact hu
end
end Go.Proofs.YtibcepokeaaoiabDoor

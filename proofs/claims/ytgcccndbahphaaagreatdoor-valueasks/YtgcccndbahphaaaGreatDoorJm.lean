import Derived.Test.YtgcccndbahphaaaGreatDoorJl
import Derived.Test.YtgcccndbahphaaaGreatDoorJi
import Derived.Test.YtgcccndbahphaaaGreatDoorJh
namespace Go.Proofs.YtgcccndbahphaaaGreatDoor
section
open Go.RowKit Go
set_option maxRecDepth 1000000 in
set_option maxHeartbeats 2000000 in
theorem equal_rest (t u : Tv) (ih : ∀ v ∈ t.is, EqC v) (h9 : ¬ (t.k = 9 ∧ u.k = 9)) (w : World) (ca cb : Array Value) (hTa : Tin w t ca) (hTb : Tin w u cb) (hma : tmuch t ≤ 6000000) (hmb : tmuch u ≤ 6000000) : Calls Tryz.prog 39 #[.agg ca, .agg cb] w fun e w' => e = .returned (.bool (eqf t u)) ∧ Below w.heap.size w w' := by
  have eG : ∀ args w, (callFunc 39 args).run Tryz.prog w = .ok (.enter 39 args) w := enters_of Tryz.func39 (by kernel_rfl) rfl
  have HEG := hide eG
  have HR := hide (eqf_rest h9)
  generalize hR : eqf t u = R at *
  clear hR eG
  have hme := tmuch_eq t
  have hme2 := tmuch_eq u
  have HIH := hide ih
  have HMA : Hid (tmuchL t.is ≤ 6000000) := by show _ ≤ _; omega
  have HMB : Hid (tmuchL u.is ≤ 6000000) := by show _ ≤ _; omega
  clear ih hma hmb hme hme2
  obtain ⟨vy, vk, vi, rfl, hy, hk, hv, hb⟩ := hTa.parts
  obtain ⟨vy2, vk2, vi2, rfl, hy2, hk2, hv2, hb2⟩ := hTb.parts
  have HY := hide hy
  have HV := hide hv
  have HY2 := hide hy2
  have HV2 := hide hv2
  have HD1 := hide hb.l.d
  have HD2 := hide hb2.l.d
  obtain ⟨⟨ay, cy, rfl, _, _⟩, _, _⟩ := hy
  obtain ⟨⟨ak, ck, rfl, _, _⟩, _, _⟩ := hk
  obtain ⟨⟨ai, ci, rfl, _, _⟩, _⟩ := hv
  obtain ⟨⟨ay2, cy2, rfl, _, _⟩, _, _⟩ := hy2
  obtain ⟨⟨ak2, ck2, rfl, _, _⟩, _, _⟩ := hk2
  obtain ⟨⟨ai2, ci2, rfl, _, _⟩, _⟩ := hv2
  clear hTa hTb hb hb2
  have HW0 := hide (Bw.start w (vcs t (.slice ay t.y.length cy) (.slice ak t.ks.length ck) (.slice ai t.is.length ci)) (vcs u (.slice ay2 u.y.length cy2) (.slice ak2 u.ks.length ck2) (.slice ai2 u.is.length ci2)))
  have HA := hide (fun j x (h : (lcs t.l)[j]? = some x) => lk_in HW0.out.a h)
  have HBb := hide (fun j x (h : (lcs u.l)[j]? = some x) => lk_in HW0.out.c h)
  have a0 : ((w.alloc (.cells (vcs t (.slice ay t.y.length cy) (.slice ak t.ks.length ck) (.slice ai t.is.length ci)) 55)).alloc (.cells (vcs u (.slice ay2 u.y.length cy2) (.slice ak2 u.ks.length ck2) (.slice ai2 u.is.length ci2)) 55)).cell? ⟨w.heap.size, 0, none⟩ = some (.int .i64 t.k) := blk_cell HW0.out.a rfl
  have b0 : ((w.alloc (.cells (vcs t (.slice ay t.y.length cy) (.slice ak t.ks.length ck) (.slice ai t.is.length ci)) 55)).alloc (.cells (vcs u (.slice ay2 u.y.length cy2) (.slice ak2 u.ks.length ck2) (.slice ai2 u.is.length ci2)) 55)).cell? ⟨w.heap.size + 1, 0, none⟩ = some (.int .i64 u.k) := blk_cell HW0.out.c rfl
  have a1 : ((w.alloc (.cells (vcs t (.slice ay t.y.length cy) (.slice ak t.ks.length ck) (.slice ai t.is.length ci)) 55)).alloc (.cells (vcs u (.slice ay2 u.y.length cy2) (.slice ak2 u.ks.length ck2) (.slice ai2 u.is.length ci2)) 55)).cell? ⟨w.heap.size, 1, none⟩ = some (.bool t.f) := blk_cell HW0.out.a rfl
  have b1 : ((w.alloc (.cells (vcs t (.slice ay t.y.length cy) (.slice ak t.ks.length ck) (.slice ai t.is.length ci)) 55)).alloc (.cells (vcs u (.slice ay2 u.y.length cy2) (.slice ak2 u.ks.length ck2) (.slice ai2 u.is.length ci2)) 55)).cell? ⟨w.heap.size + 1, 1, none⟩ = some (.bool u.f) := blk_cell HW0.out.c rfl
  have a2 : ((w.alloc (.cells (vcs t (.slice ay t.y.length cy) (.slice ak t.ks.length ck) (.slice ai t.is.length ci)) 55)).alloc (.cells (vcs u (.slice ay2 u.y.length cy2) (.slice ak2 u.ks.length ck2) (.slice ai2 u.is.length ci2)) 55)).cell? ⟨w.heap.size, 2, none⟩ = some (.bool t.g) := blk_cell HW0.out.a rfl
  have b2 : ((w.alloc (.cells (vcs t (.slice ay t.y.length cy) (.slice ak t.ks.length ck) (.slice ai t.is.length ci)) 55)).alloc (.cells (vcs u (.slice ay2 u.y.length cy2) (.slice ak2 u.ks.length ck2) (.slice ai2 u.is.length ci2)) 55)).cell? ⟨w.heap.size + 1, 2, none⟩ = some (.bool u.g) := blk_cell HW0.out.c rfl
  have a3 : ((w.alloc (.cells (vcs t (.slice ay t.y.length cy) (.slice ak t.ks.length ck) (.slice ai t.is.length ci)) 55)).alloc (.cells (vcs u (.slice ay2 u.y.length cy2) (.slice ak2 u.ks.length ck2) (.slice ai2 u.is.length ci2)) 55)).cell? ⟨w.heap.size, 3, none⟩ = some (.int .u64 (t.n : Nat)) := blk_cell HW0.out.a rfl
  have b3 : ((w.alloc (.cells (vcs t (.slice ay t.y.length cy) (.slice ak t.ks.length ck) (.slice ai t.is.length ci)) 55)).alloc (.cells (vcs u (.slice ay2 u.y.length cy2) (.slice ak2 u.ks.length ck2) (.slice ai2 u.is.length ci2)) 55)).cell? ⟨w.heap.size + 1, 3, none⟩ = some (.int .u64 (u.n : Nat)) := blk_cell HW0.out.c rfl
  have a4 : ((w.alloc (.cells (vcs t (.slice ay t.y.length cy) (.slice ak t.ks.length ck) (.slice ai t.is.length ci)) 55)).alloc (.cells (vcs u (.slice ay2 u.y.length cy2) (.slice ak2 u.ks.length ck2) (.slice ai2 u.is.length ci2)) 55)).cell? ⟨w.heap.size, 4, none⟩ = some (.int .u64 (t.b : Nat)) := blk_cell HW0.out.a rfl
  have b4 : ((w.alloc (.cells (vcs t (.slice ay t.y.length cy) (.slice ak t.ks.length ck) (.slice ai t.is.length ci)) 55)).alloc (.cells (vcs u (.slice ay2 u.y.length cy2) (.slice ak2 u.ks.length ck2) (.slice ai2 u.is.length ci2)) 55)).cell? ⟨w.heap.size + 1, 4, none⟩ = some (.int .u64 (u.b : Nat)) := blk_cell HW0.out.c rfl
  have a5 : ((w.alloc (.cells (vcs t (.slice ay t.y.length cy) (.slice ak t.ks.length ck) (.slice ai t.is.length ci)) 55)).alloc (.cells (vcs u (.slice ay2 u.y.length cy2) (.slice ak2 u.ks.length ck2) (.slice ai2 u.is.length ci2)) 55)).cell? ⟨w.heap.size, 5, none⟩ = some (.string t.s) := blk_cell HW0.out.a rfl
  have b5 : ((w.alloc (.cells (vcs t (.slice ay t.y.length cy) (.slice ak t.ks.length ck) (.slice ai t.is.length ci)) 55)).alloc (.cells (vcs u (.slice ay2 u.y.length cy2) (.slice ak2 u.ks.length ck2) (.slice ai2 u.is.length ci2)) 55)).cell? ⟨w.heap.size + 1, 5, none⟩ = some (.string u.s) := blk_cell HW0.out.c rfl
  have a6 : ((w.alloc (.cells (vcs t (.slice ay t.y.length cy) (.slice ak t.ks.length ck) (.slice ai t.is.length ci)) 55)).alloc (.cells (vcs u (.slice ay2 u.y.length cy2) (.slice ak2 u.ks.length ck2) (.slice ai2 u.is.length ci2)) 55)).cell? ⟨w.heap.size, 6, none⟩ = some (.slice ay t.y.length cy) := blk_cell HW0.out.a rfl
  have b6 : ((w.alloc (.cells (vcs t (.slice ay t.y.length cy) (.slice ak t.ks.length ck) (.slice ai t.is.length ci)) 55)).alloc (.cells (vcs u (.slice ay2 u.y.length cy2) (.slice ak2 u.ks.length ck2) (.slice ai2 u.is.length ci2)) 55)).cell? ⟨w.heap.size + 1, 6, none⟩ = some (.slice ay2 u.y.length cy2) := blk_cell HW0.out.c rfl
  have a12 : ((w.alloc (.cells (vcs t (.slice ay t.y.length cy) (.slice ak t.ks.length ck) (.slice ai t.is.length ci)) 55)).alloc (.cells (vcs u (.slice ay2 u.y.length cy2) (.slice ak2 u.ks.length ck2) (.slice ai2 u.is.length ci2)) 55)).cell? ⟨w.heap.size, 12, none⟩ = some (.slice ai t.is.length ci) := blk_cell HW0.out.a rfl
  have b12 : ((w.alloc (.cells (vcs t (.slice ay t.y.length cy) (.slice ak t.ks.length ck) (.slice ai t.is.length ci)) 55)).alloc (.cells (vcs u (.slice ay2 u.y.length cy2) (.slice ak2 u.ks.length ck2) (.slice ai2 u.is.length ci2)) 55)).cell? ⟨w.heap.size + 1, 12, none⟩ = some (.slice ai2 u.is.length ci2) := blk_cell HW0.out.c rfl
  generalize hca : vcs t (.slice ay t.y.length cy) (.slice ak t.ks.length ck) (.slice ai t.is.length ci) = ca at *
  generalize hcb : vcs u (.slice ay2 u.y.length cy2) (.slice ak2 u.ks.length ck2) (.slice ai2 u.is.length ci2) = cb at *
  have HCA := hide hca
  have HCB := hide hcb
  clear hca hcb
  by_cases h9a : t.k = 9
  · as_aux_lemma =>
    have h0 : ¬ t.k = u.k := fun e => h9 ⟨h9a, e ▸ h9a⟩
    have n9 : (t.k == 9) = true := by rw [h9a]; rfl
    have n9b : (u.k == 9) = false := beq_eq_false_iff_ne.2 (fun e => h9 ⟨h9a, e⟩)
    have HN : Hid (R = false) := by show _ = _; rw [HR.out]; simp [h0]
    have k0 : (t.k == u.k) = false := beq_eq_false_iff_ne.2 h0
    clear h0 h9a h9
    go_enter Tryz.func39, Tryz.ntmps39
    go_wp2_with fail
    go_ret
    exact ⟨by rw [HN.out]; rfl, HW0.out.b⟩
  have n9 : (t.k == 9) = false := beq_eq_false_iff_ne.2 h9a
  clear h9 h9a
  by_cases h0 : t.k = u.k
  case neg => as_aux_lemma =>
    have HN : Hid (R = false) := by show _ = _; rw [HR.out]; simp [h0]
    have k0 : (t.k == u.k) = false := beq_eq_false_iff_ne.2 h0
    clear h0
    go_enter Tryz.func39, Tryz.ntmps39
    go_wp2_with fail
    go_ret
    exact ⟨by rw [HN.out]; rfl, HW0.out.b⟩
  have k0 : (t.k == u.k) = true := beq_iff_eq.2 h0
  have H0 := hide h0
  clear h0
  by_cases h1 : t.f = u.f
  case neg => as_aux_lemma =>
    have HN : Hid (R = false) := by show _ = _; rw [HR.out]; simp [h1]
    have k1 : (t.f == u.f) = false := beq_eq_false_iff_ne.2 h1
    clear h1
    go_enter Tryz.func39, Tryz.ntmps39
    go_wp2_with fail
    go_ret
    exact ⟨by rw [HN.out]; rfl, HW0.out.b⟩
  have k1 : (t.f == u.f) = true := beq_iff_eq.2 h1
  have H1 := hide h1
  clear h1
  by_cases h2 : t.g = u.g
  case neg => as_aux_lemma =>
    have HN : Hid (R = false) := by show _ = _; rw [HR.out]; simp [h2]
    have k2 : (t.g == u.g) = false := beq_eq_false_iff_ne.2 h2
    clear h2
    go_enter Tryz.func39, Tryz.ntmps39
    go_wp2_with fail
    go_ret
    exact ⟨by rw [HN.out]; rfl, HW0.out.b⟩
  have k2 : (t.g == u.g) = true := beq_iff_eq.2 h2
  have H2 := hide h2
  clear h2
  by_cases h3 : t.n = u.n
  case neg => as_aux_lemma =>
    have HN : Hid (R = false) := by show _ = _; rw [HR.out]; simp [h3]
    have k3 : ((t.n : Int) == (u.n : Int)) = false := beq_eq_false_iff_ne.2 (by omega)
    clear h3
    go_enter Tryz.func39, Tryz.ntmps39
    go_wp2_with fail
    go_ret
    exact ⟨by rw [HN.out]; rfl, HW0.out.b⟩
  have k3 : ((t.n : Int) == (u.n : Int)) = true := beq_iff_eq.2 (by omega)
  have H3 := hide h3
  clear h3
  by_cases h4 : t.b = u.b
  case neg => as_aux_lemma =>
    have HN : Hid (R = false) := by show _ = _; rw [HR.out]; simp [h4]
    have k4 : ((t.b : Int) == (u.b : Int)) = false := beq_eq_false_iff_ne.2 (by omega)
    clear h4
    go_enter Tryz.func39, Tryz.ntmps39
    go_wp2_with fail
    go_ret
    exact ⟨by rw [HN.out]; rfl, HW0.out.b⟩
  have k4 : ((t.b : Int) == (u.b : Int)) = true := beq_iff_eq.2 (by omega)
  have H4 := hide h4
  clear h4
  by_cases h5 : t.s = u.s
  case neg => as_aux_lemma =>
    have HN : Hid (R = false) := by show _ = _; rw [HR.out]; simp [h5]
    have k5 : (t.s.toList == u.s.toList) = false := str_beq_no h5
    clear h5
    go_enter Tryz.func39, Tryz.ntmps39
    go_wp2_with fail
    go_ret
    exact ⟨by rw [HN.out]; rfl, HW0.out.b⟩
  have k5 : (t.s.toList == u.s.toList) = true := by rw [h5]; exact beq_self_eq_true _
  have H5 := hide h5
  clear h5
  by_cases h6 : t.l = u.l
  case neg => as_aux_lemma =>
    have HN : Hid (R = false) := by show _ = _; rw [HR.out]; simp [h6]
    have HEQ : Hid (∀ wx : World, (Op.equalIn 10000 53 (.agg (lcs t.l)) (.agg (lcs u.l))).run Tryz.prog wx = .ok false wx) := fun wx => by have h := eqlk wx HD1.out HD2.out; rw [decide_eq_false h6] at h; exact h
    clear h6
    go_enter Tryz.func39, Tryz.ntmps39
    go_wp2_with (first
      | (refine wpList_lkAt rfl rfl w.heap.size 7 t.l rfl HA.out ?_)
      | (refine wpList_lkAt rfl rfl (w.heap.size + 1) 7 u.l rfl HBb.out ?_)
      | (refine wpList_eqlk rfl rfl _ _ false rfl rfl (HEQ.out _) ?_))
    go_ret
    exact ⟨by rw [HN.out]; rfl, HW0.out.b⟩
  have HEQ : Hid (∀ wx : World, (Op.equalIn 10000 53 (.agg (lcs t.l)) (.agg (lcs u.l))).run Tryz.prog wx = .ok true wx) := fun wx => by have h := eqlk wx HD1.out HD2.out; rw [decide_eq_true h6] at h; exact h
  have H6 := hide h6
  clear h6
  go_enter Tryz.func39, Tryz.ntmps39
  go_wp2_with (first
    | (refine wpList_lkAt rfl rfl w.heap.size 7 t.l rfl HA.out ?_)
    | (refine wpList_lkAt rfl rfl (w.heap.size + 1) 7 u.l rfl HBb.out ?_)
    | (refine wpList_eqlk rfl rfl _ _ true rfl rfl (HEQ.out _) ?_))
  clear a0 a1 a2 a3 a4 a5 a6 a12 b0 b1 b2 b3 b4 b5 b6 b12
  generalize (w.alloc (.cells ca 55)).alloc (.cells cb 55) = w2 at *
  refine (alikeE_any w2 _ _ t.y u.y (HY.out.move (keep_below HW0.out.b)) (HY2.out.move (keep_below HW0.out.b))).mono ?_
  rintro e w3 ⟨rfl, hb3⟩
  have HW3 := hide (HW0.out.next hb3)
  clear hb3 HW0 HA HBb HEQ
  by_cases h7 : t.y = u.y
  case neg => as_aux_lemma =>
    have HN : Hid (R = false) := by show _ = _; rw [HR.out]; simp [h7]
    rw [decide_eq_false h7]
    clear h7
    go_wp2_with fail
    go_ret
    exact ⟨by rw [HN.out]; rfl, HW3.out.b⟩
  rw [decide_eq_true h7]
  have HRR : Hid (R = alk (eqx t u) (List.range t.is.length) (List.range u.is.length)) := by show _ = _; rw [HR.out]; simp [H0.out, H1.out, H2.out, H3.out, H4.out, H5.out, H6.out, h7]
  clear h7
  have a12 : w3.cell? ⟨w.heap.size, 12, none⟩ = some (.slice ai t.is.length ci) := blk_cell HW3.out.a (by rw [← HCA.out]; rfl)
  have b12 : w3.cell? ⟨w.heap.size + 1, 12, none⟩ = some (.slice ai2 u.is.length ci2) := blk_cell HW3.out.c (by rw [← HCB.out]; rfl)
  go_wp2_with fail
  refine (alikeV_any 39 #[] HEG.out w3 _ _ t.is u.is (eqx t u) (HV.out.move (keep_below HW3.out.b)) (HV2.out.move (keep_below HW3.out.b)) (fun wx hbx i p q c1 c2 hp hq h1 h2 => ?_)).mono ?_
  · rw [eqx_at hp hq]
    exact HIH.out p (List.mem_of_getElem? hp) q wx c1 c2 h1 h2 (Nat.le_trans (tmuchL_mem (List.mem_of_getElem? hp)) HMA.out) (Nat.le_trans (tmuchL_mem (List.mem_of_getElem? hq)) HMB.out)
  rintro e w5 ⟨rfl, hb5⟩
  have HB5 : Hid (Below w.heap.size w w5) := HW3.out.b.trans (hb5.mono HW3.out.b.size)
  rw [← HRR.out]
  clear hb5 a12 b12
  go_wp2_with fail
  go_ret
  exact ⟨rfl, HB5.out⟩
theorem equal6_any (a : Tv) : EqC a := by
  have h : ∀ N, ∀ t : Tv, SizeOf.sizeOf t = N → EqC t := by
    intro N
    induction N using Nat.strongRecOn with
    | _ N ih =>
      intro t hN b w ca cb h1 h2 h3 h4
      have ih' : ∀ u ∈ t.is, EqC u := fun u hu => ih _ (by rw [← hN]; exact Tv.is_lt hu) u rfl
      by_cases h : t.k = 9 ∧ b.k = 9
      · exact equal_map t b ih' h.1 h.2 w ca cb h1 h2 h3 h4
      · exact equal_rest t b ih' h w ca cb h1 h2 h3 h4
  exact h _ a rfl
theorem ordp_srp (ks : List ByteArray) (n : Nat) : Srp ks n (ordp ks n) := by
  by_cases hn0 : 0 < n
  · let inst : Inhabited (Fin n) := ⟨⟨0, hn0⟩⟩
    have hod : ordp ks n = (ordF ks n).toList.map Fin.val := by
      unfold ordp
      rw [dif_pos hn0]
    have hds : (List.finRange n).toArray.size = n := by simp
    have hpd : Go.Sort.PermIn 0 (List.finRange n).toArray.size (List.finRange n).toArray (ordF ks n) ∧ Go.Sort.SortedIn (Go.Proofs.ltOf (kcf ks n)) 0 (List.finRange n).toArray.size (ordF ks n) := Go.Sort.pdq_sorts (Go.Proofs.ltOf (kcf ks n)) (kcf_swo ks n) (List.finRange n).toArray 0 (List.finRange n).toArray.size (Lib.bitLen (List.finRange n).toArray.size) true true (Nat.zero_le _) (Nat.le_refl _) (Or.inl rfl)
    generalize ordF ks n = d' at *
    obtain ⟨hp, hs⟩ := hpd
    rw [hds] at hp hs
    have hd' : d'.size = n := by rw [hp.1, hds]
    have hperm : d'.toList.Perm (List.finRange n) := by
      have h := hp.2.2
      have e1 : d'.extract 0 n = d' := by
        have h2 : d'.extract 0 d'.size = d' := by simp
        rw [hd'] at h2
        exact h2
      have e2 : (List.finRange n).toArray.extract 0 n = (List.finRange n).toArray := by
        have h2 : (List.finRange n).take n = List.finRange n := List.take_of_length_le (by simp)
        simp [h2]
      rw [e1, e2] at h
      exact h
    rw [hod]
    refine ⟨?_, fun i j p q hij h1 h2 => ?_⟩
    · have h := hperm.map Fin.val
      have e : (List.finRange n).map Fin.val = List.range n := by
        apply List.ext_getElem?
        intro j
        by_cases hj : j < n
        · simp [hj]
        · rw [List.getElem?_eq_none (by simpa using hj), List.getElem?_eq_none (by simpa using hj)]
      rw [e] at h
      exact h
    · have hjl : j < d'.size := by
        have := (List.getElem?_eq_some_iff.1 h2).1
        simpa using this
      have hil : i < d'.size := by omega
      simp [hil] at h1
      simp [hjl] at h2
      have hl := hs i j (Nat.zero_le _) hij (by omega)
      rw [kcf_lt, getElem!_pos d' i hil, getElem!_pos d' j hjl, h1, h2] at hl
      exact hl
  · have e : n = 0 := by omega
    subst e
    exact ⟨by simp [ordp], fun i j p q _ h => by simp [ordp] at h⟩
/-- Of trees: equal, whatever the order of entries. -/
theorem eqf_teq (a : Tv) : ∀ b, Trk a → Trk b → (eqf a b = true ↔ Teq a b) := by
  have h : ∀ N, ∀ t : Tv, SizeOf.sizeOf t = N → ∀ b, Trk t → Trk b → (eqf t b = true ↔ Teq t b) := by
    intro N
    induction N using Nat.strongRecOn with
    | _ N ih =>
      intro a hN b ha hb
      have ih' : ∀ u ∈ a.is, ∀ v, Trk u → Trk v → (eqf u v = true ↔ Teq u v) := fun u hu => ih _ (by rw [← hN]; exact Tv.is_lt hu) u rfl
      by_cases h9 : a.k = 9 ∧ b.k = 9
      · obtain ⟨h1, h2⟩ := h9
        have spa := ordp_srp a.ks (min a.ks.length a.is.length)
        have spb := ordp_srp b.ks (min b.ks.length b.is.length)
        rw [eqf_map h1 h2, alk_iff, teq_map ha hb h1 h2 spa spb]
        refine and_congr_right fun _ => ⟨fun h i p q hp hq => ?_, fun h i p q hp hq => ?_⟩
        · have hx := h i p q hp hq
          unfold eqk at hx
          rw [Bool.and_eq_true, decide_eq_true_iff] at hx
          refine ⟨hx.1, fun u v hu hv => ?_⟩
          have hy := hx.2
          rw [eqx_at hu hv] at hy
          exact (ih' u (List.mem_of_getElem? hu) v (ha.i u (List.mem_of_getElem? hu)) (hb.i v (List.mem_of_getElem? hv))).1 hy
        · have hx := h i p q hp hq
          have l1 := spa.lt p (List.mem_of_getElem? hp)
          have l2 := spb.lt q (List.mem_of_getElem? hq)
          have hu := List.getElem?_eq_getElem (show p < a.is.length by omega)
          have hv := List.getElem?_eq_getElem (show q < b.is.length by omega)
          unfold eqk
          rw [Bool.and_eq_true, decide_eq_true_iff, eqx_at hu hv]
          exact ⟨hx.1, (ih' _ (List.mem_of_getElem? hu) _ (ha.i _ (List.mem_of_getElem? hu)) (hb.i _ (List.mem_of_getElem? hv))).2 (hx.2 _ _ hu hv)⟩
      · rw [eqf_rest h9]
        simp only [Bool.and_eq_true, decide_eq_true_iff, alk_iff]
        constructor
        · rintro ⟨e0, e1, e2, e3, e4, e5, e6, e7, e8, e9⟩
          have ka : a.k ≠ 9 := fun e => h9 ⟨e, e0 ▸ e⟩
          refine teq_rest ka ⟨e0.symm, e1.symm, e2.symm, e3.symm, e4.symm, e5.symm, e7.symm, e6.symm⟩ (ha.e ka) (hb.e (by rw [← e0]; exact ka)) (by simpa using e8) (fun i u v hu hv => ?_)
          have l1 := (List.getElem?_eq_some_iff.1 hu).1
          have l2 := (List.getElem?_eq_some_iff.1 hv).1
          have hx := e9 i i i (List.getElem?_range l1) (List.getElem?_range l2)
          rw [eqx_at hu hv] at hx
          exact (ih' u (List.mem_of_getElem? hu) v (ha.i u (List.mem_of_getElem? hu)) (hb.i v (List.mem_of_getElem? hv))).1 hx
        · intro ht
          have tp := teq_top ht
          have ka : a.k ≠ 9 := fun e => h9 ⟨e, tp.k.trans e⟩
          obtain ⟨n1, i1⟩ := teq_items ka ht
          refine ⟨tp.k.symm, tp.f.symm, tp.g.symm, tp.n.symm, tp.b.symm, tp.s.symm, tp.l.symm, tp.y.symm, by simpa using n1, fun i x y hx hy => ?_⟩
          have l1 := (List.getElem?_eq_some_iff.1 hx).1
          have l2 := (List.getElem?_eq_some_iff.1 hy).1
          simp at l1 l2
          rw [List.getElem?_range l1] at hx
          rw [List.getElem?_range l2] at hy
          injection hx with hx
          injection hy with hy
          subst hx
          subst hy
          have hu := List.getElem?_eq_getElem l1
          have hv := List.getElem?_eq_getElem l2
          rw [eqx_at hu hv]
          exact (ih' _ (List.mem_of_getElem? hu) _ (ha.i _ (List.mem_of_getElem? hu)) (hb.i _ (List.mem_of_getElem? hv))).2 (i1 i _ _ hu hv)
  exact h _ a rfl
end
section
open Go.RowKit Go
theorem sum_range (is : List Tv) (g : Nat → Nat) (hg : ∀ p u, is[p]? = some u → g p ≤ tmuch u) : ∀ n, n ≤ is.length → ((List.range n).map g).sum ≤ tmuchL (is.take n)
  | 0, _ => by simp
  | n + 1, h => by
    have ih := sum_range is g hg n (by omega)
    have hu := List.getElem?_eq_getElem (show n < is.length by omega)
    have h1 := hg n _ hu
    rw [List.range_succ, List.map_append, List.sum_append, takeT _ _ _ hu, tmuchL_app]
    have e : tmuchL [is[n]] = tmuch is[n] := by rw [tmuchL, tmuchL]; omega
    rw [e]
    simp
    omega
theorem tmuchL_take (is : List Tv) (n : Nat) : tmuchL (is.take n) ≤ tmuchL is := by
  have h : tmuchL is = tmuchL (is.take n) + tmuchL (is.drop n) := by rw [← tmuchL_app, List.take_append_drop]
  omega
theorem pls_perm (t : Tv) : ∃ n, n ≤ t.is.length ∧ (pls t).Perm (List.range n) := by
  unfold pls
  by_cases h : t.k = 8
  · rw [if_pos h]
    exact ⟨_, Nat.le_refl _, List.Perm.refl _⟩
  · rw [if_neg h]
    exact ⟨_, by omega, (ordp_srp t.ks (min t.ks.length t.is.length)).p⟩
/-- No more links than parts. -/
theorem lnkf_le (t : Tv) : (lnkf t).length ≤ tmuch t := by
  have h : ∀ N, ∀ t : Tv, SizeOf.sizeOf t = N → (lnkf t).length ≤ tmuch t := by
    intro N
    induction N using Nat.strongRecOn with
    | _ N ih =>
      intro t hN
      have hme := tmuch_eq t
      by_cases h7 : t.k = 7
      · rw [lnkf_7 h7]
        simp
        omega
      · by_cases h8 : t.k = 8 ∨ t.k = 9
        · rw [lnkf_n h7 h8]
          obtain ⟨n, hn, hp⟩ := pls_perm t
          have e : ((pls t).flatMap (lnx t)).length = ((pls t).map (fun p => (lnx t p).length)).sum := by rw [List.length_flatMap]
          have e2 : ((pls t).map (fun p => (lnx t p).length)).sum = ((List.range n).map (fun p => (lnx t p).length)).sum := (hp.map _).sum_nat
          rw [e, e2]
          have h1 := sum_range t.is (fun p => (lnx t p).length) (fun p u hu => by
            rw [lnx_at hu]
            exact ih _ (by rw [← hN]; exact Tv.is_lt (List.mem_of_getElem? hu)) u rfl) n hn
          have h2 := tmuchL_take t.is n
          omega
        · rw [lnkf_0 h7 h8]
          simp
  exact h _ t rfl
set_option maxRecDepth 1000000 in
theorem links6_any (t : Tv) (w : World) (cs : Array Value) (ht : Tin w t cs) (hm : tmuch t ≤ 100000) : Calls Tryz.prog 24 #[.agg cs] w fun e w' => ∃ v', e = .returned v' ∧ w'.ownsRow w.heap.size 53 4 v' (lnkf t).length (fcl (lnkf t)) ∧ Below w.heap.size w w' := by
  have HTN := hide ht
  have HSZ := hide ht.size13
  have HQ0 : Hid (Aln w (w.alloc (.cells cs 55)) cs) := box_mk0 w _
  have HV0 := hide HQ0.out.va
  have HLE := hide (Nat.le_trans (lnkf_le t) hm)
  have HMM := hide hm
  clear ht hm
  have HCA := hide (gathered_any t w cs HTN.out HMM.out (w.alloc (.cells cs 55)) (.slice none 0 0) [] HQ0.out.1 (World.ownsRow_nil _ _ _ _) (by have := HLE.out; rw [List.nil_append]; omega))
  go_enter Tryz.func24, Tryz.ntmps24
  go_wp2_with (refine wpList_valAt rfl rfl w.heap.size 0 cs rfl HSZ.out HV0.out ?_)
  refine HCA.out.mono ?_
  rintro e w1 ⟨v1, rfl, ho, hk, _⟩
  rw [List.nil_append] at ho
  have HO := hide ho
  have HB1 : Hid (Below w.heap.size w w1) := HQ0.out.1.trans ((hk.below (Nat.le_refl _) (fun q h => by cases h)).mono HQ0.out.1.size)
  clear ho hk HCA HQ0 HV0
  go_wp2_with fail
  go_ret
  exact ⟨_, rfl, HO.out, HB1.out⟩
end
section
open Go.RowKit Go
/-- Where a key stands first, or -1. -/
def Fnd (ks : List ByteArray) (key : ByteArray) (r : Int) : Prop := (r = -1 ∧ key ∉ ks) ∨ ∃ i : Nat, r = i ∧ ks[i]? = some key ∧ ∀ j s, j < i → ks[j]? = some s → s ≠ key
set_option maxRecDepth 1000000 in
theorem index6_any (w : World) (v : Value) (ks : List ByteArray) (key : ByteArray) (hv : SSl w v ks) : Calls Tryz.prog 57 #[v, .string key] w fun e w' => ∃ r : Int, e = .returned (.int .i64 r) ∧ Fnd ks key r ∧ Below w.heap.size w w' := by
  obtain ⟨⟨a, cap, rfl, _, hc⟩, hmax, _⟩ := hv
  have HC := hide hc
  clear hc
  go_enter Tryz.func57, Tryz.ntmps57
  go_wp2_with fail
  go_loopw [8] (fun ii wx => ∃ i : Nat, i ≤ ks.length ∧ ii = .int .i64 (i : Nat) ∧ Hid (∀ j s, j < i → ks[j]? = some s → s ≠ key) ∧ Hid (Below w.heap.size w wx)) (fun ii _ => ks.length - (intOf ii).toNat)
  case atStart => exact ⟨0, by omega, rfl, fun j s hj => absurd hj (by omega), Below.refl _ _⟩
  case round =>
    obtain ⟨i, hi, rfl, HI, HBw⟩ := hrel
    by_cases hlt : i < ks.length
    · have g1 : (i : Int) < (ks.length : Int) := by omega
      obtain ⟨s, hs⟩ : ∃ s, ks[i]? = some s := ⟨ks[i], List.getElem?_eq_getElem hlt⟩
      obtain ⟨b, off, rfl, hcc⟩ := HC.out.resolve_left (fun h => by rw [h] at hlt; simp at hlt)
      have c1 := keep_below HBw.out _ _ (hcc i s hs)
      clear hcc HC
      by_cases he : key = s
      · as_aux_lemma =>
        have hne : (key.toList == s.toList) = true := by rw [he]; simp
        have HA : Hid (Fnd ks key i) := Or.inr ⟨i, rfl, by rw [hs, he], HI.out⟩
        clear he hs HI
        go_wp2_with fail
        go_ret
        exact ⟨_, rfl, HA.out, HBw.out⟩
      · as_aux_lemma =>
        have hne : (key.toList == s.toList) = false := by have h := str_bne key s; simp [he] at h; exact beq_eq_false_iff_ne.2 h
        have HI2 : Hid (∀ j s, j < i + 1 → ks[j]? = some s → s ≠ key) := fun j s' hj h1 => by
          by_cases hji : j = i
          · subst hji
            rw [hs] at h1
            injection h1 with h1
            rw [← h1]
            exact fun e => he e.symm
          · exact HI.out j s' (by omega) h1
        clear he hs HI
        go_wp2_with fail
        go_roundw
        case rel => exact ⟨i + 1, by omega, by go_num, HI2, HBw⟩
        case measure => simp [intOf]; omega
    · as_aux_lemma =>
      have g1 : ¬ (i : Int) < (ks.length : Int) := by omega
      have HA : Hid (Fnd ks key (-1)) := Or.inl ⟨rfl, fun h => by
        obtain ⟨j, hj⟩ := List.mem_iff_getElem?.1 h
        have := (List.getElem?_eq_some_iff.1 hj).1
        exact HI.out j _ (by omega) hj rfl⟩
      go_wp2_with fail
      go_ret
      exact ⟨_, rfl, HA.out, HBw.out⟩
theorem end_fd {wx : World} {R : Nat} {c : Array Value} {x : Value} {tmps : Array Value} (hn : c.size = 13) (hr : wx.heap[R]? = some (.cells c 55 (0, 0))) (hp : tmps.getD 4 undef = .pointer (some ⟨R, 0, none⟩)) (hx : tmps.getD 5 undef = x) : (results Tryz.f28 tmps).run Tryz.prog wx = .ok (.tuple #[.agg c, x]) wx :=
  end_c2 (fn := Tryz.f28) (p := 4) (q := 5) rfl Tryz.underlying55 infoV hn hr hp hx
end
section
open Go.RowKit Go
set_option maxRecDepth 1000000 in
set_option maxHeartbeats 1000000 in
theorem freshO_step (t : Tv) (ih : ∀ u ∈ t.is, AgainO 58 (fun u s => s = u) u) : AgainO 58 (fun u s => s = u) t := by
  intro w cs ht hm
  have eF : ∀ args w, (callFunc 58 args).run Tryz.prog w = .ok (.enter 58 args) w := enters_of Tryz.func58 (by kernel_rfl) rfl
  have HIH := hide ih
  have HTN := hide ht
  have HMM := hide hm
  have HSZ := hide ht.size13
  clear ih ht hm
  have HW0 := hide (Rm.start w cs)
  have HZ0 : Hid (((w.alloc (.cells cs 55)).alloc (.cells zv 55)).heap.size = w.heap.size + 2) := by show _ = _; simp
  have HCB : Hid (∀ j u, cs[j]? = some u → ((w.alloc (.cells cs 55)).alloc (.cells zv 55)).cell? ⟨w.heap.size, 0 + j, none⟩ = some u) := fun j u hu => by rw [Nat.zero_add]; exact blk_cell HW0.out.p hu
  unfold zv at HW0 HZ0 HCB
  go_enter Tryz.func58, Tryz.ntmps58
  go_wp2_with (refine wpList_valAt rfl rfl w.heap.size 0 cs rfl HSZ.out HCB.out ?_)
  generalize (w.alloc (.cells cs 55)).alloc (.cells #[.int .i64 0, .bool false, .bool false, .int .u64 0, .int .u64 0, .string ⟨#[]⟩, .slice none 0 0, .int .i64 0, .int .u64 0, .int .u64 0, .string ⟨#[]⟩, .slice none 0 0, .slice none 0 0] 55) = w2 at *
  refine (remadeO_any 58 eF (fun u s => s = u) t HIH.out w2 cs (HTN.out.move (keep_below HW0.out.b)) HMM.out).mono ?_
  rintro e w3 ⟨c, js, rfl, hmd, hnt, hb3⟩
  have HW3 := hide (HW0.out.next hb3)
  rw [mad_eq hmd, wi_self] at hnt
  have HNT : Hid (Nor w3 (w.heap.size + 2) w3.heap.size t c) := hnt.mono (by rw [HZ0.out]; omega) (Nat.le_refl _)
  have HA1 := hide hnt.tin.all1
  have HS1 := hide hnt.size
  clear hmd hnt hb3 HW0 HCB HZ0
  have HIN : Hid ((Tryz.prog.info? 55).map (·.size) = some c.size) := by show _ = _; rw [HS1.out]; exact infoV
  have HZV : Hid (zv.size = c.size) := by show _ = _; rw [HS1.out]; rfl
  have HR4 := hide HW3.out.r
  go_wp2_with (refine wpList_storeRow rfl rfl (w.heap.size + 1) zv c 55 rfl rfl HR4.out HIN.out HZV.out HA1.out ?_)
  have hkr := row_kp w3 (w.heap.size + 1) c
  have hzr := hkr.size
  have hz3 := HW3.out.z
  exact bodyPost_ret (end_fr HS1.out (row_same HR4.out) rfl) rfl ⟨_, t, rfl, rfl, (HNT.out.kp hkr (fun q h1 h2 e => by omega)).mono (by omega) hzr, HW3.out.b.trans (hkr.below HW3.out.b.size (fun q e => by omega))⟩
theorem freshO_any (t : Tv) : AgainO 58 (fun u s => s = u) t := by
  have h : ∀ N, ∀ t : Tv, SizeOf.sizeOf t = N → AgainO 58 (fun u s => s = u) t := by
    intro N
    induction N using Nat.strongRecOn with
    | _ N ih => exact fun t hN => freshO_step t (fun u hu => ih _ (by rw [← hN]; exact Tv.is_lt hu) u rfl)
  exact h _ t rfl

/-- What Find answers. -/
def FddO (t : Tv) (key : ByteArray) (lo : Nat) (e : Ending) (w' : World) : Prop :=
  ∃ r : Int, Fnd t.ks key r ∧ ((∃ (i : Nat) (u : Tv) (c : Array Value), r = i ∧ t.k = 9 ∧ t.is[i]? = some u ∧ e = .returned (.tuple #[.agg c, .bool true]) ∧ Nor w' lo w'.heap.size u c) ∨ ((t.k ≠ 9 ∨ r < 0 ∨ (t.is.length : Int) ≤ r) ∧ e = .returned (.tuple #[.agg zv, .bool false])))
set_option maxRecDepth 1000000 in
set_option maxHeartbeats 1000000 in
theorem find6O_any (t : Tv) (key : ByteArray) (w : World) (cs : Array Value) (ht : Tin w t cs) (hm : tmuch t ≤ 100000) : Calls Tryz.prog 28 #[.agg cs, .string key] w fun e w' => FddO t key w.heap.size e w' ∧ Below w.heap.size w w' := by
  have hlen : t.is.length ≤ 100000 := by have := tmuch_eq t; have := tmuchL_len t.is; omega
  have HML : Hid (tmuchL t.is ≤ 100000) := by have := tmuch_eq t; show _ ≤ _; omega
  obtain ⟨vy, vk, vi, rfl, hy, hk, hv, hb⟩ := ht.parts
  have HD := hide hb.l.d
  have HK := hide hk
  obtain ⟨⟨a, cap, rfl, _, hform⟩, hmax⟩ := hv
  have HF := hide hform
  have HC0 : Hid ((vcs t vy vk (.slice a t.is.length cap))[0]? = some (.int .i64 t.k)) := rfl
  have HC11 : Hid ((vcs t vy vk (.slice a t.is.length cap))[11]? = some vk) := rfl
  have HC12 : Hid ((vcs t vy vk (.slice a t.is.length cap))[12]? = some (.slice a t.is.length cap)) := rfl
  generalize vcs t vy vk (.slice a t.is.length cap) = cs at *
  clear ht hm hy hk hb hform
  have HW0 := hide (Rm.start w cs)
  have q11 := blk_cell (j := 11) HW0.out.p HC11.out
  unfold zv at HW0 q11
  go_enter Tryz.func28, Tryz.ntmps28
  go_wp2_with fail
  generalize (w.alloc (.cells cs 55)).alloc (.cells #[.int .i64 0, .bool false, .bool false, .int .u64 0, .int .u64 0, .string ⟨#[]⟩, .slice none 0 0, .int .i64 0, .int .u64 0, .int .u64 0, .string ⟨#[]⟩, .slice none 0 0, .slice none 0 0] 55) = w2 at *
  refine (index6_any w2 vk t.ks key (HK.out.move (keep_below HW0.out.b))).mono ?_
  rintro e w3 ⟨r, rfl, hr, hb3⟩
  have HW3 := hide (HW0.out.next hb3)
  have HFD := hide hr
  clear q11 HW0 hb3
  have q0 := blk_cell (j := 0) HW3.out.p HC0.out
  have q12 := blk_cell (j := 12) HW3.out.p HC12.out
  have HR4 := hide HW3.out.r
  have HIZ : Hid ((Tryz.prog.info? 55).map (·.size) = some zv.size) := infoV
  have HAZ : Hid (zv.all (·.oneCell') = true) := by show _ = _; simp [zv, Value.oneCell']
  by_cases hk9 : t.k = 9
  · have g0 : (t.k != 9) = false := by simp [hk9]
    rcases hr with ⟨hr1, hr2⟩ | ⟨i, hr1, hr2, hr3⟩
    · as_aux_lemma =>
      have HN : Hid (∀ w', FddO t key w.heap.size (.returned (.tuple #[.agg zv, .bool false])) w') := fun w' => ⟨r, HFD.out, Or.inr ⟨Or.inr (Or.inl (by omega)), rfl⟩⟩
      have g1 : r < 0 := by omega
      clear hr1
      clear hr2
      go_wp2_with (refine wpList_storeRow rfl rfl (w.heap.size + 1) zv zv 55 rfl rfl HR4.out HIZ.out rfl HAZ.out ?_)
      have hkr := row_kp w3 (w.heap.size + 1) zv
      exact bodyPost_ret (end_fd rfl (row_same HR4.out) rfl rfl) rfl ⟨HN.out _, HW3.out.b.trans (hkr.below HW3.out.b.size (fun q e => by omega))⟩
    · by_cases hlt : i < t.is.length
      · as_aux_lemma =>
        subst hr1
        have g1 : ¬ (i : Int) < 0 := by omega
        have g2 : ¬ (t.is.length : Int) ≤ (i : Int) := by omega
        have g3 : (i : Int) < (t.is.length : Int) := by omega
        obtain ⟨u, hu⟩ : ∃ u, t.is[i]? = some u := ⟨t.is[i], List.getElem?_eq_getElem hlt⟩
        obtain ⟨b, off, rfl, hcells⟩ := HF.out.resolve_left (fun h => by rw [h] at hlt; simp at hlt)
        obtain ⟨cu, hcu, hcc⟩ := hcells i u hu
        have hkb : ∀ p x, w.cell? p = some x → w3.cell? p = some x := keep_below HW3.out.b
        have HCC : Hid (∀ j x, cu[j]? = some x → w3.cell? ⟨b, off + i * 13 + j, none⟩ = some x) := fun j x hx => hkb _ _ (hcc j x hx)
        have hmem := List.mem_of_getElem? hu
        have HSZ := hide hcu.size13
        have HCA := hide (freshO_any u w3 cu (hcu.move hkb) (by have h1 := tmuchL_mem hmem; have h2 := HML.out; omega))
        have HU := hide hu
        have HK9 := hide hk9
        clear hu hcells hcu hcc hmem hkb hr2 hr3 hk9
        go_wp2_with (refine wpList_valAt rfl rfl b (off + i * 13) cu rfl HSZ.out HCC.out ?_)
        refine HCA.out.mono ?_
        rintro e w4 ⟨c, s, rfl, rfl, hnt, hb4⟩
        have HW4 := hide (HW3.out.next hb4)
        have HZ4 : Hid (w.heap.size + 2 ≤ w3.heap.size) := HW3.out.z
        have HNT := hide hnt
        have HA1 := hide hnt.tin.all1
        have HS1 := hide hnt.size
        have HIN : Hid ((Tryz.prog.info? 55).map (·.size) = some c.size) := by show _ = _; rw [HS1.out]; exact infoV
        have HZV : Hid (zv.size = c.size) := by show _ = _; rw [HS1.out]; rfl
        have HR5 := hide HW4.out.r
        clear hnt hb4 HCA HCC q0 q12
        go_wp2_with (refine wpList_storeRow rfl rfl (w.heap.size + 1) zv c 55 rfl rfl HR5.out HIN.out HZV.out HA1.out ?_)
        have hkr := row_kp w4 (w.heap.size + 1) c
        have hz4 := HZ4.out
        refine bodyPost_ret (end_fd HS1.out (row_same HR5.out) rfl rfl) rfl ⟨⟨(i : Int), HFD.out, Or.inl ⟨i, _, c, rfl, HK9.out, HU.out, rfl, (HNT.out.kp hkr (fun q h1 h2 e => by omega)).mono (by omega) hkr.size⟩⟩, HW4.out.b.trans (hkr.below HW4.out.b.size (fun q e => by omega))⟩
      · as_aux_lemma =>
        subst hr1
        have HN : Hid (∀ w', FddO t key w.heap.size (.returned (.tuple #[.agg zv, .bool false])) w') := fun w' => ⟨(i : Int), HFD.out, Or.inr ⟨Or.inr (Or.inr (by omega)), rfl⟩⟩
        have g1 : ¬ (i : Int) < 0 := by omega
        have g2 : (t.is.length : Int) ≤ (i : Int) := by omega
        clear hr2 hr3
        go_wp2_with (refine wpList_storeRow rfl rfl (w.heap.size + 1) zv zv 55 rfl rfl HR4.out HIZ.out rfl HAZ.out ?_)
        have hkr := row_kp w3 (w.heap.size + 1) zv
        exact bodyPost_ret (end_fd rfl (row_same HR4.out) rfl rfl) rfl ⟨HN.out _, HW3.out.b.trans (hkr.below HW3.out.b.size (fun q e => by omega))⟩
  · as_aux_lemma =>
    have HN : Hid (∀ w', FddO t key w.heap.size (.returned (.tuple #[.agg zv, .bool false])) w') := fun w' => ⟨r, HFD.out, Or.inr ⟨Or.inl hk9, rfl⟩⟩
    have g0 : (t.k != 9) = true := by simp [hk9]
    clear hr
    go_wp2_with (refine wpList_storeRow rfl rfl (w.heap.size + 1) zv zv 55 rfl rfl HR4.out HIZ.out rfl HAZ.out ?_)
    have hkr := row_kp w3 (w.heap.size + 1) zv
    exact bodyPost_ret (end_fd rfl (row_same HR4.out) rfl rfl) rfl ⟨HN.out _, HW3.out.b.trans (hkr.below HW3.out.b.size (fun q e => by omega))⟩
end
end Go.Proofs.YtgcccndbahphaaaGreatDoor

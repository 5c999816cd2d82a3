import Derived.Test.YtjlknnpgngaooaaGreatDoorJl
import Derived.Test.YtjlknnpgngaooaaGreatDoorJe
import Derived.Test.YtjlknnpgngaooaaGreatDoorJf
import Derived.Test.YtjlknnpgngaooaaGreatDoorJc
import Derived.Test.YtjlknnpgngaooaaGreatDoorJb
import Derived.Test.YtjlknnpgngaooaaGreatDoorJg
import Derived.Test.YtjlknnpgngaooaaGreatDoorJa
namespace Go.Proofs.YtjlknnpgngaooaaGreatDoor
section
open Go.RowKit Go
set_option maxRecDepth 1000000 in
set_option maxHeartbeats 2000000 in
theorem equal_rest (t u : Tv) (ih : ∀ v ∈ t.is, EqC v) (h9 : ¬ (t.k = 9 ∧ u.k = 9)) (w : World) (ca cb : Array Value) (hTa : Tin w t ca) (hTb : Tin w u cb) (hma : tmuch t ≤ 6000000) (hmb : tmuch u ≤ 6000000) : Calls Tryz.prog 22 #[.agg ca, .agg cb] w fun e w' => e = .returned (.bool (eqf t u)) ∧ Below w.heap.size w w' := by
  have eG : ∀ args w, (callFunc 22 args).run Tryz.prog w = .ok (.enter 22 args) w := enters_of Tryz.func22 (by kernel_rfl) rfl
  have HEG := hide eG
  have HR := hide (eqf_rest h9)
  generalize hR : eqf t u = R at *
  clear hR eG
  have hme := tmuch_eq t
  have hme2 := tmuch_eq u
  have HIH := hide ih
  have HMA : Hid (tmuchL t.is ≤ 6000000) := by show _ ≤ _; omega
  have HMB : Hid (tmuchL u.is ≤ 6000000) := by show _ ≤ _; omega
  clear ih hma hmb hme hme2
  obtain ⟨vy, vk, vi, rfl, hy, hk, hv, hb⟩ := hTa.parts
  obtain ⟨vy2, vk2, vi2, rfl, hy2, hk2, hv2, hb2⟩ := hTb.parts
  have HY := hide hy
  have HV := hide hv
  have HY2 := hide hy2
  have HV2 := hide hv2
  have HD1 := hide hb.l.d
  have HD2 := hide hb2.l.d
  obtain ⟨⟨ay, cy, rfl, _, _⟩, _, _⟩ := hy
  obtain ⟨⟨ak, ck, rfl, _, _⟩, _, _⟩ := hk
  obtain ⟨⟨ai, ci, rfl, _, _⟩, _⟩ := hv
  obtain ⟨⟨ay2, cy2, rfl, _, _⟩, _, _⟩ := hy2
  obtain ⟨⟨ak2, ck2, rfl, _, _⟩, _, _⟩ := hk2
  obtain ⟨⟨ai2, ci2, rfl, _, _⟩, _⟩ := hv2
  clear hTa hTb hb hb2
  have HW0 := hide (Bw.start w (vcs t (.slice ay t.y.length cy) (.slice ak t.ks.length ck) (.slice ai t.is.length ci)) (vcs u (.slice ay2 u.y.length cy2) (.slice ak2 u.ks.length ck2) (.slice ai2 u.is.length ci2)))
  have HA := hide (fun j x (h : (lcs t.l)[j]? = some x) => lk_in HW0.out.a h)
  have HBb := hide (fun j x (h : (lcs u.l)[j]? = some x) => lk_in HW0.out.c h)
  have a0 : ((w.alloc (.cells (vcs t (.slice ay t.y.length cy) (.slice ak t.ks.length ck) (.slice ai t.is.length ci)) 65)).alloc (.cells (vcs u (.slice ay2 u.y.length cy2) (.slice ak2 u.ks.length ck2) (.slice ai2 u.is.length ci2)) 65)).cell? ⟨w.heap.size, 0, none⟩ = some (.int .i64 t.k) := blk_cell HW0.out.a rfl
  have b0 : ((w.alloc (.cells (vcs t (.slice ay t.y.length cy) (.slice ak t.ks.length ck) (.slice ai t.is.length ci)) 65)).alloc (.cells (vcs u (.slice ay2 u.y.length cy2) (.slice ak2 u.ks.length ck2) (.slice ai2 u.is.length ci2)) 65)).cell? ⟨w.heap.size + 1, 0, none⟩ = some (.int .i64 u.k) := blk_cell HW0.out.c rfl
  have a1 : ((w.alloc (.cells (vcs t (.slice ay t.y.length cy) (.slice ak t.ks.length ck) (.slice ai t.is.length ci)) 65)).alloc (.cells (vcs u (.slice ay2 u.y.length cy2) (.slice ak2 u.ks.length ck2) (.slice ai2 u.is.length ci2)) 65)).cell? ⟨w.heap.size, 1, none⟩ = some (.bool t.f) := blk_cell HW0.out.a rfl
  have b1 : ((w.alloc (.cells (vcs t (.slice ay t.y.length cy) (.slice ak t.ks.length ck) (.slice ai t.is.length ci)) 65)).alloc (.cells (vcs u (.slice ay2 u.y.length cy2) (.slice ak2 u.ks.length ck2) (.slice ai2 u.is.length ci2)) 65)).cell? ⟨w.heap.size + 1, 1, none⟩ = some (.bool u.f) := blk_cell HW0.out.c rfl
  have a2 : ((w.alloc (.cells (vcs t (.slice ay t.y.length cy) (.slice ak t.ks.length ck) (.slice ai t.is.length ci)) 65)).alloc (.cells (vcs u (.slice ay2 u.y.length cy2) (.slice ak2 u.ks.length ck2) (.slice ai2 u.is.length ci2)) 65)).cell? ⟨w.heap.size, 2, none⟩ = some (.bool t.g) := blk_cell HW0.out.a rfl
  have b2 : ((w.alloc (.cells (vcs t (.slice ay t.y.length cy) (.slice ak t.ks.length ck) (.slice ai t.is.length ci)) 65)).alloc (.cells (vcs u (.slice ay2 u.y.length cy2) (.slice ak2 u.ks.length ck2) (.slice ai2 u.is.length ci2)) 65)).cell? ⟨w.heap.size + 1, 2, none⟩ = some (.bool u.g) := blk_cell HW0.out.c rfl
  have a3 : ((w.alloc (.cells (vcs t (.slice ay t.y.length cy) (.slice ak t.ks.length ck) (.slice ai t.is.length ci)) 65)).alloc (.cells (vcs u (.slice ay2 u.y.length cy2) (.slice ak2 u.ks.length ck2) (.slice ai2 u.is.length ci2)) 65)).cell? ⟨w.heap.size, 3, none⟩ = some (.int .u64 (t.n : Nat)) := blk_cell HW0.out.a rfl
  have b3 : ((w.alloc (.cells (vcs t (.slice ay t.y.length cy) (.slice ak t.ks.length ck) (.slice ai t.is.length ci)) 65)).alloc (.cells (vcs u (.slice ay2 u.y.length cy2) (.slice ak2 u.ks.length ck2) (.slice ai2 u.is.length ci2)) 65)).cell? ⟨w.heap.size + 1, 3, none⟩ = some (.int .u64 (u.n : Nat)) := blk_cell HW0.out.c rfl
  have a4 : ((w.alloc (.cells (vcs t (.slice ay t.y.length cy) (.slice ak t.ks.length ck) (.slice ai t.is.length ci)) 65)).alloc (.cells (vcs u (.slice ay2 u.y.length cy2) (.slice ak2 u.ks.length ck2) (.slice ai2 u.is.length ci2)) 65)).cell? ⟨w.heap.size, 4, none⟩ = some (.int .u64 (t.b : Nat)) := blk_cell HW0.out.a rfl
  have b4 : ((w.alloc (.cells (vcs t (.slice ay t.y.length cy) (.slice ak t.ks.length ck) (.slice ai t.is.length ci)) 65)).alloc (.cells (vcs u (.slice ay2 u.y.length cy2) (.slice ak2 u.ks.length ck2) (.slice ai2 u.is.length ci2)) 65)).cell? ⟨w.heap.size + 1, 4, none⟩ = some (.int .u64 (u.b : Nat)) := blk_cell HW0.out.c rfl
  have a5 : ((w.alloc (.cells (vcs t (.slice ay t.y.length cy) (.slice ak t.ks.length ck) (.slice ai t.is.length ci)) 65)).alloc (.cells (vcs u (.slice ay2 u.y.length cy2) (.slice ak2 u.ks.length ck2) (.slice ai2 u.is.length ci2)) 65)).cell? ⟨w.heap.size, 5, none⟩ = some (.string t.s) := blk_cell HW0.out.a rfl
  have b5 : ((w.alloc (.cells (vcs t (.slice ay t.y.length cy) (.slice ak t.ks.length ck) (.slice ai t.is.length ci)) 65)).alloc (.cells (vcs u (.slice ay2 u.y.length cy2) (.slice ak2 u.ks.length ck2) (.slice ai2 u.is.length ci2)) 65)).cell? ⟨w.heap.size + 1, 5, none⟩ = some (.string u.s) := blk_cell HW0.out.c rfl
  have a6 : ((w.alloc (.cells (vcs t (.slice ay t.y.length cy) (.slice ak t.ks.length ck) (.slice ai t.is.length ci)) 65)).alloc (.cells (vcs u (.slice ay2 u.y.length cy2) (.slice ak2 u.ks.length ck2) (.slice ai2 u.is.length ci2)) 65)).cell? ⟨w.heap.size, 6, none⟩ = some (.slice ay t.y.length cy) := blk_cell HW0.out.a rfl
  have b6 : ((w.alloc (.cells (vcs t (.slice ay t.y.length cy) (.slice ak t.ks.length ck) (.slice ai t.is.length ci)) 65)).alloc (.cells (vcs u (.slice ay2 u.y.length cy2) (.slice ak2 u.ks.length ck2) (.slice ai2 u.is.length ci2)) 65)).cell? ⟨w.heap.size + 1, 6, none⟩ = some (.slice ay2 u.y.length cy2) := blk_cell HW0.out.c rfl
  have a12 : ((w.alloc (.cells (vcs t (.slice ay t.y.length cy) (.slice ak t.ks.length ck) (.slice ai t.is.length ci)) 65)).alloc (.cells (vcs u (.slice ay2 u.y.length cy2) (.slice ak2 u.ks.length ck2) (.slice ai2 u.is.length ci2)) 65)).cell? ⟨w.heap.size, 12, none⟩ = some (.slice ai t.is.length ci) := blk_cell HW0.out.a rfl
  have b12 : ((w.alloc (.cells (vcs t (.slice ay t.y.length cy) (.slice ak t.ks.length ck) (.slice ai t.is.length ci)) 65)).alloc (.cells (vcs u (.slice ay2 u.y.length cy2) (.slice ak2 u.ks.length ck2) (.slice ai2 u.is.length ci2)) 65)).cell? ⟨w.heap.size + 1, 12, none⟩ = some (.slice ai2 u.is.length ci2) := blk_cell HW0.out.c rfl
  generalize hca : vcs t (.slice ay t.y.length cy) (.slice ak t.ks.length ck) (.slice ai t.is.length ci) = ca at *
  generalize hcb : vcs u (.slice ay2 u.y.length cy2) (.slice ak2 u.ks.length ck2) (.slice ai2 u.is.length ci2) = cb at *
  have HCA := hide hca
  have HCB := hide hcb
  clear hca hcb
  by_cases h9a : t.k = 9
  · as_aux_lemma =>
    have h0 : ¬ t.k = u.k := fun e => h9 ⟨h9a, e ▸ h9a⟩
    have n9 : (t.k == 9) = true := by rw [h9a]; rfl
    have n9b : (u.k == 9) = false := beq_eq_false_iff_ne.2 (fun e => h9 ⟨h9a, e⟩)
    have HN : Hid (R = false) := by show _ = _; rw [HR.out]; simp [h0]
    have k0 : (t.k == u.k) = false := beq_eq_false_iff_ne.2 h0
    clear h0 h9a h9
    go_enter Tryz.func22, Tryz.ntmps22
    go_wp2_with fail
    go_ret
    exact ⟨by rw [HN.out]; rfl, HW0.out.b⟩
  have n9 : (t.k == 9) = false := beq_eq_false_iff_ne.2 h9a
  clear h9 h9a
  by_cases h0 : t.k = u.k
  case neg => as_aux_lemma =>
    have HN : Hid (R = false) := by show _ = _; rw [HR.out]; simp [h0]
    have k0 : (t.k == u.k) = false := beq_eq_false_iff_ne.2 h0
    clear h0
    go_enter Tryz.func22, Tryz.ntmps22
    go_wp2_with fail
    go_ret
    exact ⟨by rw [HN.out]; rfl, HW0.out.b⟩
  have k0 : (t.k == u.k) = true := beq_iff_eq.2 h0
  have H0 := hide h0
  clear h0
  by_cases h1 : t.f = u.f
  case neg => as_aux_lemma =>
    have HN : Hid (R = false) := by show _ = _; rw [HR.out]; simp [h1]
    have k1 : (t.f == u.f) = false := beq_eq_false_iff_ne.2 h1
    clear h1
    go_enter Tryz.func22, Tryz.ntmps22
    go_wp2_with fail
    go_ret
    exact ⟨by rw [HN.out]; rfl, HW0.out.b⟩
  have k1 : (t.f == u.f) = true := beq_iff_eq.2 h1
  have H1 := hide h1
  clear h1
  by_cases h2 : t.g = u.g
  case neg => as_aux_lemma =>
    have HN : Hid (R = false) := by show _ = _; rw [HR.out]; simp [h2]
    have k2 : (t.g == u.g) = false := beq_eq_false_iff_ne.2 h2
    clear h2
    go_enter Tryz.func22, Tryz.ntmps22
    go_wp2_with fail
    go_ret
    exact ⟨by rw [HN.out]; rfl, HW0.out.b⟩
  have k2 : (t.g == u.g) = true := beq_iff_eq.2 h2
  have H2 := hide h2
  clear h2
  by_cases h3 : t.n = u.n
  case neg => as_aux_lemma =>
    have HN : Hid (R = false) := by show _ = _; rw [HR.out]; simp [h3]
    have k3 : ((t.n : Int) == (u.n : Int)) = false := beq_eq_false_iff_ne.2 (by omega)
    clear h3
    go_enter Tryz.func22, Tryz.ntmps22
    go_wp2_with fail
    go_ret
    exact ⟨by rw [HN.out]; rfl, HW0.out.b⟩
  have k3 : ((t.n : Int) == (u.n : Int)) = true := beq_iff_eq.2 (by omega)
  have H3 := hide h3
  clear h3
  by_cases h4 : t.b = u.b
  case neg => as_aux_lemma =>
    have HN : Hid (R = false) := by show _ = _; rw [HR.out]; simp [h4]
    have k4 : ((t.b : Int) == (u.b : Int)) = false := beq_eq_false_iff_ne.2 (by omega)
    clear h4
    go_enter Tryz.func22, Tryz.ntmps22
    go_wp2_with fail
    go_ret
    exact ⟨by rw [HN.out]; rfl, HW0.out.b⟩
  have k4 : ((t.b : Int) == (u.b : Int)) = true := beq_iff_eq.2 (by omega)
  have H4 := hide h4
  clear h4
  by_cases h5 : t.s = u.s
  case neg => as_aux_lemma =>
    have HN : Hid (R = false) := by show _ = _; rw [HR.out]; simp [h5]
    have k5 : (t.s.toList == u.s.toList) = false := str_beq_no h5
    clear h5
    go_enter Tryz.func22, Tryz.ntmps22
    go_wp2_with fail
    go_ret
    exact ⟨by rw [HN.out]; rfl, HW0.out.b⟩
  have k5 : (t.s.toList == u.s.toList) = true := by rw [h5]; exact beq_self_eq_true _
  have H5 := hide h5
  clear h5
  by_cases h6 : t.l = u.l
  case neg => as_aux_lemma =>
    have HN : Hid (R = false) := by show _ = _; rw [HR.out]; simp [h6]
    have HEQ : Hid (∀ wx : World, (Op.equalIn 10000 63 (.agg (lcs t.l)) (.agg (lcs u.l))).run Tryz.prog wx = .ok false wx) := fun wx => by have h := eqlk wx HD1.out HD2.out; rw [decide_eq_false h6] at h; exact h
    clear h6
    go_enter Tryz.func22, Tryz.ntmps22
    go_wp2_with (first
      | (refine wpList_lkAt rfl rfl w.heap.size 7 t.l rfl HA.out ?_)
      | (refine wpList_lkAt rfl rfl (w.heap.size + 1) 7 u.l rfl HBb.out ?_)
      | (refine wpList_eqlk rfl rfl _ _ false rfl rfl (HEQ.out _) ?_))
    go_ret
    exact ⟨by rw [HN.out]; rfl, HW0.out.b⟩
  have HEQ : Hid (∀ wx : World, (Op.equalIn 10000 63 (.agg (lcs t.l)) (.agg (lcs u.l))).run Tryz.prog wx = .ok true wx) := fun wx => by have h := eqlk wx HD1.out HD2.out; rw [decide_eq_true h6] at h; exact h
  have H6 := hide h6
  clear h6
  go_enter Tryz.func22, Tryz.ntmps22
  go_wp2_with (first
    | (refine wpList_lkAt rfl rfl w.heap.size 7 t.l rfl HA.out ?_)
    | (refine wpList_lkAt rfl rfl (w.heap.size + 1) 7 u.l rfl HBb.out ?_)
    | (refine wpList_eqlk rfl rfl _ _ true rfl rfl (HEQ.out _) ?_))
  clear a0 a1 a2 a3 a4 a5 a6 a12 b0 b1 b2 b3 b4 b5 b6 b12
  generalize (w.alloc (.cells ca 65)).alloc (.cells cb 65) = w2 at *
  refine (alikeE_any w2 _ _ t.y u.y (HY.out.move (keep_below HW0.out.b)) (HY2.out.move (keep_below HW0.out.b))).mono ?_
  rintro e w3 ⟨rfl, hb3⟩
  have HW3 := hide (HW0.out.next hb3)
  clear hb3 HW0 HA HBb HEQ
  by_cases h7 : t.y = u.y
  case neg => as_aux_lemma =>
    have HN : Hid (R = false) := by show _ = _; rw [HR.out]; simp [h7]
    rw [decide_eq_false h7]
    clear h7
    go_wp2_with fail
    go_ret
    exact ⟨by rw [HN.out]; rfl, HW3.out.b⟩
  rw [decide_eq_true h7]
  have HRR : Hid (R = alk (eqx t u) (List.range t.is.length) (List.range u.is.length)) := by show _ = _; rw [HR.out]; simp [H0.out, H1.out, H2.out, H3.out, H4.out, H5.out, H6.out, h7]
  clear h7
  have a12 : w3.cell? ⟨w.heap.size, 12, none⟩ = some (.slice ai t.is.length ci) := blk_cell HW3.out.a (by rw [← HCA.out]; rfl)
  have b12 : w3.cell? ⟨w.heap.size + 1, 12, none⟩ = some (.slice ai2 u.is.length ci2) := blk_cell HW3.out.c (by rw [← HCB.out]; rfl)
  go_wp2_with fail
  refine (alikeV_any 22 #[] HEG.out w3 _ _ t.is u.is (eqx t u) (HV.out.move (keep_below HW3.out.b)) (HV2.out.move (keep_below HW3.out.b)) (fun wx hbx i p q c1 c2 hp hq h1 h2 => ?_)).mono ?_
  · rw [eqx_at hp hq]
    exact HIH.out p (List.mem_of_getElem? hp) q wx c1 c2 h1 h2 (Nat.le_trans (tmuchL_mem (List.mem_of_getElem? hp)) HMA.out) (Nat.le_trans (tmuchL_mem (List.mem_of_getElem? hq)) HMB.out)
  rintro e w5 ⟨rfl, hb5⟩
  have HB5 : Hid (Below w.heap.size w w5) := HW3.out.b.trans (hb5.mono HW3.out.b.size)
  rw [← HRR.out]
  clear hb5 a12 b12
  go_wp2_with fail
  go_ret
  exact ⟨rfl, HB5.out⟩
theorem equal6_any (a : Tv) : EqC a := by
  have h : ∀ N, ∀ t : Tv, SizeOf.sizeOf t = N → EqC t := by
    intro N
    induction N using Nat.strongRecOn with
    | _ N ih =>
      intro t hN b w ca cb h1 h2 h3 h4
      have ih' : ∀ u ∈ t.is, EqC u := fun u hu => ih _ (by rw [← hN]; exact Tv.is_lt hu) u rfl
      by_cases h : t.k = 9 ∧ b.k = 9
      · exact equal_map t b ih' h.1 h.2 w ca cb h1 h2 h3 h4
      · exact equal_rest t b ih' h w ca cb h1 h2 h3 h4
  exact h _ a rfl
theorem ordp_srp (ks : List ByteArray) (n : Nat) : Srp ks n (ordp ks n) := by
  by_cases hn0 : 0 < n
  · let inst : Inhabited (Fin n) := ⟨⟨0, hn0⟩⟩
    have hod : ordp ks n = (ordF ks n).toList.map Fin.val := by
      unfold ordp
      rw [dif_pos hn0]
    have hds : (List.finRange n).toArray.size = n := by simp
    have hpd : Go.Sort.PermIn 0 (List.finRange n).toArray.size (List.finRange n).toArray (ordF ks n) ∧ Go.Sort.SortedIn (Go.Proofs.ltOf (kcf ks n)) 0 (List.finRange n).toArray.size (ordF ks n) := Go.Sort.pdq_sorts (Go.Proofs.ltOf (kcf ks n)) (kcf_swo ks n) (List.finRange n).toArray 0 (List.finRange n).toArray.size (Lib.bitLen (List.finRange n).toArray.size) true true (Nat.zero_le _) (Nat.le_refl _) (Or.inl rfl)
    generalize ordF ks n = d' at *
    obtain ⟨hp, hs⟩ := hpd
    rw [hds] at hp hs
    have hd' : d'.size = n := by rw [hp.1, hds]
    have hperm : d'.toList.Perm (List.finRange n) := by
      have h := hp.2.2
      have e1 : d'.extract 0 n = d' := by
        have h2 : d'.extract 0 d'.size = d' := by simp
        rw [hd'] at h2
        exact h2
      have e2 : (List.finRange n).toArray.extract 0 n = (List.finRange n).toArray := by
        have h2 : (List.finRange n).take n = List.finRange n := List.take_of_length_le (by simp)
        simp [h2]
      rw [e1, e2] at h
      exact h
    rw [hod]
    refine ⟨?_, fun i j p q hij h1 h2 => ?_⟩
    · have h := hperm.map Fin.val
      have e : (List.finRange n).map Fin.val = List.range n := by
        apply List.ext_getElem?
        intro j
        by_cases hj : j < n
        · simp [hj]
        · rw [List.getElem?_eq_none (by simpa using hj), List.getElem?_eq_none (by simpa using hj)]
      rw [e] at h
      exact h
    · have hjl : j < d'.size := by
        have := (List.getElem?_eq_some_iff.1 h2).1
        simpa using this
      have hil : i < d'.size := by omega
      simp [hil] at h1
      simp [hjl] at h2
      have hl := hs i j (Nat.zero_le _) hij (by omega)
      rw [kcf_lt, getElem!_pos d' i hil, getElem!_pos d' j hjl, h1, h2] at hl
      exact hl
  · have e : n = 0 := by omega
    subst e
    exact ⟨by simp [ordp], fun i j p q _ h => by simp [ordp] at h⟩
/-- Of trees: equal, whatever the order of entries. -/
theorem eqf_teq (a : Tv) : ∀ b, Trk a → Trk b → (eqf a b = true ↔ Teq a b) := by
  have h : ∀ N, ∀ t : Tv, SizeOf.sizeOf t = N → ∀ b, Trk t → Trk b → (eqf t b = true ↔ Teq t b) := by
    intro N
    induction N using Nat.strongRecOn with
    | _ N ih =>
      intro a hN b ha hb
      have ih' : ∀ u ∈ a.is, ∀ v, Trk u → Trk v → (eqf u v = true ↔ Teq u v) := fun u hu => ih _ (by rw [← hN]; exact Tv.is_lt hu) u rfl
      by_cases h9 : a.k = 9 ∧ b.k = 9
      · obtain ⟨h1, h2⟩ := h9
        have spa := ordp_srp a.ks (min a.ks.length a.is.length)
        have spb := ordp_srp b.ks (min b.ks.length b.is.length)
        rw [eqf_map h1 h2, alk_iff, teq_map ha hb h1 h2 spa spb]
        refine and_congr_right fun _ => ⟨fun h i p q hp hq => ?_, fun h i p q hp hq => ?_⟩
        · have hx := h i p q hp hq
          unfold eqk at hx
          rw [Bool.and_eq_true, decide_eq_true_iff] at hx
          refine ⟨hx.1, fun u v hu hv => ?_⟩
          have hy := hx.2
          rw [eqx_at hu hv] at hy
          exact (ih' u (List.mem_of_getElem? hu) v (ha.i u (List.mem_of_getElem? hu)) (hb.i v (List.mem_of_getElem? hv))).1 hy
        · have hx := h i p q hp hq
          have l1 := spa.lt p (List.mem_of_getElem? hp)
          have l2 := spb.lt q (List.mem_of_getElem? hq)
          have hu := List.getElem?_eq_getElem (show p < a.is.length by omega)
          have hv := List.getElem?_eq_getElem (show q < b.is.length by omega)
          unfold eqk
          rw [Bool.and_eq_true, decide_eq_true_iff, eqx_at hu hv]
          exact ⟨hx.1, (ih' _ (List.mem_of_getElem? hu) _ (ha.i _ (List.mem_of_getElem? hu)) (hb.i _ (List.mem_of_getElem? hv))).2 (hx.2 _ _ hu hv)⟩
      · rw [eqf_rest h9]
        simp only [Bool.and_eq_true, decide_eq_true_iff, alk_iff]
        constructor
        · rintro ⟨e0, e1, e2, e3, e4, e5, e6, e7, e8, e9⟩
          have ka : a.k ≠ 9 := fun e => h9 ⟨e, e0 ▸ e⟩
          refine teq_rest ka ⟨e0.symm, e1.symm, e2.symm, e3.symm, e4.symm, e5.symm, e7.symm, e6.symm⟩ (ha.e ka) (hb.e (by rw [← e0]; exact ka)) (by simpa using e8) (fun i u v hu hv => ?_)
          have l1 := (List.getElem?_eq_some_iff.1 hu).1
          have l2 := (List.getElem?_eq_some_iff.1 hv).1
          have hx := e9 i i i (List.getElem?_range l1) (List.getElem?_range l2)
          rw [eqx_at hu hv] at hx
          exact (ih' u (List.mem_of_getElem? hu) v (ha.i u (List.mem_of_getElem? hu)) (hb.i v (List.mem_of_getElem? hv))).1 hx
        · intro ht
          have tp := teq_top ht
          have ka : a.k ≠ 9 := fun e => h9 ⟨e, tp.k.trans e⟩
          obtain ⟨n1, i1⟩ := teq_items ka ht
          refine ⟨tp.k.symm, tp.f.symm, tp.g.symm, tp.n.symm, tp.b.symm, tp.s.symm, tp.l.symm, tp.y.symm, by simpa using n1, fun i x y hx hy => ?_⟩
          have l1 := (List.getElem?_eq_some_iff.1 hx).1
          have l2 := (List.getElem?_eq_some_iff.1 hy).1
          simp at l1 l2
          rw [List.getElem?_range l1] at hx
          rw [List.getElem?_range l2] at hy
          injection hx with hx
          injection hy with hy
          subst hx
          subst hy
          have hu := List.getElem?_eq_getElem l1
          have hv := List.getElem?_eq_getElem l2
          rw [eqx_at hu hv]
          exact (ih' _ (List.mem_of_getElem? hu) _ (ha.i _ (List.mem_of_getElem? hu)) (hb.i _ (List.mem_of_getElem? hv))).2 (i1 i _ _ hu hv)
  exact h _ a rfl
end
section
open Go.RowKit Go
theorem sorted6_any (t : Tv) : AgainC 58 SrtR t := by
  have h : ∀ N, ∀ t : Tv, SizeOf.sizeOf t = N → AgainC 58 SrtR t := by
    intro N
    induction N using Nat.strongRecOn with
    | _ N ih => exact fun t hN => sorted_step t (fun u hu => ih _ (by rw [← hN]; exact Tv.is_lt hu) u rfl)
  exact h _ t rfl
end
section
open Go.RowKit Go

end
section
open Go.RowKit Go

end
section
open Go.RowKit Go

end
section
open Go.RowKit Go

end
section
open Go.RowKit Go

end
section
open Go.RowKit Go

end
end Go.Proofs.YtjlknnpgngaooaaGreatDoor

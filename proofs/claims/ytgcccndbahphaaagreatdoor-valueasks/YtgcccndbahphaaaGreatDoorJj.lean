import Derived.Test.YtgcccndbahphaaaGreatDoorJi
import Derived.Test.YtgcccndbahphaaaGreatDoorJc
import Derived.Test.YtgcccndbahphaaaGreatDoorJb
namespace Go.Proofs.YtgcccndbahphaaaGreatDoor
section
open Go.RowKit Go
theorem Tv.same {t u : Tv} (h0 : t.k = u.k) (h1 : t.f = u.f) (h2 : t.g = u.g) (h3 : t.n = u.n) (h4 : t.b = u.b) (h5 : t.s = u.s) (h6 : t.l = u.l) (h7 : t.y = u.y) (h8 : t.ks = u.ks) (h9 : t.is = u.is) : t = u := by
  obtain ⟨k, f, g, n, b, s, y, l, ks, is⟩ := t
  obtain ⟨k2, f2, g2, n2, b2, s2, y2, l2, ks2, is2⟩ := u
  simp only [Tv.k, Tv.f, Tv.g, Tv.n, Tv.b, Tv.s, Tv.y, Tv.l, Tv.ks, Tv.is] at h0 h1 h2 h3 h4 h5 h6 h7 h8 h9
  subst h0 h1 h2 h3 h4 h5 h6 h7 h8 h9
  rfl
theorem str_beq_no {s t : ByteArray} (he : s ≠ t) : (s.toList == t.toList) = false := by
  have h := str_bne s t
  simp [he] at h
  exact beq_eq_false_iff_ne.2 h
set_option maxRecDepth 1000000 in
set_option maxHeartbeats 2000000 in
theorem eqValue_step (N : Nat) (ih : EqsV N) (t u : Tv) (hN : SizeOf.sizeOf t = N) (R : Bool) (hR : R = true ↔ t = u) (w : World) (c cs : Array Value) (ht : Tin w t c) (hu : Tin w u cs) : Calls Tryz.prog 22 #[.agg c, .agg cs] w fun e w' => e = .returned (.bool R) ∧ Below w.heap.size w w' := by
  have HR := hide hR
  clear hR
  have HIH := hide ih
  have HNN : Hid (∀ u ∈ t.is, SizeOf.sizeOf u < N) := fun u hu => by rw [← hN]; exact Tv.is_lt hu
  clear ih hN
  obtain ⟨vy, vk, vi, rfl, hy, hk, hv, hb⟩ := ht.parts
  obtain ⟨vy2, vk2, vi2, rfl, hy2, hk2, hv2, hb2⟩ := hu.parts
  have HY := hide hy
  have HK := hide hk
  have HV := hide hv
  have HY2 := hide hy2
  have HK2 := hide hk2
  have HV2 := hide hv2
  have HD1 := hide hb.l.d
  have HD2 := hide hb2.l.d
  obtain ⟨⟨ay, cy, rfl, _, _⟩, _, _⟩ := hy
  obtain ⟨⟨ak, ck, rfl, _, _⟩, _, _⟩ := hk
  obtain ⟨⟨ai, ci, rfl, _, _⟩, _⟩ := hv
  obtain ⟨⟨ay2, cy2, rfl, _, _⟩, _, _⟩ := hy2
  obtain ⟨⟨ak2, ck2, rfl, _, _⟩, _, _⟩ := hk2
  obtain ⟨⟨ai2, ci2, rfl, _, _⟩, _⟩ := hv2
  clear ht hb hu hb2
  unfold vcs
  have HW0 : Hid (Bw w ((w.alloc (.cells #[.int .i64 t.k, .bool t.f, .bool t.g, .int .u64 (t.n : Nat), .int .u64 (t.b : Nat), .string t.s, .slice ay t.y.length cy, .int .i64 t.l.v, .int .u64 (t.l.c : Nat), .int .u64 (t.l.h : Nat), .string (nstr t.l.d), .slice ak t.ks.length ck, .slice ai t.is.length ci] 55)).alloc (.cells #[.int .i64 u.k, .bool u.f, .bool u.g, .int .u64 (u.n : Nat), .int .u64 (u.b : Nat), .string u.s, .slice ay2 u.y.length cy2, .int .i64 u.l.v, .int .u64 (u.l.c : Nat), .int .u64 (u.l.h : Nat), .string (nstr u.l.d), .slice ak2 u.ks.length ck2, .slice ai2 u.is.length ci2] 55)) (vcs t (.slice ay t.y.length cy) (.slice ak t.ks.length ck) (.slice ai t.is.length ci)) (vcs u (.slice ay2 u.y.length cy2) (.slice ak2 u.ks.length ck2) (.slice ai2 u.is.length ci2))) := Bw.start w _ _
  have HA := hide (fun j x (h : (lcs t.l)[j]? = some x) => lk_in HW0.out.a h)
  have HBb := hide (fun j x (h : (lcs u.l)[j]? = some x) => lk_in HW0.out.c h)
  by_cases h0 : t.k = u.k
  case neg => as_aux_lemma =>
    have HN : Hid (R = false) := r_no HR.out (fun h => h0 (by rw [h]))
    have k0 : (t.k == u.k) = false := beq_eq_false_iff_ne.2 h0
    clear h0
    go_enter Tryz.func22, Tryz.ntmps22
    go_wp2_with fail
    go_ret
    exact ⟨by rw [HN.out]; rfl, HW0.out.b⟩
  have k0 : (t.k == u.k) = true := beq_iff_eq.2 h0
  have H0 := hide h0
  clear h0
  by_cases h1 : t.f = u.f
  case neg => as_aux_lemma =>
    have HN : Hid (R = false) := r_no HR.out (fun h => h1 (by rw [h]))
    have k1 : (t.f == u.f) = false := beq_eq_false_iff_ne.2 h1
    clear h1
    go_enter Tryz.func22, Tryz.ntmps22
    go_wp2_with fail
    go_ret
    exact ⟨by rw [HN.out]; rfl, HW0.out.b⟩
  have k1 : (t.f == u.f) = true := beq_iff_eq.2 h1
  have H1 := hide h1
  clear h1
  by_cases h2 : t.g = u.g
  case neg => as_aux_lemma =>
    have HN : Hid (R = false) := r_no HR.out (fun h => h2 (by rw [h]))
    have k2 : (t.g == u.g) = false := beq_eq_false_iff_ne.2 h2
    clear h2
    go_enter Tryz.func22, Tryz.ntmps22
    go_wp2_with fail
    go_ret
    exact ⟨by rw [HN.out]; rfl, HW0.out.b⟩
  have k2 : (t.g == u.g) = true := beq_iff_eq.2 h2
  have H2 := hide h2
  clear h2
  by_cases h3 : t.n = u.n
  case neg => as_aux_lemma =>
    have HN : Hid (R = false) := r_no HR.out (fun h => h3 (by rw [h]))
    have k3 : ((t.n : Int) == (u.n : Int)) = false := beq_eq_false_iff_ne.2 (by omega)
    clear h3
    go_enter Tryz.func22, Tryz.ntmps22
    go_wp2_with fail
    go_ret
    exact ⟨by rw [HN.out]; rfl, HW0.out.b⟩
  have k3 : ((t.n : Int) == (u.n : Int)) = true := beq_iff_eq.2 (by omega)
  have H3 := hide h3
  clear h3
  by_cases h4 : t.b = u.b
  case neg => as_aux_lemma =>
    have HN : Hid (R = false) := r_no HR.out (fun h => h4 (by rw [h]))
    have k4 : ((t.b : Int) == (u.b : Int)) = false := beq_eq_false_iff_ne.2 (by omega)
    clear h4
    go_enter Tryz.func22, Tryz.ntmps22
    go_wp2_with fail
    go_ret
    exact ⟨by rw [HN.out]; rfl, HW0.out.b⟩
  have k4 : ((t.b : Int) == (u.b : Int)) = true := beq_iff_eq.2 (by omega)
  have H4 := hide h4
  clear h4
  by_cases h5 : t.s = u.s
  case neg => as_aux_lemma =>
    have HN : Hid (R = false) := r_no HR.out (fun h => h5 (by rw [h]))
    have k5 : (t.s.toList == u.s.toList) = false := str_beq_no h5
    clear h5
    go_enter Tryz.func22, Tryz.ntmps22
    go_wp2_with fail
    go_ret
    exact ⟨by rw [HN.out]; rfl, HW0.out.b⟩
  have k5 : (t.s.toList == u.s.toList) = true := by rw [h5]; exact beq_self_eq_true _
  have H5 := hide h5
  clear h5
  by_cases h6 : t.l = u.l
  case neg => as_aux_lemma =>
    have HN : Hid (R = false) := r_no HR.out (fun h => h6 (by rw [h]))
    have HEQ : Hid (∀ wx : World, (Op.equalIn 10000 53 (.agg (lcs t.l)) (.agg (lcs u.l))).run Tryz.prog wx = .ok false wx) := fun wx => by have h := eqlk wx HD1.out HD2.out; rw [decide_eq_false h6] at h; exact h
    clear h6
    go_enter Tryz.func22, Tryz.ntmps22
    go_wp2_with (first
      | (refine wpList_lkAt rfl rfl w.heap.size 7 t.l rfl HA.out ?_)
      | (refine wpList_lkAt rfl rfl (w.heap.size + 1) 7 u.l rfl HBb.out ?_)
      | (refine wpList_eqlk rfl rfl _ _ false rfl rfl (HEQ.out _) ?_))
    go_ret
    exact ⟨by rw [HN.out]; rfl, HW0.out.b⟩
  have HEQ : Hid (∀ wx : World, (Op.equalIn 10000 53 (.agg (lcs t.l)) (.agg (lcs u.l))).run Tryz.prog wx = .ok true wx) := fun wx => by have h := eqlk wx HD1.out HD2.out; rw [decide_eq_true h6] at h; exact h
  have H6 := hide h6
  clear h6
  go_enter Tryz.func22, Tryz.ntmps22
  go_wp2_with (first
    | (refine wpList_lkAt rfl rfl w.heap.size 7 t.l rfl HA.out ?_)
    | (refine wpList_lkAt rfl rfl (w.heap.size + 1) 7 u.l rfl HBb.out ?_)
    | (refine wpList_eqlk rfl rfl _ _ true rfl rfl (HEQ.out _) ?_))
  generalize (w.alloc (.cells #[.int .i64 t.k, .bool t.f, .bool t.g, .int .u64 (t.n : Nat), .int .u64 (t.b : Nat), .string t.s, .slice ay t.y.length cy, .int .i64 t.l.v, .int .u64 (t.l.c : Nat), .int .u64 (t.l.h : Nat), .string (nstr t.l.d), .slice ak t.ks.length ck, .slice ai t.is.length ci] 55)).alloc (.cells #[.int .i64 u.k, .bool u.f, .bool u.g, .int .u64 (u.n : Nat), .int .u64 (u.b : Nat), .string u.s, .slice ay2 u.y.length cy2, .int .i64 u.l.v, .int .u64 (u.l.c : Nat), .int .u64 (u.l.h : Nat), .string (nstr u.l.d), .slice ak2 u.ks.length ck2, .slice ai2 u.is.length ci2] 55) = w2 at *
  refine (eq_any w2 _ _ t.y u.y (HY.out.move (keep_below HW0.out.b)) (HY2.out.move (keep_below HW0.out.b))).mono ?_
  rintro e w3 ⟨rfl, hk3⟩
  have HW3 := hide (HW0.out.next (hk3.below (Nat.le_refl _) (fun _ h => h.elim)))
  clear hk3 HW0 HA HBb HEQ
  by_cases h7 : t.y = u.y
  case neg => as_aux_lemma =>
    have HN : Hid (R = false) := r_no HR.out (fun h => h7 (by rw [h]))
    rw [decide_eq_false h7]
    clear h7
    go_wp2_with fail
    go_ret
    exact ⟨by rw [HN.out]; rfl, HW3.out.b⟩
  rw [decide_eq_true h7]
  have H7 := hide h7
  clear h7
  have a11 := blk_cell (j := 11) HW3.out.a rfl
  have b11 := blk_cell (j := 11) HW3.out.c rfl
  go_wp2_with fail
  refine (eqStrings_any (HK.out.move (keep_below HW3.out.b)) (HK2.out.move (keep_below HW3.out.b))).mono ?_
  rintro e w4 ⟨rfl, hb4⟩
  have HW4 := hide (HW3.out.next hb4)
  clear hb4 HW3 a11 b11
  by_cases h8 : t.ks = u.ks
  case neg => as_aux_lemma =>
    have HN : Hid (R = false) := r_no HR.out (fun h => h8 (by rw [h]))
    rw [decide_eq_false h8]
    clear h8
    go_wp2_with fail
    go_ret
    exact ⟨by rw [HN.out]; rfl, HW4.out.b⟩
  rw [decide_eq_true h8]
  have H8 := hide h8
  clear h8
  have a12 := blk_cell (j := 12) HW4.out.a rfl
  have b12 := blk_cell (j := 12) HW4.out.c rfl
  have HRI : Hid (R = true ↔ t.is = u.is) := ⟨fun h => by rw [HR.out.1 h], fun h => HR.out.2 (Tv.same H0.out H1.out H2.out H3.out H4.out H5.out H6.out H7.out H8.out h)⟩
  go_wp2_with fail
  refine (eqValues_any N HIH.out t.is u.is HNN.out w4 _ _ R HRI.out (HV.out.move (keep_below HW4.out.b)) (HV2.out.move (keep_below HW4.out.b))).mono ?_
  rintro e w5 ⟨rfl, hb5⟩
  have HB5 : Hid (Below w.heap.size w w5) := HW4.out.b.trans (hb5.mono HW4.out.b.size)
  clear hb5 a12 b12
  go_wp2_with fail
  go_ret
  exact ⟨rfl, HB5.out⟩
theorem eqValue_any (t u : Tv) (R : Bool) (hR : R = true ↔ t = u) (w : World) (c cs : Array Value) (ht : Tin w t c) (hu : Tin w u cs) : Calls Tryz.prog 22 #[.agg c, .agg cs] w fun e w' => e = .returned (.bool R) ∧ Below w.heap.size w w' := by
  have h : ∀ N, EqsV N := by
    intro N
    induction N with
    | zero => exact fun t h => absurd h (by omega)
    | succ N ih =>
      intro t htN u r hr w c cs ht hu
      exact eqValue_step (SizeOf.sizeOf t) (fun v hv => ih v (by omega)) t u rfl r hr w c cs ht hu
  exact h _ t (Nat.lt_succ_self _) u R hR w c cs ht hu
end
section
open Go.RowKit Go
theorem bfr_adj {ks : List ByteArray} {n : Nat} {ps : List Nat} (h : Srp ks n ps) (hne : ∀ (i p q : Nat), ps[i]? = some p → ps[i + 1]? = some q → ks.getD p ⟨#[]⟩ ≠ ks.getD q ⟨#[]⟩) : ∀ (d i p q : Nat), ps[i]? = some p → ps[i + d + 1]? = some q → bfr (sl (ks.getD p ⟨#[]⟩)) (sl (ks.getD q ⟨#[]⟩)) = true := by
  have key : ∀ (i p q : Nat), ps[i]? = some p → ps[i + 1]? = some q → bfr (sl (ks.getD p ⟨#[]⟩)) (sl (ks.getD q ⟨#[]⟩)) = true := fun i p q hp hq => by
    rcases Bool.eq_false_or_eq_true (bfr (sl (ks.getD p ⟨#[]⟩)) (sl (ks.getD q ⟨#[]⟩))) with e | e
    · exact e
    · exact absurd (sl_inj (bfr_tot e (h.s i (i + 1) p q (by omega) hp hq))) (hne i p q hp hq)
  intro d
  induction d with
  | zero => exact key
  | succ d ih =>
    intro i p q hp hq
    have hlt := (List.getElem?_eq_some_iff.1 hq).1
    have hm : ps[i + d + 1]? = some (ps[i + d + 1]'(by omega)) := List.getElem?_eq_getElem (by omega)
    exact bfr_tr _ _ _ (ih i p _ hp hm) (key (i + d + 1) _ q hm hq)
/-- No two that stand side by side are the same: no key stands twice. -/
theorem nodup_adj {ks : List ByteArray} {ps : List Nat} (h : Srp ks ks.length ps) (hne : ∀ (i p q : Nat), ps[i]? = some p → ps[i + 1]? = some q → ks.getD p ⟨#[]⟩ ≠ ks.getD q ⟨#[]⟩) : ks.Nodup := by
  have hadj := bfr_adj h hne
  have hinj : ∀ i j, i < ps.length → j < ps.length → i < j → ks.getD (ps.getD i 0) ⟨#[]⟩ ≠ ks.getD (ps.getD j 0) ⟨#[]⟩ := fun i j hi hj hij e => by
    have h1 : ps[i]? = some (ps.getD i 0) := by simp [List.getD, List.getElem?_eq_getElem hi]
    have h2 : ps[i + (j - i - 1) + 1]? = some (ps.getD j 0) := by
      rw [show i + (j - i - 1) + 1 = j by omega]
      simp [List.getD, List.getElem?_eq_getElem hj]
    have hb := hadj (j - i - 1) i _ _ h1 h2
    rw [e, bfr_self] at hb
    cases hb
  have hmem : ∀ p, p < ks.length → ∃ i, i < ps.length ∧ ps.getD i 0 = p := fun p hp => by
    have hm : p ∈ ps := h.p.mem_iff.2 (by simpa using hp)
    obtain ⟨i, hi, e⟩ := List.getElem_of_mem hm
    exact ⟨i, hi, by simp [List.getD, List.getElem?_eq_getElem hi, e]⟩
  rw [List.Nodup, List.pairwise_iff_getElem]
  intro a b ha hb hab e
  obtain ⟨i, hi, ei⟩ := hmem a ha
  obtain ⟨j, hj, ej⟩ := hmem b hb
  have e1 : ks.getD (ps.getD i 0) ⟨#[]⟩ = ks.getD (ps.getD j 0) ⟨#[]⟩ := by
    rw [ei, ej]
    simp [List.getD, List.getElem?_eq_getElem ha, List.getElem?_eq_getElem hb, e]
  rcases Nat.lt_trichotomy i j with hij | hij | hij
  · exact hinj i j hi hj hij e1
  · subst hij
    omega
  · exact hinj j i hj hi hij e1.symm
theorem dup_adj {ks : List ByteArray} {ps : List Nat} (h : Srp ks ks.length ps) {i p q : Nat} (hp : ps[i]? = some p) (hq : ps[i + 1]? = some q) (e : ks.getD p ⟨#[]⟩ = ks.getD q ⟨#[]⟩) : ¬ ks.Nodup := fun hn => by
  have l1 := h.lt p (List.mem_of_getElem? hp)
  have l2 := h.lt q (List.mem_of_getElem? hq)
  have e2 := nodup_at hn l1 l2 e
  have hnd : ps.Nodup := h.p.nodup_iff.2 List.nodup_range
  have hi := (List.getElem?_eq_some_iff.1 hp).1
  have hj := (List.getElem?_eq_some_iff.1 hq).1
  have hx := List.pairwise_iff_getElem.1 hnd i (i + 1) hi hj (by omega)
  rw [List.getElem?_eq_getElem hi] at hp
  rw [List.getElem?_eq_getElem hj] at hq
  injection hp with hp
  injection hq with hq
  exact hx (by rw [hp, hq, e2])
set_option maxRecDepth 1000000 in
set_option maxHeartbeats 1000000 in
theorem twice_any (t : Tv) (R : Bool) (hR : R = true ↔ ¬ t.ks.Nodup) (hl : t.ks.length = t.is.length) (w : World) (cs : Array Value) (ht : Tin w t cs) (hn : t.ks.length ≤ 6000000) : Calls Tryz.prog 129 #[.agg cs] w fun e w' => e = .returned (.bool R) ∧ Below w.heap.size w w' := by
  have HR := hide hR
  have HTN := hide ht
  have HSZ := hide ht.size13
  obtain ⟨vy, vk, vi, rfl, hy, hk, hv, hb⟩ := ht.parts
  obtain ⟨⟨ak, ck, rfl, _, hkf⟩, hkm, _⟩ := hk
  have HKF := hide hkf
  have HMN : Hid (min t.ks.length t.is.length = t.ks.length) := by show _ = _; omega
  have HCK : Hid ((vcs t vy (.slice ak t.ks.length ck) vi)[11]? = some (.slice ak t.ks.length ck)) := rfl
  generalize vcs t vy (.slice ak t.ks.length ck) vi = cs at *
  clear hR ht hy hkf hv hb hl
  have HQ0 := hide (box_mk w cs)
  have HCB : Hid (∀ j u, cs[j]? = some u → (w.alloc (.cells cs 55)).cell? ⟨w.heap.size, 0 + j, none⟩ = some u) := fun j u hu => by rw [Nat.zero_add]; exact blk_cell HQ0.out.2 hu
  go_enter Tryz.func129, Tryz.ntmps129
  go_wp2_with (refine wpList_valAt rfl rfl w.heap.size 0 cs rfl HSZ.out HCB.out ?_)
  refine (order6_any t _ cs (HTN.out.move (keep_below HQ0.out.1)) (by omega)).mono ?_
  rintro e w2 ⟨v, ps, rfl, hpo, hsp, ho, hb2⟩
  clear hpo
  rw [HMN.out] at hsp
  have HSP := hide hsp
  have hpl : ps.length ≤ 6000000 := by have := hsp.len; omega
  have hi2 := ISl.own ho rfl (by omega)
  obtain ⟨⟨pa, pc, rfl, _, hpf⟩, _⟩ := hi2
  have HPF := hide hpf
  have HW2 : Hid (Below w.heap.size w w2 ∧ w2.heap[w.heap.size]? = some (.cells cs 55 (0, 0))) := ⟨HQ0.out.1.trans (hb2.mono HQ0.out.1.size), (hb2.block _ (blk_lt HQ0.out.2)).trans HQ0.out.2⟩
  clear hsp ho hb2 hpf HQ0 HCB
  go_wp2_with fail
  go_loopw [9] (fun ii wx => ∃ i : Nat, i ≤ ps.length ∧ ii = .int .i64 (i : Nat) ∧ Hid (∀ (j p q : Nat), j + 1 < i → ps[j]? = some p → ps[j + 1]? = some q → t.ks.getD p ⟨#[]⟩ ≠ t.ks.getD q ⟨#[]⟩) ∧ Hid (Below w2.heap.size w2 wx)) (fun ii _ => ps.length - (intOf ii).toNat)
  case atStart => exact ⟨0, by omega, rfl, fun j p q hj => absurd hj (by omega), Below.refl _ _⟩
  case round =>
    obtain ⟨i, hi, rfl, HI, HBw⟩ := hrel
    by_cases hlt : i < ps.length
    · have g1 : (i : Int) < (ps.length : Int) := by omega
      rcases Nat.eq_zero_or_pos i with h0 | h0
      · as_aux_lemma =>
        subst h0
        go_wp2_with fail
        go_quiet (fail)
        go_wp2_with fail
        have HB2 : Hid (Below w2.heap.size w2 (wr.drewN nq)) := HBw.out.trans ((((Kp.refl (fun _ => False) wr).drewN _).below (Nat.le_refl _) (fun _ h => h.elim)).mono HBw.out.size)
        go_roundw
        case rel => exact ⟨1, by omega, by go_num, fun j p q hj => absurd hj (by omega), HB2⟩
        case measure => simp [intOf]; omega
      · obtain ⟨k, rfl⟩ : ∃ k, i = k + 1 := ⟨i - 1, by omega⟩
        have hk1 : k < ps.length := by omega
        obtain ⟨p, hp⟩ : ∃ p, ps[k]? = some p := ⟨ps[k], List.getElem?_eq_getElem hk1⟩
        obtain ⟨q, hq⟩ : ∃ p, ps[k + 1]? = some p := ⟨ps[k + 1], List.getElem?_eq_getElem hlt⟩
        have l1 := HSP.out.lt p (List.mem_of_getElem? hp)
        have l2 := HSP.out.lt q (List.mem_of_getElem? hq)
        obtain ⟨b1, off1, rfl, hc1⟩ := HPF.out.resolve_left (fun h => by rw [h] at hlt; simp at hlt)
        obtain ⟨b2, off2, rfl, hc2⟩ := HKF.out.resolve_left (fun h => by rw [h] at l1; simp at l1)
        have hkw : ∀ a x, w.cell? a = some x → wr.cell? a = some x := fun a x h => keep_below HBw.out _ _ (keep_below HW2.out.1 _ _ h)
        have c1 : wr.cell? ⟨b1, off1 + k, none⟩ = some (.int .i64 (p : Nat)) := keep_below HBw.out _ _ (hc1 k p hp)
        have c2 : wr.cell? ⟨b1, off1 + (k + 1), none⟩ = some (.int .i64 (q : Nat)) := keep_below HBw.out _ _ (hc1 (k + 1) q hq)
        have s1 : wr.cell? ⟨b2, off2 + p, none⟩ = some (.string (t.ks.getD p ⟨#[]⟩)) := hkw _ _ (hc2 p _ (by simp [List.getD, List.getElem?_eq_getElem l1]))
        have s2 : wr.cell? ⟨b2, off2 + q, none⟩ = some (.string (t.ks.getD q ⟨#[]⟩)) := hkw _ _ (hc2 q _ (by simp [List.getD, List.getElem?_eq_getElem l2]))
        have x1 : wr.cell? ⟨w.heap.size, 11, none⟩ = some (.slice (some ⟨b2, off2, none⟩) t.ks.length ck) := keep_below HBw.out _ _ (blk_cell HW2.out.2 HCK.out)
        have g2 : (0 : Int) < ((k : Int) + 1) := by omega
        have g3 : (k : Int) < (ps.length : Int) := by omega
        have g4 : (p : Int) < (t.ks.length : Int) := by omega
        have g5 : (q : Int) < (t.ks.length : Int) := by omega
        clear hc1 hc2 hkw
        by_cases he : t.ks.getD p ⟨#[]⟩ = t.ks.getD q ⟨#[]⟩
        · as_aux_lemma =>
          have HT : Hid (R = true) := HR.out.2 (dup_adj HSP.out hp hq he)
          have hne : ((t.ks.getD p ⟨#[]⟩).toList == (t.ks.getD q ⟨#[]⟩).toList) = true := by rw [he]; simp
          clear hp hq he HI
          generalize t.ks.getD p ⟨#[]⟩ = k1 at *
          generalize t.ks.getD q ⟨#[]⟩ = k2 at *
          go_wp2_with fail
          go_quiet (fail)
          go_wp2_with fail
          go_ret
          exact ⟨by rw [HT.out]; rfl, HW2.out.1.trans ((HBw.out.trans ((((Kp.refl (fun _ => False) wr).drewN _).below (Nat.le_refl _) (fun _ h => h.elim)).mono HBw.out.size)).mono HW2.out.1.size)⟩
        · as_aux_lemma =>
          have hne : ((t.ks.getD p ⟨#[]⟩).toList == (t.ks.getD q ⟨#[]⟩).toList) = false := str_beq_no he
          have HI2 : Hid (∀ (j p q : Nat), j + 1 < k + 1 + 1 → ps[j]? = some p → ps[j + 1]? = some q → t.ks.getD p ⟨#[]⟩ ≠ t.ks.getD q ⟨#[]⟩) := fun j p' q' hj h1 h2 => by
            by_cases hjk : j = k
            · subst hjk
              rw [hp] at h1
              rw [hq] at h2
              injection h1 with h1
              injection h2 with h2
              subst h1 h2
              exact he
            · exact HI.out j p' q' (by omega) h1 h2
          clear hp hq he HI
          generalize t.ks.getD p ⟨#[]⟩ = k1 at *
          generalize t.ks.getD q ⟨#[]⟩ = k2 at *
          go_wp2_with fail
          go_quiet (fail)
          go_wp2_with fail
          have HB2 : Hid (Below w2.heap.size w2 (wr.drewN nq)) := HBw.out.trans ((((Kp.refl (fun _ => False) wr).drewN _).below (Nat.le_refl _) (fun _ h => h.elim)).mono HBw.out.size)
          go_roundw
          case rel => exact ⟨k + 1 + 1, by omega, by go_num, HI2, HB2⟩
          case measure => simp [intOf]; omega
    · as_aux_lemma =>
      have g1 : ¬ (i : Int) < (ps.length : Int) := by omega
      have HT : Hid (R = false) := r_no HR.out (fun h => h (nodup_adj HSP.out (fun j p q h1 h2 => HI.out j p q (by have := (List.getElem?_eq_some_iff.1 h2).1; omega) h1 h2)))
      go_wp2_with fail
      go_ret
      exact ⟨by rw [HT.out]; rfl, HW2.out.1.trans (HBw.out.mono HW2.out.1.size)⟩
end
section
open Go.RowKit Go
/-! A value's errors, plainly (cut out of Xd6, Xe6, Xf6: hangs on no sort). -/
/-- A value whose kind's own fields are made zero. -/
def Tv.zr (t : Tv) : Tv :=
  if t.k = 2 then .mk t.k false t.g t.n t.b t.s t.y t.l t.ks t.is
  else if t.k = 3 then .mk t.k t.f false 0 t.b t.s t.y t.l t.ks t.is
  else if t.k = 4 then .mk t.k t.f t.g t.n 0 t.s t.y t.l t.ks t.is
  else if t.k = 5 then .mk t.k t.f t.g t.n t.b ⟨#[]⟩ t.y t.l t.ks t.is
  else if t.k = 6 then .mk t.k t.f t.g t.n t.b t.s [] t.l t.ks t.is
  else if t.k = 7 then .mk t.k t.f t.g t.n t.b t.s t.y ⟨0, 0, 0, []⟩ t.ks t.is
  else if t.k = 8 then .mk t.k t.f t.g t.n t.b t.s t.y t.l t.ks []
  else if t.k = 9 then .mk t.k t.f t.g t.n t.b t.s t.y t.l [] []
  else t
/-- All fields but the kind are zero. -/
def Tv.cl (t : Tv) : Bool := !t.f && (!t.g && (decide (t.n = 0) && (decide (t.b = 0) && (decide (t.s = ⟨#[]⟩) && (decide (t.l = ⟨0, 0, 0, []⟩) && (decide (t.y = []) && (decide (t.ks = []) && t.is.isEmpty)))))))
def tidyf (t : Tv) : Bool := decide (1 ≤ t.k ∧ t.k ≤ 9) && t.zr.cl
/-- The error of a value by itself, so many lists and maps about it. -/
def onef (t : Tv) (a : Nat) : Nat :=
  if (t.k = 8 ∨ t.k = 9) ∧ 1024 ≤ a then 60
  else if tidyf t = false then 61
  else if finb t.b = false then 62
  else if (badb t.s || t.ks.any badb) = true then 63
  else if t.k = 7 ∧ ¬ lok t.l then 64
  else if t.k = 9 ∧ ¬ (t.ks.length = t.is.length ∧ t.ks.Nodup) then 65
  else 0
mutual
/-- The first error in a value that stands in so many lists and maps. -/
def chkf : Tv → Nat → Nat
  | .mk k f g n b s y l ks is, a => if onef (.mk k f g n b s y l ks is) a = 0 then chkL is (a + 1) else onef (.mk k f g n b s y l ks is) a
def chkL : List Tv → Nat → Nat
  | [], _ => 0
  | t :: r, a => if chkf t a = 0 then chkL r a else chkf t a
end
theorem chkf_eq (t : Tv) (a : Nat) : chkf t a = if onef t a = 0 then chkL t.is (a + 1) else onef t a := by
  obtain ⟨k, f, g, n, b, s, y, l, ks, is⟩ := t
  rw [chkf]
  rfl
theorem chkL_none : ∀ {l : List Tv} {a : Nat}, (∀ u ∈ l, chkf u a = 0) → chkL l a = 0
  | [], _, _ => by rw [chkL]
  | t :: r, a, h => by
    rw [chkL, if_pos (h t (List.mem_cons_self ..))]
    exact chkL_none (fun u hu => h u (List.mem_cons_of_mem _ hu))
theorem chkL_at : ∀ {l : List Tv} {a i : Nat} {u : Tv}, (∀ j v, j < i → l[j]? = some v → chkf v a = 0) → l[i]? = some u → chkf u a ≠ 0 → chkL l a = chkf u a
  | [], _, _, _, _, h, _ => by simp at h
  | t :: r, a, 0, u, _, h, hn => by
    simp at h
    subst h
    rw [chkL, if_neg hn]
  | t :: r, a, i + 1, u, h0, h, hn => by
    rw [chkL, if_pos (h0 0 t (by omega) rfl)]
    exact chkL_at (i := i) (fun j v hj hv => h0 (j + 1) v (by omega) (by simpa using hv)) (by simpa using h) hn
end
end Go.Proofs.YtgcccndbahphaaaGreatDoor

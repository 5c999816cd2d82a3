import Derived.Test.YtdejcapbggjjgaaGreatDoorJv
namespace Go.Proofs.YtdejcapbggjjgaaGreatDoor
section
open Go.RowKit Go
theorem Tv.same {t u : Tv} (h0 : t.k = u.k) (h1 : t.f = u.f) (h2 : t.g = u.g) (h3 : t.n = u.n) (h4 : t.b = u.b) (h5 : t.s = u.s) (h6 : t.l = u.l) (h7 : t.y = u.y) (h8 : t.ks = u.ks) (h9 : t.is = u.is) : t = u := by
  obtain ⟨k, f, g, n, b, s, y, l, ks, is⟩ := t
  obtain ⟨k2, f2, g2, n2, b2, s2, y2, l2, ks2, is2⟩ := u
  simp only [Tv.k, Tv.f, Tv.g, Tv.n, Tv.b, Tv.s, Tv.y, Tv.l, Tv.ks, Tv.is] at h0 h1 h2 h3 h4 h5 h6 h7 h8 h9
  subst h0 h1 h2 h3 h4 h5 h6 h7 h8 h9
  rfl
theorem str_beq_no {s t : ByteArray} (he : s ≠ t) : (s.toList == t.toList) = false := by
  have h := str_bne s t
  simp [he] at h
  exact beq_eq_false_iff_ne.2 h
set_option maxRecDepth 1000000 in
set_option maxHeartbeats 2000000 in
theorem eqValue_step (N : Nat) (ih : EqsV N) (t u : Tv) (hN : SizeOf.sizeOf t = N) (R : Bool) (hR : R = true ↔ t = u) (w : World) (c cs : Array Value) (ht : Tin w t c) (hu : Tin w u cs) : Calls Tryz.prog 17 #[.agg c, .agg cs] w fun e w' => e = .returned (.bool R) ∧ Below w.heap.size w w' := by
  have HR := hide hR
  clear hR
  have HIH := hide ih
  have HNN : Hid (∀ u ∈ t.is, SizeOf.sizeOf u < N) := fun u hu => by rw [← hN]; exact Tv.is_lt hu
  clear ih hN
  obtain ⟨vy, vk, vi, rfl, hy, hk, hv, hb⟩ := ht.parts
  obtain ⟨vy2, vk2, vi2, rfl, hy2, hk2, hv2, hb2⟩ := hu.parts
  have HY := hide hy
  have HK := hide hk
  have HV := hide hv
  have HY2 := hide hy2
  have HK2 := hide hk2
  have HV2 := hide hv2
  have HD1 := hide hb.l.d
  have HD2 := hide hb2.l.d
  obtain ⟨⟨ay, cy, rfl, _, _⟩, _, _⟩ := hy
  obtain ⟨⟨ak, ck, rfl, _, _⟩, _, _⟩ := hk
  obtain ⟨⟨ai, ci, rfl, _, _⟩, _⟩ := hv
  obtain ⟨⟨ay2, cy2, rfl, _, _⟩, _, _⟩ := hy2
  obtain ⟨⟨ak2, ck2, rfl, _, _⟩, _, _⟩ := hk2
  obtain ⟨⟨ai2, ci2, rfl, _, _⟩, _⟩ := hv2
  clear ht hb hu hb2
  unfold vcs
  have HW0 : Hid (Bw w ((w.alloc (.cells #[.int .i64 t.k, .bool t.f, .bool t.g, .int .u64 (t.n : Nat), .int .u64 (t.b : Nat), .string t.s, .slice ay t.y.length cy, .int .i64 t.l.v, .int .u64 (t.l.c : Nat), .int .u64 (t.l.h : Nat), .string (nstr t.l.d), .slice ak t.ks.length ck, .slice ai t.is.length ci] 61)).alloc (.cells #[.int .i64 u.k, .bool u.f, .bool u.g, .int .u64 (u.n : Nat), .int .u64 (u.b : Nat), .string u.s, .slice ay2 u.y.length cy2, .int .i64 u.l.v, .int .u64 (u.l.c : Nat), .int .u64 (u.l.h : Nat), .string (nstr u.l.d), .slice ak2 u.ks.length ck2, .slice ai2 u.is.length ci2] 61)) (vcs t (.slice ay t.y.length cy) (.slice ak t.ks.length ck) (.slice ai t.is.length ci)) (vcs u (.slice ay2 u.y.length cy2) (.slice ak2 u.ks.length ck2) (.slice ai2 u.is.length ci2))) := Bw.start w _ _
  have HA := hide (fun j x (h : (lcs t.l)[j]? = some x) => lk_in HW0.out.a h)
  have HBb := hide (fun j x (h : (lcs u.l)[j]? = some x) => lk_in HW0.out.c h)
  by_cases h0 : t.k = u.k
  case neg => as_aux_lemma =>
    have HN : Hid (R = false) := r_no HR.out (fun h => h0 (by rw [h]))
    have k0 : (t.k == u.k) = false := beq_eq_false_iff_ne.2 h0
    clear h0
    go_enter Tryz.func17, Tryz.ntmps17
    go_wp2_with fail
    go_ret
    exact ⟨by rw [HN.out]; rfl, HW0.out.b⟩
  have k0 : (t.k == u.k) = true := beq_iff_eq.2 h0
  have H0 := hide h0
  clear h0
  by_cases h1 : t.f = u.f
  case neg => as_aux_lemma =>
    have HN : Hid (R = false) := r_no HR.out (fun h => h1 (by rw [h]))
    have k1 : (t.f == u.f) = false := beq_eq_false_iff_ne.2 h1
    clear h1
    go_enter Tryz.func17, Tryz.ntmps17
    go_wp2_with fail
    go_ret
    exact ⟨by rw [HN.out]; rfl, HW0.out.b⟩
  have k1 : (t.f == u.f) = true := beq_iff_eq.2 h1
  have H1 := hide h1
  clear h1
  by_cases h2 : t.g = u.g
  case neg => as_aux_lemma =>
    have HN : Hid (R = false) := r_no HR.out (fun h => h2 (by rw [h]))
    have k2 : (t.g == u.g) = false := beq_eq_false_iff_ne.2 h2
    clear h2
    go_enter Tryz.func17, Tryz.ntmps17
    go_wp2_with fail
    go_ret
    exact ⟨by rw [HN.out]; rfl, HW0.out.b⟩
  have k2 : (t.g == u.g) = true := beq_iff_eq.2 h2
  have H2 := hide h2
  clear h2
  by_cases h3 : t.n = u.n
  case neg => as_aux_lemma =>
    have HN : Hid (R = false) := r_no HR.out (fun h => h3 (by rw [h]))
    have k3 : ((t.n : Int) == (u.n : Int)) = false := beq_eq_false_iff_ne.2 (by omega)
    clear h3
    go_enter Tryz.func17, Tryz.ntmps17
    go_wp2_with fail
    go_ret
    exact ⟨by rw [HN.out]; rfl, HW0.out.b⟩
  have k3 : ((t.n : Int) == (u.n : Int)) = true := beq_iff_eq.2 (by omega)
  have H3 := hide h3
  clear h3
  by_cases h4 : t.b = u.b
  case neg => as_aux_lemma =>
    have HN : Hid (R = false) := r_no HR.out (fun h => h4 (by rw [h]))
    have k4 : ((t.b : Int) == (u.b : Int)) = false := beq_eq_false_iff_ne.2 (by omega)
    clear h4
    go_enter Tryz.func17, Tryz.ntmps17
    go_wp2_with fail
    go_ret
    exact ⟨by rw [HN.out]; rfl, HW0.out.b⟩
  have k4 : ((t.b : Int) == (u.b : Int)) = true := beq_iff_eq.2 (by omega)
  have H4 := hide h4
  clear h4
  by_cases h5 : t.s = u.s
  case neg => as_aux_lemma =>
    have HN : Hid (R = false) := r_no HR.out (fun h => h5 (by rw [h]))
    have k5 : (t.s.toList == u.s.toList) = false := str_beq_no h5
    clear h5
    go_enter Tryz.func17, Tryz.ntmps17
    go_wp2_with fail
    go_ret
    exact ⟨by rw [HN.out]; rfl, HW0.out.b⟩
  have k5 : (t.s.toList == u.s.toList) = true := by rw [h5]; exact beq_self_eq_true _
  have H5 := hide h5
  clear h5
  by_cases h6 : t.l = u.l
  case neg => as_aux_lemma =>
    have HN : Hid (R = false) := r_no HR.out (fun h => h6 (by rw [h]))
    have HEQ : Hid (∀ wx : World, (Op.equalIn 10000 57 (.agg (lcs t.l)) (.agg (lcs u.l))).run Tryz.prog wx = .ok false wx) := fun wx => by have h := eqlk wx HD1.out HD2.out; rw [decide_eq_false h6] at h; exact h
    clear h6
    go_enter Tryz.func17, Tryz.ntmps17
    go_wp2_with (first
      | (refine wpList_lkAt rfl rfl w.heap.size 7 t.l rfl HA.out ?_)
      | (refine wpList_lkAt rfl rfl (w.heap.size + 1) 7 u.l rfl HBb.out ?_)
      | (refine wpList_eqlk rfl rfl _ _ false rfl rfl (HEQ.out _) ?_))
    go_ret
    exact ⟨by rw [HN.out]; rfl, HW0.out.b⟩
  have HEQ : Hid (∀ wx : World, (Op.equalIn 10000 57 (.agg (lcs t.l)) (.agg (lcs u.l))).run Tryz.prog wx = .ok true wx) := fun wx => by have h := eqlk wx HD1.out HD2.out; rw [decide_eq_true h6] at h; exact h
  have H6 := hide h6
  clear h6
  go_enter Tryz.func17, Tryz.ntmps17
  go_wp2_with (first
    | (refine wpList_lkAt rfl rfl w.heap.size 7 t.l rfl HA.out ?_)
    | (refine wpList_lkAt rfl rfl (w.heap.size + 1) 7 u.l rfl HBb.out ?_)
    | (refine wpList_eqlk rfl rfl _ _ true rfl rfl (HEQ.out _) ?_))
  generalize (w.alloc (.cells #[.int .i64 t.k, .bool t.f, .bool t.g, .int .u64 (t.n : Nat), .int .u64 (t.b : Nat), .string t.s, .slice ay t.y.length cy, .int .i64 t.l.v, .int .u64 (t.l.c : Nat), .int .u64 (t.l.h : Nat), .string (nstr t.l.d), .slice ak t.ks.length ck, .slice ai t.is.length ci] 61)).alloc (.cells #[.int .i64 u.k, .bool u.f, .bool u.g, .int .u64 (u.n : Nat), .int .u64 (u.b : Nat), .string u.s, .slice ay2 u.y.length cy2, .int .i64 u.l.v, .int .u64 (u.l.c : Nat), .int .u64 (u.l.h : Nat), .string (nstr u.l.d), .slice ak2 u.ks.length ck2, .slice ai2 u.is.length ci2] 61) = w2 at *
  refine (eq_any w2 _ _ t.y u.y (HY.out.move (keep_below HW0.out.b)) (HY2.out.move (keep_below HW0.out.b))).mono ?_
  rintro e w3 ⟨rfl, hk3⟩
  have HW3 := hide (HW0.out.next (hk3.below (Nat.le_refl _) (fun _ h => h.elim)))
  clear hk3 HW0 HA HBb HEQ
  by_cases h7 : t.y = u.y
  case neg => as_aux_lemma =>
    have HN : Hid (R = false) := r_no HR.out (fun h => h7 (by rw [h]))
    rw [decide_eq_false h7]
    clear h7
    go_wp2_with fail
    go_ret
    exact ⟨by rw [HN.out]; rfl, HW3.out.b⟩
  rw [decide_eq_true h7]
  have H7 := hide h7
  clear h7
  have a11 := blk_cell (j := 11) HW3.out.a rfl
  have b11 := blk_cell (j := 11) HW3.out.c rfl
  go_wp2_with fail
  refine (eqStrings_any (HK.out.move (keep_below HW3.out.b)) (HK2.out.move (keep_below HW3.out.b))).mono ?_
  rintro e w4 ⟨rfl, hb4⟩
  have HW4 := hide (HW3.out.next hb4)
  clear hb4 HW3 a11 b11
  by_cases h8 : t.ks = u.ks
  case neg => as_aux_lemma =>
    have HN : Hid (R = false) := r_no HR.out (fun h => h8 (by rw [h]))
    rw [decide_eq_false h8]
    clear h8
    go_wp2_with fail
    go_ret
    exact ⟨by rw [HN.out]; rfl, HW4.out.b⟩
  rw [decide_eq_true h8]
  have H8 := hide h8
  clear h8
  have a12 := blk_cell (j := 12) HW4.out.a rfl
  have b12 := blk_cell (j := 12) HW4.out.c rfl
  have HRI : Hid (R = true ↔ t.is = u.is) := ⟨fun h => by rw [HR.out.1 h], fun h => HR.out.2 (Tv.same H0.out H1.out H2.out H3.out H4.out H5.out H6.out H7.out H8.out h)⟩
  go_wp2_with fail
  refine (eqValues_any N HIH.out t.is u.is HNN.out w4 _ _ R HRI.out (HV.out.move (keep_below HW4.out.b)) (HV2.out.move (keep_below HW4.out.b))).mono ?_
  rintro e w5 ⟨rfl, hb5⟩
  have HB5 : Hid (Below w.heap.size w w5) := HW4.out.b.trans (hb5.mono HW4.out.b.size)
  clear hb5 a12 b12
  go_wp2_with fail
  go_ret
  exact ⟨rfl, HB5.out⟩
theorem eqValue_any (t u : Tv) (R : Bool) (hR : R = true ↔ t = u) (w : World) (c cs : Array Value) (ht : Tin w t c) (hu : Tin w u cs) : Calls Tryz.prog 17 #[.agg c, .agg cs] w fun e w' => e = .returned (.bool R) ∧ Below w.heap.size w w' := by
  have h : ∀ N, EqsV N := by
    intro N
    induction N with
    | zero => exact fun t h => absurd h (by omega)
    | succ N ih =>
      intro t htN u r hr w c cs ht hu
      exact eqValue_step (SizeOf.sizeOf t) (fun v hv => ih v (by omega)) t u rfl r hr w c cs ht hu
  exact h _ t (Nat.lt_succ_self _) u R hR w c cs ht hu
end
end Go.Proofs.YtdejcapbggjjgaaGreatDoor

import Derived.Test.YtagkogpjckjobaaGreatDoorJi
namespace Go.Proofs.YtagkogpjckjobaaGreatDoor
section
open Go.RowKit Go
/-- What tells which names are there: its variable, the set's variable, the set. -/
structure Nmd (p q B n : Nat) (L : List ByteArray) (w : World) : Prop where
  p : w.heap[p]? = some (.cells #[.func (.func 55) #[] #[.pointer (some ⟨q, 0, none⟩)]] 52 (0, 0))
  s : Str q B n L w
theorem Nmd.next {p q B n : Nat} {L : List ByteArray} {w w' : World} (h : Nmd p q B n L w) (hb : Below w.heap.size w w') : Nmd p q B n L w' := ⟨(hb.block _ (blk_lt h.p)).trans h.p, h.s.next hb⟩
/-- What tells which references lack a name. -/
structure Lck (v p q B n : Nat) (L : List ByteArray) (w : World) : Prop where
  v : w.heap[v]? = some (.cells #[.func (.func 83) #[] #[.pointer (some ⟨p, 0, none⟩)]] 102 (0, 0))
  d : Nmd p q B n L w
theorem Lck.next {v p q B n : Nat} {L : List ByteArray} {w w' : World} (h : Lck v p q B n L w) (hb : Below w.heap.size w w') : Lck v p q B n L w' := ⟨(hb.block _ (blk_lt h.v)).trans h.v, h.d.next hb⟩
def lck (L : List ByteArray) (r : Rf) : Bool := !r.z && !memb L r.n
set_option maxRecDepth 1000000 in
set_option maxHeartbeats 1000000 in
theorem filled1_any (s : ByteArray) (hs : s.size ≤ 140737488351232) (q B n : Nat) (L : List ByteArray) (w : World) (h : Str q B n L w) : Calls Tryz.prog 55 #[.string s, .pointer (some ⟨q, 0, none⟩)] w fun e w' => e = .returned (.bool (memb L s)) ∧ Below w.heap.size w w' := by
  have HS := hide hs
  have HM := hide h.m
  have HB := hide (below_alloc4 w (.cells #[] 57))
  have q0 : w.cell? ⟨q, 0, none⟩ = some (.map (some B)) := blk_cell (j := 0) h.q rfl
  clear hs h
  go_enter Tryz.func55, Tryz.ntmps55
  go_wp2_with (refine wpList_lookS rfl rfl rfl rfl HM.out HS.out ?_)
  go_ret
  exact ⟨rfl, HB.out⟩
set_option maxRecDepth 1000000 in
set_option maxHeartbeats 1000000 in
theorem rule1_any (r : Rf) (hs : r.n.size ≤ 140737488351232) (p q B n : Nat) (L : List ByteArray) (w : World) (h : Nmd p q B n L w) : Calls Tryz.prog 83 #[.agg #[.string r.n, .bool r.z], .pointer (some ⟨p, 0, none⟩)] w fun e w' => e = .returned (.bool (lck L r)) ∧ Below w.heap.size w w' := by
  have hb0 := below_alloc4 w (.cells #[.string r.n, .bool r.z] 24)
  have HB := hide hb0
  have HN := hide (h.next hb0)
  have q0 : (w.alloc (.cells #[.string r.n, .bool r.z] 24)).cell? ⟨p, 0, none⟩ = some (.func (.func 55) #[] #[.pointer (some ⟨q, 0, none⟩)]) := keep_below hb0 _ _ (blk_cell (j := 0) h.p rfl)
  have HS := hide hs
  clear hb0 h hs
  obtain ⟨rn, rz⟩ := r
  simp only at HS HB HN q0 ⊢
  cases rz with
  | true =>
    go_enter Tryz.func83, Tryz.ntmps83
    go_wp2_with fail
    go_ret
    exact ⟨rfl, HB.out⟩
  | false =>
    go_enter Tryz.func83, Tryz.ntmps83
    go_wp2_with fail
    refine (filled1_any rn HS.out q B n L _ HN.out.s).mono ?_
    rintro e w1 ⟨rfl, hb⟩
    have HB1 : Hid (Below w.heap.size w w1) := HB.out.trans (hb.mono HB.out.size)
    clear hb
    go_wp2_with fail
    go_ret
    refine ⟨?_, HB1.out⟩
    unfold lck
    simp
set_option maxRecDepth 1000000 in
set_option maxHeartbeats 1000000 in
theorem rule2_any (v p q B n tb : Nat) (L : List ByteArray) (t : Tp) (vf vc vw : Value) (w : World) (hr : t.r.n.size ≤ 140737488351232) (h : Lck v p q B n L w) (ht : w.heap[tb]? = some (.cells #[.string t.n, .int .i64 t.k, .int .i64 t.lo, .int .i64 t.hi, .string t.r.n, .bool t.r.z, vf, vc, vw] 29 (0, 0))) : Calls Tryz.prog 84 #[.pointer (some ⟨v, 0, none⟩), .pointer (some ⟨tb, 0, none⟩)] w fun e w' => e = .returned (.bool (!lck L t.r)) ∧ Below w.heap.size w w' := by
  have HC := hide (rule1_any t.r hr p q B n L w h.d)
  have q0 : w.cell? ⟨v, 0, none⟩ = some (.func (.func 83) #[] #[.pointer (some ⟨p, 0, none⟩)]) := blk_cell (j := 0) h.v rfl
  have HIT := hide infoRf
  have HAT : Hid (∀ w, (isAgg 24).run Tryz.prog w = .ok true w) := aggRf
  have HTC : Hid (∀ j u, (#[.string t.r.n, .bool t.r.z] : Array Value)[j]? = some u → w.cell? ⟨tb, 4 + j, none⟩ = some u) := sub_cell (o := 4) ht (fun j u hj => by
    rcases j with _ | _ | j
    · exact hj
    · exact hj
    · simp at hj)
  clear hr h ht
  go_enter Tryz.func84, Tryz.ntmps84
  go_wp2_with (refine wpList_aggAt rfl rfl HIT.out HAT.out tb 4 #[.string t.r.n, .bool t.r.z] rfl rfl HTC.out ?_)
  refine HC.out.mono ?_
  rintro e w1 ⟨rfl, hb⟩
  have HB := hide hb
  clear hb HC
  go_wp2_with fail
  go_ret
  exact ⟨rfl, HB.out⟩
set_option maxRecDepth 1000000 in
set_option maxHeartbeats 1000000 in
theorem rule3_any (v p q B n tb : Nat) (L : List ByteArray) (t : Tp) (vf vc vw : Value) (w : World) (hr : t.r.n.size ≤ 140737488351232) (h : Lck v p q B n L w) (ht : w.heap[tb]? = some (.cells #[.string t.n, .int .i64 t.k, .int .i64 t.lo, .int .i64 t.hi, .string t.r.n, .bool t.r.z, vf, vc, vw] 29 (0, 0))) : Calls Tryz.prog 85 #[.pointer (some ⟨tb, 0, none⟩), .pointer (some ⟨v, 0, none⟩)] w fun e w' => e = .returned (.bool (decide (t.lo = 0) || !lck L t.r)) ∧ Below w.heap.size w w' := by
  have HC := hide (rule1_any t.r hr p q B n L w h.d)
  have q0 : w.cell? ⟨v, 0, none⟩ = some (.func (.func 83) #[] #[.pointer (some ⟨p, 0, none⟩)]) := blk_cell (j := 0) h.v rfl
  have q2 : w.cell? ⟨tb, 2, none⟩ = some (.int .i64 t.lo) := blk_cell (j := 2) ht rfl
  have HIT := hide infoRf
  have HAT : Hid (∀ w, (isAgg 24).run Tryz.prog w = .ok true w) := aggRf
  have HTC : Hid (∀ j u, (#[.string t.r.n, .bool t.r.z] : Array Value)[j]? = some u → w.cell? ⟨tb, 4 + j, none⟩ = some u) := sub_cell (o := 4) ht (fun j u hj => by
    rcases j with _ | _ | j
    · exact hj
    · exact hj
    · simp at hj)
  clear hr h ht
  by_cases h0 : t.lo = 0
  · have HR : Hid ((decide (t.lo = 0) || !lck L t.r) = true) := by show _ = _; rw [decide_eq_true h0]; rfl
    have g : (t.lo == 0) = true := by rw [h0]; rfl
    clear h0 HC HTC
    go_enter Tryz.func85, Tryz.ntmps85
    go_wp2_with fail
    go_ret
    exact ⟨by rw [HR.out]; rfl, Below.refl _ _⟩
  · have HR : Hid ((decide (t.lo = 0) || !lck L t.r) = !lck L t.r) := by show _ = _; rw [decide_eq_false h0]; rfl
    have g : (t.lo == 0) = false := by rw [beq_eq_false_iff_ne]; exact h0
    clear h0
    go_enter Tryz.func85, Tryz.ntmps85
    go_wp2_with (refine wpList_aggAt rfl rfl HIT.out HAT.out tb 4 #[.string t.r.n, .bool t.r.z] rfl rfl HTC.out ?_)
    refine HC.out.mono ?_
    rintro e w1 ⟨rfl, hb⟩
    have HB := hide hb
    clear hb HC
    go_wp2_with fail
    go_ret
    exact ⟨by rw [HR.out]; rfl, HB.out⟩
set_option maxRecDepth 1000000 in
set_option maxHeartbeats 1000000 in
theorem rule6_any (w : World) : Calls Tryz.prog 91 #[] w fun e w' => e = .returned (.bool true) ∧ w' = w := by
  go_enter Tryz.func91, Tryz.ntmps91
  go_wp2_with fail
  go_ret
  exact ⟨rfl, rfl⟩
set_option maxRecDepth 1000000 in
set_option maxHeartbeats 1000000 in
theorem rule41_any (x : Fd) (hs : x.r.n.size ≤ 140737488351232) (v p q B n : Nat) (L : List ByteArray) (w : World) (h : Lck v p q B n L w) : Calls Tryz.prog 88 #[.agg #[.string x.n, .string x.k, .string x.r.n, .bool x.r.z, .bool x.m], .pointer (some ⟨v, 0, none⟩)] w fun e w' => e = .returned (.bool (!x.m && lck L x.r)) ∧ Below w.heap.size w w' := by
  have hb0 := below_alloc4 w (.cells #[.string x.n, .string x.k, .string x.r.n, .bool x.r.z, .bool x.m] 80)
  have HB := hide hb0
  have HN := hide (h.next hb0)
  have q0 : (w.alloc (.cells #[.string x.n, .string x.k, .string x.r.n, .bool x.r.z, .bool x.m] 80)).cell? ⟨v, 0, none⟩ = some (.func (.func 83) #[] #[.pointer (some ⟨p, 0, none⟩)]) := keep_below hb0 _ _ (blk_cell (j := 0) h.v rfl)
  have HIT := hide infoRf
  have HAT : Hid (∀ w, (isAgg 24).run Tryz.prog w = .ok true w) := aggRf
  have HTC : Hid (∀ j u, (#[.string x.r.n, .bool x.r.z] : Array Value)[j]? = some u → (w.alloc (.cells #[.string x.n, .string x.k, .string x.r.n, .bool x.r.z, .bool x.m] 80)).cell? ⟨w.heap.size, 2 + j, none⟩ = some u) := sub_cell (o := 2) (heap_alloc_new w _) (fun j u hj => by
    rcases j with _ | _ | j
    · exact hj
    · exact hj
    · simp at hj)
  have HC := hide (rule1_any x.r hs p q B n L _ HN.out.d)
  clear hb0 h hs
  obtain ⟨xn, xk, xr, xm⟩ := x
  simp only at HB HN q0 HTC HC ⊢
  cases xm with
  | true =>
    clear HC HTC
    go_enter Tryz.func88, Tryz.ntmps88
    go_wp2_with fail
    go_ret
    exact ⟨rfl, HB.out⟩
  | false =>
    go_enter Tryz.func88, Tryz.ntmps88
    go_wp2_with (refine wpList_aggAt rfl rfl HIT.out HAT.out w.heap.size 2 #[.string xr.n, .bool xr.z] rfl rfl HTC.out ?_)
    refine HC.out.mono ?_
    rintro e w1 ⟨rfl, hb⟩
    have HB1 : Hid (Below w.heap.size w w1) := HB.out.trans (hb.mono HB.out.size)
    clear hb HC
    go_wp2_with fail
    go_ret
    exact ⟨by simp, HB1.out⟩
set_option maxRecDepth 1000000 in
set_option maxHeartbeats 1000000 in
theorem rule51_any (x : Cz) (hs : x.n.size ≤ 140737488351232) (p q B n : Nat) (L : List ByteArray) (w : World) (h : Nmd p q B n L w) : Calls Tryz.prog 90 #[.agg #[.string x.k, .string x.n], .pointer (some ⟨p, 0, none⟩)] w fun e w' => e = .returned (.bool (memb L x.n)) ∧ Below w.heap.size w w' := by
  have hb0 := below_alloc4 w (.cells #[.string x.k, .string x.n] 82)
  have HB := hide hb0
  have HN := hide (h.next hb0)
  have HS := hide hs
  have q0 : (w.alloc (.cells #[.string x.k, .string x.n] 82)).cell? ⟨p, 0, none⟩ = some (.func (.func 55) #[] #[.pointer (some ⟨q, 0, none⟩)]) := keep_below hb0 _ _ (blk_cell (j := 0) h.p rfl)
  clear hb0 h hs
  go_enter Tryz.func90, Tryz.ntmps90
  go_wp2_with fail
  refine (filled1_any x.n HS.out q B n L _ HN.out.s).mono ?_
  rintro e w1 ⟨rfl, hb⟩
  have HB1 : Hid (Below w.heap.size w w1) := HB.out.trans (hb.mono HB.out.size)
  clear hb
  go_wp2_with fail
  go_ret
  exact ⟨rfl, HB1.out⟩
end
section
open Go.RowKit Go
set_option maxRecDepth 1000000 in
set_option maxHeartbeats 1000000 in
theorem indexLacks_any (w : World) (v : Value) (xs : List Fd) (hv : FSl w v xs) (q : Nat) (p : Nat → Bool) (I : Nat → World → Prop) (h0 : I 0 w) (hB : ∀ i wx, I i wx → FSl wx v xs) (hC : ∀ i x wx, xs[i]? = some x → I i wx → Calls Tryz.prog 88 #[.agg #[.string x.n, .string x.k, .string x.r.n, .bool x.r.z, .bool x.m], .pointer (some ⟨q, 0, none⟩)] wx fun e w' => e = .returned (.bool (p i)) ∧ I (i + 1) w') : Calls Tryz.prog 107 #[v, .func (.func 88) #[] #[.pointer (some ⟨q, 0, none⟩)]] w fun e w' => ∃ r : Int, e = .returned (.int .i64 r) ∧ Hid (decide (0 ≤ r) = (List.range xs.length).any p ∧ ∃ i, I i w') := by
  have HH0 := hide h0
  have HB := hide hB
  have HC := hide hC
  have hmax := hv.max
  obtain ⟨⟨a, cap, rfl, _, hform⟩, _⟩ := hv
  clear h0 hB hC hform
  have HIT := hide infoFd
  have HAT : Hid (∀ w, (isAgg 80).run Tryz.prog w = .ok true w) := aggFd
  go_enter Tryz.func107, Tryz.ntmps107
  go_wp2_with fail
  go_loopw [8] (fun ii wx => ∃ i : Nat, i ≤ xs.length ∧ ii = .int .i64 (i : Nat) ∧ Hid (∀ j, j < i → p j = false) ∧ Hid (I i wx)) (fun ii _ => xs.length - (intOf ii).toNat)
  case atStart => exact ⟨0, by omega, rfl, fun j hj => absurd hj (by omega), HH0⟩
  case round =>
    obtain ⟨i, hi, rfl, HN, HI⟩ := hrel
    by_cases hlt : i < xs.length
    · as_aux_lemma =>
      have g1 : (i : Int) < (xs.length : Int) := by omega
      obtain ⟨x, hx⟩ : ∃ x, xs[i]? = some x := ⟨xs[i], List.getElem?_eq_getElem hlt⟩
      have hsl := HB.out i wr HI.out
      obtain ⟨⟨a', cap', hv', _, hf'⟩, _⟩ := hsl
      injection hv' with e1 _ e3
      subst e1
      obtain ⟨b, off, rfl, hcc⟩ := hf'.resolve_left (fun h => by rw [h] at hlt; simp at hlt)
      clear e3
      obtain ⟨c, ⟨rfl, _⟩, hcell⟩ := hcc i x hx
      unfold fdc at hcell
      have HCL : Hid (∀ j u, (#[.string x.n, .string x.k, .string x.r.n, .bool x.r.z, .bool x.m] : Array Value)[j]? = some u → wr.cell? ⟨b, off + i * 5 + j, none⟩ = some u) := hcell
      clear hcell
      have HCA := hide (HC.out i x wr hx HI.out)
      clear hcc hx HC
      go_wp2_with (refine wpList_aggAt rfl rfl HIT.out HAT.out b (off + i * 5) #[.string x.n, .string x.k, .string x.r.n, .bool x.r.z, .bool x.m] rfl rfl HCL.out ?_)
      refine HCA.out.mono ?_
      rintro e w1 ⟨rfl, hb1⟩
      have HI1 := hide hb1
      clear hb1 HCA
      rcases Bool.eq_false_or_eq_true (p i) with hr | hr
      · have HA : Hid ((List.range xs.length).any p = true) := List.any_eq_true.2 ⟨i, List.mem_range.2 hlt, hr⟩
        rw [hr]
        go_wp2_with fail
        go_ret
        exact ⟨_, rfl, by rw [HA.out, decide_eq_true (by omega)], _, HI1.out⟩
      · have HN2 : Hid (∀ j, j < i + 1 → p j = false) := fun j hj => by
          by_cases hji : j = i
          · rw [hji]; exact hr
          · exact HN.out j (by omega)
        rw [hr]
        clear hr HN
        go_wp2_with fail
        go_roundw
        case rel => exact ⟨i + 1, by omega, by go_num, HN2, HI1⟩
        case measure => simp [intOf]; omega
    · as_aux_lemma =>
      have g1 : ¬ (i : Int) < (xs.length : Int) := by omega
      have HA : Hid ((List.range xs.length).any p = false) := by
        show _ = _
        rw [List.any_eq_false]
        intro j hj
        rw [HN.out j (by have := List.mem_range.1 hj; omega)]
        simp
      go_wp2_with fail
      go_ret
      exact ⟨_, rfl, by rw [HA.out]; rfl, _, HI.out⟩
set_option maxRecDepth 1000000 in
theorem containsLacks_any (w : World) (v : Value) (xs : List Fd) (hv : FSl w v xs) (q : Nat) (p : Nat → Bool) (I : Nat → World → Prop) (h0 : I 0 w) (hB : ∀ i wx, I i wx → FSl wx v xs) (hC : ∀ i x wx, xs[i]? = some x → I i wx → Calls Tryz.prog 88 #[.agg #[.string x.n, .string x.k, .string x.r.n, .bool x.r.z, .bool x.m], .pointer (some ⟨q, 0, none⟩)] wx fun e w' => e = .returned (.bool (p i)) ∧ I (i + 1) w') : Calls Tryz.prog 87 #[v, .func (.func 88) #[] #[.pointer (some ⟨q, 0, none⟩)]] w fun e w' => e = .returned (.bool ((List.range xs.length).any p)) ∧ Hid (∃ i, I i w') := by
  have HCA := hide (indexLacks_any w v xs hv q p I h0 hB hC)
  obtain ⟨⟨a, cap, rfl, _, _⟩, _⟩ := hv
  clear h0 hB hC
  go_enter Tryz.func87, Tryz.ntmps87
  go_wp2_with fail
  refine HCA.out.mono ?_
  rintro e w1 ⟨r, rfl, h⟩
  have HR := hide h.out.1
  have HI := hide h.out.2
  clear h HCA
  go_wp2_with fail
  go_ret
  exact ⟨by rw [← HR.out]; rfl, HI⟩
set_option maxRecDepth 1000000 in
set_option maxHeartbeats 1000000 in
theorem indexNamed_any (w : World) (v : Value) (xs : List Cz) (hv : CSl w v xs) (q : Nat) (p : Nat → Bool) (I : Nat → World → Prop) (h0 : I 0 w) (hB : ∀ i wx, I i wx → CSl wx v xs) (hC : ∀ i x wx, xs[i]? = some x → I i wx → Calls Tryz.prog 90 #[.agg #[.string x.k, .string x.n], .pointer (some ⟨q, 0, none⟩)] wx fun e w' => e = .returned (.bool (p i)) ∧ I (i + 1) w') : Calls Tryz.prog 101 #[v, .func (.func 90) #[] #[.pointer (some ⟨q, 0, none⟩)]] w fun e w' => ∃ r : Int, e = .returned (.int .i64 r) ∧ Hid (decide (0 ≤ r) = (List.range xs.length).any p ∧ ∃ i, I i w') := by
  have HH0 := hide h0
  have HB := hide hB
  have HC := hide hC
  have hmax := hv.max
  obtain ⟨⟨a, cap, rfl, _, hform⟩, _⟩ := hv
  clear h0 hB hC hform
  have HIT := hide infoCz
  have HAT : Hid (∀ w, (isAgg 82).run Tryz.prog w = .ok true w) := aggCz
  go_enter Tryz.func101, Tryz.ntmps101
  go_wp2_with fail
  go_loopw [8] (fun ii wx => ∃ i : Nat, i ≤ xs.length ∧ ii = .int .i64 (i : Nat) ∧ Hid (∀ j, j < i → p j = false) ∧ Hid (I i wx)) (fun ii _ => xs.length - (intOf ii).toNat)
  case atStart => exact ⟨0, by omega, rfl, fun j hj => absurd hj (by omega), HH0⟩
  case round =>
    obtain ⟨i, hi, rfl, HN, HI⟩ := hrel
    by_cases hlt : i < xs.length
    · as_aux_lemma =>
      have g1 : (i : Int) < (xs.length : Int) := by omega
      obtain ⟨x, hx⟩ : ∃ x, xs[i]? = some x := ⟨xs[i], List.getElem?_eq_getElem hlt⟩
      have hsl := HB.out i wr HI.out
      obtain ⟨⟨a', cap', hv', _, hf'⟩, _⟩ := hsl
      injection hv' with e1 _ e3
      subst e1
      obtain ⟨b, off, rfl, hcc⟩ := hf'.resolve_left (fun h => by rw [h] at hlt; simp at hlt)
      clear e3
      obtain ⟨c, ⟨rfl, _⟩, hcell⟩ := hcc i x hx
      unfold czc at hcell
      have HCL : Hid (∀ j u, (#[.string x.k, .string x.n] : Array Value)[j]? = some u → wr.cell? ⟨b, off + i * 2 + j, none⟩ = some u) := hcell
      clear hcell
      have HCA := hide (HC.out i x wr hx HI.out)
      clear hcc hx HC
      go_wp2_with (refine wpList_aggAt rfl rfl HIT.out HAT.out b (off + i * 2) #[.string x.k, .string x.n] rfl rfl HCL.out ?_)
      refine HCA.out.mono ?_
      rintro e w1 ⟨rfl, hb1⟩
      have HI1 := hide hb1
      clear hb1 HCA
      rcases Bool.eq_false_or_eq_true (p i) with hr | hr
      · have HA : Hid ((List.range xs.length).any p = true) := List.any_eq_true.2 ⟨i, List.mem_range.2 hlt, hr⟩
        rw [hr]
        go_wp2_with fail
        go_ret
        exact ⟨_, rfl, by rw [HA.out, decide_eq_true (by omega)], _, HI1.out⟩
      · have HN2 : Hid (∀ j, j < i + 1 → p j = false) := fun j hj => by
          by_cases hji : j = i
          · rw [hji]; exact hr
          · exact HN.out j (by omega)
        rw [hr]
        clear hr HN
        go_wp2_with fail
        go_roundw
        case rel => exact ⟨i + 1, by omega, by go_num, HN2, HI1⟩
        case measure => simp [intOf]; omega
    · as_aux_lemma =>
      have g1 : ¬ (i : Int) < (xs.length : Int) := by omega
      have HA : Hid ((List.range xs.length).any p = false) := by
        show _ = _
        rw [List.any_eq_false]
        intro j hj
        rw [HN.out j (by have := List.mem_range.1 hj; omega)]
        simp
      go_wp2_with fail
      go_ret
      exact ⟨_, rfl, by rw [HA.out]; rfl, _, HI.out⟩
set_option maxRecDepth 1000000 in
theorem containsNamed_any (w : World) (v : Value) (xs : List Cz) (hv : CSl w v xs) (q : Nat) (p : Nat → Bool) (I : Nat → World → Prop) (h0 : I 0 w) (hB : ∀ i wx, I i wx → CSl wx v xs) (hC : ∀ i x wx, xs[i]? = some x → I i wx → Calls Tryz.prog 90 #[.agg #[.string x.k, .string x.n], .pointer (some ⟨q, 0, none⟩)] wx fun e w' => e = .returned (.bool (p i)) ∧ I (i + 1) w') : Calls Tryz.prog 73 #[v, .func (.func 90) #[] #[.pointer (some ⟨q, 0, none⟩)]] w fun e w' => e = .returned (.bool ((List.range xs.length).any p)) ∧ Hid (∃ i, I i w') := by
  have HCA := hide (indexNamed_any w v xs hv q p I h0 hB hC)
  obtain ⟨⟨a, cap, rfl, _, _⟩, _⟩ := hv
  clear h0 hB hC
  go_enter Tryz.func73, Tryz.ntmps73
  go_wp2_with fail
  refine HCA.out.mono ?_
  rintro e w1 ⟨r, rfl, h⟩
  have HR := hide h.out.1
  have HI := hide h.out.2
  clear h HCA
  go_wp2_with fail
  go_ret
  exact ⟨by rw [← HR.out]; rfl, HI⟩
theorem any_getD {α : Type} (z : α) (f : α → Bool) (l : List α) : ((List.range l.length).any fun i => f (l.getD i z)) = l.any f := by
  induction l with
  | nil => rfl
  | cons x r ih =>
    rw [List.length_cons, any_range, List.any_cons]
    have e : (fun i => f ((x :: r).getD (i + 1) z)) = fun i => f (r.getD i z) := by
      funext i
      rw [List.getD_cons_succ]
    rw [e, ih]
    rfl
def zfd : Fd := ⟨⟨#[]⟩, ⟨#[]⟩, ⟨⟨#[]⟩, false⟩, false⟩
def zcz : Cz := ⟨⟨#[]⟩, ⟨#[]⟩⟩
theorem FSl.szs {w : World} {v : Value} {fs : List Fd} (h : FSl w v fs) {i : Nat} {x : Fd} (hx : fs[i]? = some x) : x.r.n.size ≤ 140737488351232 := by
  obtain ⟨⟨a, cap, rfl, _, hc⟩, _⟩ := h
  rcases hc with rfl | ⟨b, off, _, hc⟩
  · simp at hx
  · obtain ⟨c, h1, _⟩ := hc i x hx
    exact h1.2.2.2
theorem CSl.szs {w : World} {v : Value} {cs : List Cz} (h : CSl w v cs) {i : Nat} {x : Cz} (hx : cs[i]? = some x) : x.n.size ≤ 140737488351232 := by
  obtain ⟨⟨a, cap, rfl, _, hc⟩, _⟩ := h
  rcases hc with rfl | ⟨b, off, _, hc⟩
  · simp at hx
  · obtain ⟨c, h1, _⟩ := hc i x hx
    exact h1.2.2
set_option maxRecDepth 1000000 in
set_option maxHeartbeats 1000000 in
theorem rule4_any (v p q B n tb : Nat) (L : List ByteArray) (t : Tp) (vf vc vw : Value) (w : World) (hf : FSl w vf t.fs) (h : Lck v p q B n L w) (ht : w.heap[tb]? = some (.cells #[.string t.n, .int .i64 t.k, .int .i64 t.lo, .int .i64 t.hi, .string t.r.n, .bool t.r.z, vf, vc, vw] 29 (0, 0))) : Calls Tryz.prog 86 #[.pointer (some ⟨tb, 0, none⟩), .pointer (some ⟨v, 0, none⟩)] w fun e w' => e = .returned (.bool (!t.fs.any fun f => !f.m && lck L f.r)) ∧ Below w.heap.size w w' := by
  have q6 : w.cell? ⟨tb, 6, none⟩ = some vf := blk_cell (j := 6) ht rfl
  have HC := hide (containsLacks_any w vf t.fs hf v (fun i => !(t.fs.getD i zfd).m && lck L (t.fs.getD i zfd).r) (fun _ wx => Below w.heap.size w wx) (Below.refl _ _) (fun i wx hI => hf.mv (keep_below hI)) (fun i x wx hx hI => by
    refine (rule41_any x (hf.szs hx) v p q B n L wx (h.next hI)).mono ?_
    rintro e w' ⟨rfl, hb⟩
    exact ⟨by simp only [List.getD, hx]; rfl, hI.trans (hb.mono hI.size)⟩))
  have HG : Hid (((List.range t.fs.length).any fun i => !(t.fs.getD i zfd).m && lck L (t.fs.getD i zfd).r) = t.fs.any fun f => !f.m && lck L f.r) := any_getD zfd (fun f => !f.m && lck L f.r) t.fs
  obtain ⟨⟨af, cf, rfl, _, _⟩, _⟩ := hf
  clear h ht
  go_enter Tryz.func86, Tryz.ntmps86
  go_wp2_with fail
  refine HC.out.mono ?_
  rintro e w5 ⟨rfl, hI⟩
  have HB5 : Hid (Below w.heap.size w w5) := by
    obtain ⟨i, hI⟩ := hI.out
    exact hI
  clear hI HC
  go_wp2_with fail
  go_ret
  exact ⟨by rw [← HG.out]; rfl, HB5.out⟩
set_option maxRecDepth 1000000 in
set_option maxHeartbeats 1000000 in
theorem rule5_any (p q B n tb : Nat) (L : List ByteArray) (t : Tp) (vf vc vw : Value) (w : World) (hf : CSl w vc t.cs) (h : Nmd p q B n L w) (ht : w.heap[tb]? = some (.cells #[.string t.n, .int .i64 t.k, .int .i64 t.lo, .int .i64 t.hi, .string t.r.n, .bool t.r.z, vf, vc, vw] 29 (0, 0))) : Calls Tryz.prog 89 #[.pointer (some ⟨tb, 0, none⟩), .pointer (some ⟨p, 0, none⟩)] w fun e w' => e = .returned (.bool (t.cs.any fun c => memb L c.n)) ∧ Below w.heap.size w w' := by
  have q7 : w.cell? ⟨tb, 7, none⟩ = some vc := blk_cell (j := 7) ht rfl
  have HC := hide (containsNamed_any w vc t.cs hf p (fun i => memb L (t.cs.getD i zcz).n) (fun _ wx => Below w.heap.size w wx) (Below.refl _ _) (fun i wx hI => hf.mv (keep_below hI)) (fun i x wx hx hI => by
    refine (rule51_any x (hf.szs hx) p q B n L wx (h.next hI)).mono ?_
    rintro e w' ⟨rfl, hb⟩
    exact ⟨by simp only [List.getD, hx]; rfl, hI.trans (hb.mono hI.size)⟩))
  have HG : Hid (((List.range t.cs.length).any fun i => memb L (t.cs.getD i zcz).n) = t.cs.any fun c => memb L c.n) := any_getD zcz (fun c => memb L c.n) t.cs
  obtain ⟨⟨af, cf, rfl, _, _⟩, _⟩ := hf
  clear h ht
  go_enter Tryz.func89, Tryz.ntmps89
  go_wp2_with fail
  refine HC.out.mono ?_
  rintro e w5 ⟨rfl, hI⟩
  have HB5 : Hid (Below w.heap.size w w5) := by
    obtain ⟨i, hI⟩ := hI.out
    exact hI
  clear hI HC
  go_wp2_with fail
  go_ret
  exact ⟨by rw [← HG.out]; rfl, HB5.out⟩
/-- The question that a type's rule is, by its kind, and what it answers. -/
def rlv (k : Int) (tb p v : Nat) : Value :=
  if k = 1 then .func (.func 84) #[] #[.pointer (some ⟨v, 0, none⟩), .pointer (some ⟨tb, 0, none⟩)]
  else if k = 3 ∨ k = 4 then .func (.func 85) #[] #[.pointer (some ⟨tb, 0, none⟩), .pointer (some ⟨v, 0, none⟩)]
  else if k = 5 ∨ k = 6 then .func (.func 86) #[] #[.pointer (some ⟨tb, 0, none⟩), .pointer (some ⟨v, 0, none⟩)]
  else if k = 7 ∨ k = 8 then .func (.func 89) #[] #[.pointer (some ⟨tb, 0, none⟩), .pointer (some ⟨p, 0, none⟩)]
  else .func (.func 91) #[] #[]
def rulb (L : List ByteArray) (t : Tp) : Bool :=
  if t.k = 1 then !lck L t.r
  else if t.k = 3 ∨ t.k = 4 then decide (t.lo = 0) || !lck L t.r
  else if t.k = 5 ∨ t.k = 6 then !t.fs.any fun f => !f.m && lck L f.r
  else if t.k = 7 ∨ t.k = 8 then t.cs.any fun c => memb L c.n
  else true
/-- A rule's own memory. -/
structure Rlb (t : Tp) (c : Array Value) (q tb p v : Nat) (w : World) : Prop where
  ht : w.heap[tb]? = some (.cells c 29 (0, 0))
  hc : Tpi w t c
  hp : w.heap[p]? = some (.cells #[.func (.func 55) #[] #[.pointer (some ⟨q, 0, none⟩)]] 52 (0, 0))
  hv : w.heap[v]? = some (.cells #[.func (.func 83) #[] #[.pointer (some ⟨p, 0, none⟩)]] 102 (0, 0))
theorem rlb_new (w : World) (t : Tp) (c : Array Value) (q : Nat) (hc : Tpi w t c) : Rlb t c q w.heap.size (w.heap.size + 1) (w.heap.size + 1 + 1) (((w.alloc (.cells c 29)).alloc (.cells #[.func (.func 55) #[] #[.pointer (some ⟨q, 0, none⟩)]] 52)).alloc (.cells #[.func (.func 83) #[] #[.pointer (some ⟨w.heap.size + 1, 0, none⟩)]] 102)) ∧ Below w.heap.size w (((w.alloc (.cells c 29)).alloc (.cells #[.func (.func 55) #[] #[.pointer (some ⟨q, 0, none⟩)]] 52)).alloc (.cells #[.func (.func 83) #[] #[.pointer (some ⟨w.heap.size + 1, 0, none⟩)]] 102)) := by
  have h1 := heap_alloc_new w (.cells c 29)
  have b1 := below_alloc4 w (.cells c 29)
  have e1 : (w.alloc (.cells c 29)).heap.size = w.heap.size + 1 := by simp
  generalize w.alloc (.cells c 29) = w1 at *
  have h2 := heap_alloc_new w1 (.cells #[.func (.func 55) #[] #[.pointer (some ⟨q, 0, none⟩)]] 52)
  have b2 := below_alloc4 w1 (.cells #[.func (.func 55) #[] #[.pointer (some ⟨q, 0, none⟩)]] 52)
  have e2 : (w1.alloc (.cells #[.func (.func 55) #[] #[.pointer (some ⟨q, 0, none⟩)]] 52)).heap.size = w1.heap.size + 1 := by simp
  generalize w1.alloc (.cells #[.func (.func 55) #[] #[.pointer (some ⟨q, 0, none⟩)]] 52) = w2 at *
  have h3 := heap_alloc_new w2 (.cells #[.func (.func 83) #[] #[.pointer (some ⟨w.heap.size + 1, 0, none⟩)]] 102)
  have b3 := below_alloc4 w2 (.cells #[.func (.func 83) #[] #[.pointer (some ⟨w.heap.size + 1, 0, none⟩)]] 102)
  generalize w2.alloc (.cells #[.func (.func 83) #[] #[.pointer (some ⟨w.heap.size + 1, 0, none⟩)]] 102) = w3 at *
  rw [e1] at h2 e2
  rw [e2] at h3
  have hb : Below w.heap.size w w3 := (b1.trans (b2.mono (by omega))).trans (b3.mono (by omega))
  exact ⟨⟨(b3.block _ (by omega)).trans ((b2.block _ (by omega)).trans h1), hc.move (keep_below hb), (b3.block _ (by omega)).trans h2, h3⟩, hb⟩
theorem Rlb.lck {t : Tp} {c : Array Value} {q tb p v B n : Nat} {L : List ByteArray} {w : World} (h : Rlb t c q tb p v w) (hs : Str q B n L w) : Lck v p q B n L w := ⟨h.hv, h.hp, hs⟩
theorem run_enter {f : FuncId} {fn : Func} (hf : Tryz.prog.funcs[f]? = some fn) (hn : (fn.name == "runtime.NumGoroutine") = false) (hb : fn.body.isNone = false) (args : Array Value) (w : World) : (callFunc f args).run Tryz.prog w = .ok (.enter f args) w := by
  have h1 : fn.name ≠ "runtime.NumGoroutine" := by simpa using hn
  cases hc : fn.body with
  | none => rw [hc] at hb; cases hb
  | some c => simp [callFunc, hf, h1, hc]
/-- A rule asked. -/
theorem rlv_calls {t : Tp} {c : Array Value} {q tb p v B n : Nat} {L : List ByteArray} {w : World} (h : Rlb t c q tb p v w) (hs : Str q B n L w) : ∃ fn caps, rlv t.k tb p v = .func (.func fn) #[] caps ∧ (∀ wx, (callFunc fn caps).run Tryz.prog wx = .ok (.enter fn caps) wx) ∧ Calls Tryz.prog fn caps w fun e w' => e = .returned (.bool (rulb L t)) ∧ Below w.heap.size w w' := by
  have hc := h.ht
  have hl := h.lck hs
  obtain ⟨⟨vf, vc, vw, rfl, hf, hcs, hw⟩, hb⟩ := h.hc
  unfold tpc at hc
  unfold rlv rulb
  by_cases k1 : t.k = 1
  · rw [if_pos k1, if_pos k1]
    exact ⟨_, _, rfl, run_enter Tryz.func84 (by kernel_rfl) rfl _, rule2_any v p q B n tb L t vf vc vw w hb.r hl hc⟩
  rw [if_neg k1, if_neg k1]
  by_cases k3 : t.k = 3 ∨ t.k = 4
  · rw [if_pos k3, if_pos k3]
    exact ⟨_, _, rfl, run_enter Tryz.func85 (by kernel_rfl) rfl _, rule3_any v p q B n tb L t vf vc vw w hb.r hl hc⟩
  rw [if_neg k3, if_neg k3]
  by_cases k5 : t.k = 5 ∨ t.k = 6
  · rw [if_pos k5, if_pos k5]
    exact ⟨_, _, rfl, run_enter Tryz.func86 (by kernel_rfl) rfl _, rule4_any v p q B n tb L t vf vc vw w hf hl hc⟩
  rw [if_neg k5, if_neg k5]
  by_cases k7 : t.k = 7 ∨ t.k = 8
  · rw [if_pos k7, if_pos k7]
    exact ⟨_, _, rfl, run_enter Tryz.func89 (by kernel_rfl) rfl _, rule5_any p q B n tb L t vf vc vw w hcs hl.d hc⟩
  rw [if_neg k7, if_neg k7]
  refine ⟨_, _, rfl, run_enter Tryz.func91 (by kernel_rfl) rfl _, (rule6_any w).mono ?_⟩
  rintro e w' ⟨rfl, rfl⟩
  exact ⟨rfl, Below.refl _ _⟩
set_option maxRecDepth 1000000 in
set_option maxHeartbeats 1000000 in
theorem rule_1 (q : Nat) (t : Tp) (c : Array Value) (w : World) (hc : Tpi w t c) (hk : t.k = 1) : Calls Tryz.prog 56 #[.agg c, .func (.func 55) #[] #[.pointer (some ⟨q, 0, none⟩)]] w fun e w' => e = .returned (rlv t.k w.heap.size (w.heap.size + 1) (w.heap.size + 1 + 1)) ∧ Hid (Rlb t c q w.heap.size (w.heap.size + 1) (w.heap.size + 1 + 1) w' ∧ Below w.heap.size w w') := by
  have HN := hide (rlb_new w t c q hc)
  obtain ⟨⟨vf, vc, vw, rfl, ⟨⟨af, cf, rfl, -, -⟩, -⟩, ⟨⟨ac, cc, rfl, -, -⟩, -⟩, ⟨⟨aw, cw, rfl, -, -⟩, -, -⟩⟩, -⟩ := hc
  unfold tpc at HN
  unfold tpc
  have HR : Hid (∀ a b c, rlv t.k a b c = rlv 1 a b c) := fun a b c => by rw [hk]
  rw [hk] at HN
  rw [hk]
  go_enter Tryz.func56, Tryz.ntmps56
  go_wp2_with fail
  go_ret
  exact ⟨rfl, HN.out⟩
set_option maxRecDepth 1000000 in
set_option maxHeartbeats 1000000 in
theorem rule_3 (q : Nat) (t : Tp) (c : Array Value) (w : World) (hc : Tpi w t c) (hk : t.k = 3) : Calls Tryz.prog 56 #[.agg c, .func (.func 55) #[] #[.pointer (some ⟨q, 0, none⟩)]] w fun e w' => e = .returned (rlv t.k w.heap.size (w.heap.size + 1) (w.heap.size + 1 + 1)) ∧ Hid (Rlb t c q w.heap.size (w.heap.size + 1) (w.heap.size + 1 + 1) w' ∧ Below w.heap.size w w') := by
  have HN := hide (rlb_new w t c q hc)
  obtain ⟨⟨vf, vc, vw, rfl, ⟨⟨af, cf, rfl, -, -⟩, -⟩, ⟨⟨ac, cc, rfl, -, -⟩, -⟩, ⟨⟨aw, cw, rfl, -, -⟩, -, -⟩⟩, -⟩ := hc
  unfold tpc at HN
  unfold tpc
  have HR : Hid (∀ a b c, rlv t.k a b c = rlv 3 a b c) := fun a b c => by rw [hk]
  rw [hk] at HN
  rw [hk]
  go_enter Tryz.func56, Tryz.ntmps56
  go_wp2_with fail
  go_ret
  exact ⟨rfl, HN.out⟩
set_option maxRecDepth 1000000 in
set_option maxHeartbeats 1000000 in
theorem rule_4 (q : Nat) (t : Tp) (c : Array Value) (w : World) (hc : Tpi w t c) (hk : t.k = 4) : Calls Tryz.prog 56 #[.agg c, .func (.func 55) #[] #[.pointer (some ⟨q, 0, none⟩)]] w fun e w' => e = .returned (rlv t.k w.heap.size (w.heap.size + 1) (w.heap.size + 1 + 1)) ∧ Hid (Rlb t c q w.heap.size (w.heap.size + 1) (w.heap.size + 1 + 1) w' ∧ Below w.heap.size w w') := by
  have HN := hide (rlb_new w t c q hc)
  obtain ⟨⟨vf, vc, vw, rfl, ⟨⟨af, cf, rfl, -, -⟩, -⟩, ⟨⟨ac, cc, rfl, -, -⟩, -⟩, ⟨⟨aw, cw, rfl, -, -⟩, -, -⟩⟩, -⟩ := hc
  unfold tpc at HN
  unfold tpc
  have HR : Hid (∀ a b c, rlv t.k a b c = rlv 4 a b c) := fun a b c => by rw [hk]
  rw [hk] at HN
  rw [hk]
  go_enter Tryz.func56, Tryz.ntmps56
  go_wp2_with fail
  go_ret
  exact ⟨rfl, HN.out⟩
set_option maxRecDepth 1000000 in
set_option maxHeartbeats 1000000 in
theorem rule_5 (q : Nat) (t : Tp) (c : Array Value) (w : World) (hc : Tpi w t c) (hk : t.k = 5) : Calls Tryz.prog 56 #[.agg c, .func (.func 55) #[] #[.pointer (some ⟨q, 0, none⟩)]] w fun e w' => e = .returned (rlv t.k w.heap.size (w.heap.size + 1) (w.heap.size + 1 + 1)) ∧ Hid (Rlb t c q w.heap.size (w.heap.size + 1) (w.heap.size + 1 + 1) w' ∧ Below w.heap.size w w') := by
  have HN := hide (rlb_new w t c q hc)
  obtain ⟨⟨vf, vc, vw, rfl, ⟨⟨af, cf, rfl, -, -⟩, -⟩, ⟨⟨ac, cc, rfl, -, -⟩, -⟩, ⟨⟨aw, cw, rfl, -, -⟩, -, -⟩⟩, -⟩ := hc
  unfold tpc at HN
  unfold tpc
  have HR : Hid (∀ a b c, rlv t.k a b c = rlv 5 a b c) := fun a b c => by rw [hk]
  rw [hk] at HN
  rw [hk]
  go_enter Tryz.func56, Tryz.ntmps56
  go_wp2_with fail
  go_ret
  exact ⟨rfl, HN.out⟩
set_option maxRecDepth 1000000 in
set_option maxHeartbeats 1000000 in
theorem rule_6 (q : Nat) (t : Tp) (c : Array Value) (w : World) (hc : Tpi w t c) (hk : t.k = 6) : Calls Tryz.prog 56 #[.agg c, .func (.func 55) #[] #[.pointer (some ⟨q, 0, none⟩)]] w fun e w' => e = .returned (rlv t.k w.heap.size (w.heap.size + 1) (w.heap.size + 1 + 1)) ∧ Hid (Rlb t c q w.heap.size (w.heap.size + 1) (w.heap.size + 1 + 1) w' ∧ Below w.heap.size w w') := by
  have HN := hide (rlb_new w t c q hc)
  obtain ⟨⟨vf, vc, vw, rfl, ⟨⟨af, cf, rfl, -, -⟩, -⟩, ⟨⟨ac, cc, rfl, -, -⟩, -⟩, ⟨⟨aw, cw, rfl, -, -⟩, -, -⟩⟩, -⟩ := hc
  unfold tpc at HN
  unfold tpc
  have HR : Hid (∀ a b c, rlv t.k a b c = rlv 6 a b c) := fun a b c => by rw [hk]
  rw [hk] at HN
  rw [hk]
  go_enter Tryz.func56, Tryz.ntmps56
  go_wp2_with fail
  go_ret
  exact ⟨rfl, HN.out⟩
set_option maxRecDepth 1000000 in
set_option maxHeartbeats 1000000 in
theorem rule_7 (q : Nat) (t : Tp) (c : Array Value) (w : World) (hc : Tpi w t c) (hk : t.k = 7) : Calls Tryz.prog 56 #[.agg c, .func (.func 55) #[] #[.pointer (some ⟨q, 0, none⟩)]] w fun e w' => e = .returned (rlv t.k w.heap.size (w.heap.size + 1) (w.heap.size + 1 + 1)) ∧ Hid (Rlb t c q w.heap.size (w.heap.size + 1) (w.heap.size + 1 + 1) w' ∧ Below w.heap.size w w') := by
  have HN := hide (rlb_new w t c q hc)
  obtain ⟨⟨vf, vc, vw, rfl, ⟨⟨af, cf, rfl, -, -⟩, -⟩, ⟨⟨ac, cc, rfl, -, -⟩, -⟩, ⟨⟨aw, cw, rfl, -, -⟩, -, -⟩⟩, -⟩ := hc
  unfold tpc at HN
  unfold tpc
  have HR : Hid (∀ a b c, rlv t.k a b c = rlv 7 a b c) := fun a b c => by rw [hk]
  rw [hk] at HN
  rw [hk]
  go_enter Tryz.func56, Tryz.ntmps56
  go_wp2_with fail
  go_ret
  exact ⟨rfl, HN.out⟩
set_option maxRecDepth 1000000 in
set_option maxHeartbeats 1000000 in
theorem rule_8 (q : Nat) (t : Tp) (c : Array Value) (w : World) (hc : Tpi w t c) (hk : t.k = 8) : Calls Tryz.prog 56 #[.agg c, .func (.func 55) #[] #[.pointer (some ⟨q, 0, none⟩)]] w fun e w' => e = .returned (rlv t.k w.heap.size (w.heap.size + 1) (w.heap.size + 1 + 1)) ∧ Hid (Rlb t c q w.heap.size (w.heap.size + 1) (w.heap.size + 1 + 1) w' ∧ Below w.heap.size w w') := by
  have HN := hide (rlb_new w t c q hc)
  obtain ⟨⟨vf, vc, vw, rfl, ⟨⟨af, cf, rfl, -, -⟩, -⟩, ⟨⟨ac, cc, rfl, -, -⟩, -⟩, ⟨⟨aw, cw, rfl, -, -⟩, -, -⟩⟩, -⟩ := hc
  unfold tpc at HN
  unfold tpc
  have HR : Hid (∀ a b c, rlv t.k a b c = rlv 8 a b c) := fun a b c => by rw [hk]
  rw [hk] at HN
  rw [hk]
  go_enter Tryz.func56, Tryz.ntmps56
  go_wp2_with fail
  go_ret
  exact ⟨rfl, HN.out⟩
set_option maxRecDepth 1000000 in
set_option maxHeartbeats 1000000 in
theorem rule_no (q : Nat) (t : Tp) (c : Array Value) (w : World) (hc : Tpi w t c) (k1 : t.k ≠ 1) (k3 : t.k ≠ 3) (k4 : t.k ≠ 4) (k5 : t.k ≠ 5) (k6 : t.k ≠ 6) (k7 : t.k ≠ 7) (k8 : t.k ≠ 8) : Calls Tryz.prog 56 #[.agg c, .func (.func 55) #[] #[.pointer (some ⟨q, 0, none⟩)]] w fun e w' => e = .returned (rlv t.k w.heap.size (w.heap.size + 1) (w.heap.size + 1 + 1)) ∧ Hid (Rlb t c q w.heap.size (w.heap.size + 1) (w.heap.size + 1 + 1) w' ∧ Below w.heap.size w w') := by
  have HN := hide (rlb_new w t c q hc)
  obtain ⟨⟨vf, vc, vw, rfl, ⟨⟨af, cf, rfl, -, -⟩, -⟩, ⟨⟨ac, cc, rfl, -, -⟩, -⟩, ⟨⟨aw, cw, rfl, -, -⟩, -, -⟩⟩, -⟩ := hc
  unfold tpc at HN
  unfold tpc
  have HR : Hid (∀ a b c, rlv t.k a b c = .func (.func 91) #[] #[]) := fun a b c => by
    unfold rlv
    rw [if_neg k1, if_neg (fun h => h.elim k3 k4), if_neg (fun h => h.elim k5 k6), if_neg (fun h => h.elim k7 k8)]
  have g1 : (t.k == 1) = false := beq_eq_false_iff_ne.2 k1
  have g3 : (t.k == 3) = false := beq_eq_false_iff_ne.2 k3
  have g4 : (t.k == 4) = false := beq_eq_false_iff_ne.2 k4
  have g5 : (t.k == 5) = false := beq_eq_false_iff_ne.2 k5
  have g6 : (t.k == 6) = false := beq_eq_false_iff_ne.2 k6
  have g7 : (t.k == 7) = false := beq_eq_false_iff_ne.2 k7
  have g8 : (t.k == 8) = false := beq_eq_false_iff_ne.2 k8
  clear k1 k3 k4 k5 k6 k7 k8
  go_enter Tryz.func56, Tryz.ntmps56
  go_wp2_with fail
  go_ret
  exact ⟨by rw [HR.out]; rfl, HN.out⟩
theorem rule_any (q : Nat) (t : Tp) (c : Array Value) (w : World) (hc : Tpi w t c) : Calls Tryz.prog 56 #[.agg c, .func (.func 55) #[] #[.pointer (some ⟨q, 0, none⟩)]] w fun e w' => e = .returned (rlv t.k w.heap.size (w.heap.size + 1) (w.heap.size + 1 + 1)) ∧ Hid (Rlb t c q w.heap.size (w.heap.size + 1) (w.heap.size + 1 + 1) w' ∧ Below w.heap.size w w') := by
  by_cases k1 : t.k = 1
  · exact rule_1 q t c w hc k1
  by_cases k3 : t.k = 3
  · exact rule_3 q t c w hc k3
  by_cases k4 : t.k = 4
  · exact rule_4 q t c w hc k4
  by_cases k5 : t.k = 5
  · exact rule_5 q t c w hc k5
  by_cases k6 : t.k = 6
  · exact rule_6 q t c w hc k6
  by_cases k7 : t.k = 7
  · exact rule_7 q t c w hc k7
  by_cases k8 : t.k = 8
  · exact rule_8 q t c w hc k8
  exact rule_no q t c w hc k1 k3 k4 k5 k6 k7 k8
end
section
open Go.RowKit Go
theorem infoFb : (Tryz.prog.info? 32).map (fun i => (i.zero, i.size, i.bytes)) = some (some .nilFunc, 1, 8) := by kernel_rfl
/-- A rule's own memory, by the world that had its type. -/
structure Rlc (w0 : World) (t : Tp) (q tb p v : Nat) (wx : World) : Prop where
  ht : ∃ c, wx.heap[tb]? = some (.cells c 29 (0, 0)) ∧ Tpi w0 t c
  hp : wx.heap[p]? = some (.cells #[.func (.func 55) #[] #[.pointer (some ⟨q, 0, none⟩)]] 52 (0, 0))
  hv : wx.heap[v]? = some (.cells #[.func (.func 83) #[] #[.pointer (some ⟨p, 0, none⟩)]] 102 (0, 0))
theorem Rlc.rlb {w0 : World} {t : Tp} {q tb p v : Nat} {wx : World} (h : Rlc w0 t q tb p v wx) (hb : Below w0.heap.size w0 wx) : ∃ c, Rlb t c q tb p v wx := by
  obtain ⟨c, h1, h2⟩ := h.ht
  exact ⟨c, h1, h2.move (keep_below hb), h.hp, h.hv⟩
theorem Rlb.rlc {w0 : World} {t : Tp} {c : Array Value} {q tb p v : Nat} {wx : World} (h : Rlb t c q tb p v wx) (hc : Tpi w0 t c) : Rlc w0 t q tb p v wx := ⟨⟨c, h.ht, hc⟩, h.hp, h.hv⟩
theorem Rlc.kp {w0 : World} {t : Tp} {q tb p v : Nat} {wx wy : World} {S : Nat → Prop} (h : Rlc w0 t q tb p v wx) (hk : Kp S wx wy) (hS : ∀ g c T, wx.heap[g]? = some (.cells c T (0, 0)) → (T = 29 ∨ T = 52 ∨ T = 102) → ¬ S g) : Rlc w0 t q tb p v wy := by
  obtain ⟨c, h1, h2⟩ := h.ht
  exact ⟨⟨c, (hk.block _ (blk_lt h1) (hS _ _ _ h1 (.inl rfl))).trans h1, h2⟩, (hk.block _ (blk_lt h.hp) (hS _ _ _ h.hp (.inr (.inl rfl)))).trans h.hp, (hk.block _ (blk_lt h.hv) (hS _ _ _ h.hv (.inr (.inr rfl)))).trans h.hv⟩
theorem Rlc.next {w0 : World} {t : Tp} {q tb p v : Nat} {wx wy : World} (h : Rlc w0 t q tb p v wx) (hb : Below wx.heap.size wx wy) : Rlc w0 t q tb p v wy := h.kp (Kp.of_below (S := fun _ => False) hb) (fun _ _ _ _ _ e => e)
theorem Mst.nocells {w : World} {B n : Nat} {L : List ByteArray} (h : Mst w B n L) {g : Nat} {c : Array Value} {T : Nat} {f : Nat × Nat} (hg : w.heap[g]? = some (.cells c T f)) : g ≠ B := fun e => by
  obtain ⟨_, D, ⟨es, clock, h2, _⟩, _⟩ := h
  rw [e, h2] at hg
  cases hg
/-- What filled has in hand: the set of names, the row of the rules. -/
structure Flr (w0 : World) (q B n : Nat) (L : List ByteArray) (v : Value) (R : List (Array Value)) (ts : List Tp) (wx : World) : Prop where
  o : wx.ownsRow w0.heap.size 32 1 v R.length (gfl R)
  nn : R.length = ts.length
  k : ∀ (i : Nat) (t : Tp) (c : Array Value), ts[i]? = some t → R[i]? = some c → ∃ tb p v, c = #[rlv t.k tb p v] ∧ Rlc w0 t q tb p v wx
  s : Str q B n L wx
  b : Below w0.heap.size w0 wx
  hB : w0.heap.size ≤ B
theorem Flr.next {w0 : World} {q B n : Nat} {L : List ByteArray} {v : Value} {R : List (Array Value)} {ts : List Tp} {wx wy : World} (h : Flr w0 q B n L v R ts wx) (hb : Below wx.heap.size wx wy) : Flr w0 q B n L v R ts wy :=
  ⟨(Kp.of_below (S := fun _ => False) hb).owns h.o (fun _ _ e => e), h.nn, fun i t c h1 h2 => by
    obtain ⟨tb, p, v, e, h3⟩ := h.k i t c h1 h2
    exact ⟨tb, p, v, e, h3.next hb⟩, h.s.next hb, h.b.trans (hb.mono h.b.size), h.hB⟩
theorem own_type {w : World} {B e k n : Nat} {v : Value} {xs : List Value} (h : w.ownsRow B e k v n xs) {g : Nat} (hg : v.ownBlock = some g) : ∃ cur, w.heap[g]? = some (.cells cur e (0, 0)) := by
  rcases h.2 with ⟨rfl, _⟩ | ⟨g', cap, cur, rfl, _, h1, _⟩
  · cases hg
  · injection hg with hg
    subst hg
    exact ⟨cur, h1⟩
/-- A name more. -/
theorem Flr.put {w0 : World} {q B n : Nat} {L L' : List ByteArray} {v : Value} {R : List (Array Value)} {ts : List Tp} {wx wy : World} (h : Flr w0 q B n L v R ts wx) (hk : Kp (fun x => x = B) wx wy) (hm : Mst wy B (n + 1) L') : Flr w0 q B (n + 1) L' v R ts wy := by
  refine ⟨hk.owns h.o (fun g hg => ?_), h.nn, fun i t c h1 h2 => ?_, ⟨(hk.block _ (blk_lt h.s.q) h.s.ne).trans h.s.q, hm⟩, h.b.trans (hk.below h.b.size (fun g e => by have e' : g = B := e; rw [e']; exact h.hB)), h.hB⟩
  · obtain ⟨cur, hc⟩ := own_type h.o hg
    exact h.s.m.nocells hc
  · obtain ⟨tb, p, v, e, h3⟩ := h.k i t c h1 h2
    exact ⟨tb, p, v, e, h3.kp hk (fun g c T hg _ => h.s.m.nocells hg)⟩
/-- A rule more. -/
theorem Flr.app {w0 : World} {q B n : Nat} {L : List ByteArray} {v v' : Value} {R : List (Array Value)} {ts : List Tp} {wx wy : World} {t : Tp} {tb p lv : Nat} (h : Flr w0 q B n L v R ts wx) (hg : wx.grownBy wy v.ownBlock) (ho : wy.ownsRow w0.heap.size 32 1 v' (R.length + 1) (gfl (R ++ [#[rlv t.k tb p lv]]))) (hr : Rlc w0 t q tb p lv wx) : Flr w0 q B n L v' (R ++ [#[rlv t.k tb p lv]]) (ts ++ [t]) wy := by
  have hk := kp_grown hg
  have hone : ∀ g c T, wx.heap[g]? = some (.cells c T (0, 0)) → (T = 29 ∨ T = 52 ∨ T = 102) → ¬ v.ownBlock = some g := fun g c T h1 h2 h3 => by
    obtain ⟨cur, hc⟩ := own_type h.o h3
    rw [h1] at hc
    injection hc with hc
    injection hc with _ hc
    rw [hc] at h2
    revert h2
    decide
  refine ⟨by rw [List.length_append]; exact ho, by rw [List.length_append, List.length_append, h.nn]; rfl, fun i u d h1 h2 => ?_, h.s.kp hk (fun e => ?_) (fun e => ?_), h.b.trans (hk.below h.b.size (fun g e => (h.o.lt g e).1)), h.hB⟩
  · by_cases hi : i < ts.length
    · rw [List.getElem?_append_left hi] at h1
      rw [List.getElem?_append_left (by rw [h.nn]; exact hi)] at h2
      obtain ⟨tb, p, v, e, h3⟩ := h.k i u d h1 h2
      exact ⟨tb, p, v, e, h3.kp hk hone⟩
    · have e : i = ts.length := by
        have := (List.getElem?_eq_some_iff.1 h1).1
        rw [List.length_append, List.length_singleton] at this
        omega
      subst e
      rw [List.getElem?_append_right (Nat.le_refl _), Nat.sub_self] at h1
      rw [← h.nn, List.getElem?_append_right (Nat.le_refl _), Nat.sub_self] at h2
      have e1 : t = u := by simpa using h1
      have e2 : #[rlv t.k tb p lv] = d := by simpa using h2
      subst e1
      subst e2
      exact ⟨tb, p, lv, rfl, hr.kp hk hone⟩
  · obtain ⟨cur, hc⟩ := own_type h.o e
    rw [h.s.q] at hc
    injection hc with hc
    injection hc with _ hc
    revert hc
    decide
  · obtain ⟨cur, hc⟩ := own_type h.o e
    exact h.s.m.nocells hc rfl
theorem rlv_one (k : Int) (tb p v : Nat) : (rlv k tb p v).oneCell' = true := by
  unfold rlv
  repeat (first | rfl | split)
/-- A pass over the types, and passes. -/
def pas1 (L : List ByteArray) (t : Tp) : List ByteArray := if rulb L t = true then putL L t.n else L
def pas (L : List ByteArray) (ts : List Tp) : List ByteArray := ts.foldl pas1 L
theorem pas_succ (L : List ByteArray) (ts : List Tp) (i : Nat) (t : Tp) (h : ts[i]? = some t) : pas L (ts.take (i + 1)) = pas1 (pas L (ts.take i)) t := by
  unfold pas
  rw [takeP ts i t h, List.foldl_append]
  rfl
def onm : List ByteArray := snf [] (owns.map (·.1))
end
section
open Go.RowKit Go
theorem row1v {ops : Array Oper} {rest : List Oper} {o : Oper} {a : Act} {w : World} {Q : Exit → Act → World → Prop} {S T : TypeId} {z : Value} {k by' : Nat} (hI : (Tryz.prog.info? T).map (fun i => (i.zero, i.size, i.bytes)) = some (some z, k, by')) (hS : Tryz.prog.underlying S = some (.slice T)) (hk : 0 < k) (hk2 : k ≤ 100) (hzs : z.cells.size = k) (hg : o.guard = none) {x : Operand} (ho : o.op = .buildSlice S 1 #[(0, x)]) {c : Array Value} {y : Value} (hyc : y.cells = c) (hx : a.eval x = y) (hc : c.size = k)
    (h : wpList Tryz.prog ops Q rest (a.put o.dst (.slice (some ⟨w.heap.size, 0, none⟩) 1 1)) (w.alloc (.cells c T))) : wpList Tryz.prog ops Q (o :: rest) a w := by
  obtain ⟨i, hi, hz, hs, _⟩ := info_ex hI
  refine wpList_buildSlice hg S T 1 _ ho c i _ hS hi hz (by rw [hs]; omega) (by rw [hs]; omega) ?_ h
  rw [hs]
  have e : (Array.map (fun (i, x) => (i, a.eval x)) #[((0 : Nat), x)]).toList = (([y] : List Value).zipIdx 0).map fun x => (x.2, x.1) := by
    simp [hx]
  rw [e]
  generalize hX : (Array.range (1 * k)).map (z.cells[· % z.cells.size]!) = X
  have hXs : X.size = k := by rw [← hX]; simp
  obtain ⟨r, hr, hsz, hk3⟩ := Great.fill_dense (s := k) hk [y] 0 X (by
    intro v hv
    rw [List.mem_singleton.1 hv]
    rw [hyc]; exact hc) (by rw [hXs]; simp)
  have e2 : r = c := by
    apply Array.ext_getElem?
    intro j
    rw [hk3 j]
    by_cases hj : j < k
    · rw [if_pos ⟨by omega, by simpa using hj⟩, Nat.div_eq_of_lt hj, Nat.mod_eq_of_lt hj]
      show y.cells[j]? = _
      rw [hyc]
    · rw [if_neg (by simp; omega), Array.getElem?_eq_none (by omega), Array.getElem?_eq_none (by omega)]
  rw [hr, e2]
theorem rlv_cells (k : Int) (tb p v : Nat) : (rlv k tb p v).cells = #[rlv k tb p v] := by
  unfold rlv
  repeat (first | rfl | split)
def itr (l : List Tp) : Nat → List ByteArray
  | 0 => onm
  | k + 1 => pas (itr l k) l
theorem nodup_lenG {α : Type} [DecidableEq α] : ∀ (L M : List α), L.Nodup → (∀ x ∈ L, x ∈ M) → L.length ≤ M.length
  | [], _, _, _ => Nat.zero_le _
  | x :: r, M, hn, hs => by
    have hx := hs x List.mem_cons_self
    have h2 := nodup_lenG r (M.erase x) (List.nodup_cons.1 hn).2 (fun y hy => (List.mem_erase_of_ne (fun e => by rw [e] at hy; exact (List.nodup_cons.1 hn).1 hy)).2 (hs y (List.mem_cons_of_mem _ hy)))
    rw [List.length_erase_of_mem hx] at h2
    have := List.length_pos_of_mem hx
    rw [List.length_cons]
    omega
theorem nodup_len (L M : List ByteArray) (h1 : L.Nodup) (h2 : ∀ x ∈ L, x ∈ M) : L.length ≤ M.length := nodup_lenG L M h1 h2
theorem pas_mem {x : ByteArray} : ∀ (ts : List Tp) (L : List ByteArray), x ∈ pas L ts → x ∈ L ∨ x ∈ ts.map (·.n)
  | [], _, h => .inl h
  | t :: r, L, h => by
    rcases pas_mem r (pas1 L t) h with h | h
    · unfold pas1 at h
      split at h
      · rcases putL_mem.1 h with rfl | h
        · exact .inr (by simp)
        · exact .inl h
      · exact .inl h
    · exact .inr (List.mem_cons_of_mem _ h)
theorem itr_mem {x : ByteArray} (l : List Tp) : ∀ k, x ∈ itr l k → x ∈ onm ∨ x ∈ l.map (·.n)
  | 0, h => .inl h
  | k + 1, h => by
    rcases pas_mem l _ h with h | h
    · exact itr_mem l k h
    · exact .inr h
theorem onm_len : onm.length = 9 := by kernel_rfl
theorem itr_len (l : List Tp) (k : Nat) (h : (itr l k).Nodup) : (itr l k).length ≤ 9 + l.length := by
  have := nodup_len (itr l k) (onm ++ l.map (·.n)) h (fun x hx => List.mem_append.2 (itr_mem l k hx))
  rw [List.length_append, List.length_map, onm_len] at this
  exact this
theorem Flr.cell {w0 : World} {q B n g cap : Nat} {L : List ByteArray} {R : List (Array Value)} {ts : List Tp} {wx : World} (h : Flr w0 q B n L (.slice (some ⟨g, 0, none⟩) ts.length cap) R ts wx) {i : Nat} {t : Tp} (hi : ts[i]? = some t) : ∃ tb p lv, wx.cell? ⟨g, i, none⟩ = some (rlv t.k tb p lv) ∧ Rlc w0 t q tb p lv wx := by
  have hil := (List.getElem?_eq_some_iff.1 hi).1
  obtain ⟨c, hc⟩ : ∃ c, R[i]? = some c := ⟨R[i]'(by rw [h.nn]; exact hil), List.getElem?_eq_getElem _⟩
  obtain ⟨tb, p, lv, rfl, h3⟩ := h.k i t c hi hc
  refine ⟨tb, p, lv, ?_, h3⟩
  rcases h.o.2 with ⟨e, _⟩ | ⟨g', cap', cur, e, _, h1, _, _, h2, h4⟩
  · cases e
  · injection e with e
    injection e with e
    injection e with e
    subst e
    have hz : ∀ c ∈ R, c.size = 1 := fun c hc => by
      obtain ⟨j, hj, e⟩ := List.getElem_of_mem hc
      obtain ⟨_, _, _, e2, _⟩ := h.k j (ts[j]'(by rw [← h.nn]; exact hj)) c (List.getElem?_eq_getElem _) (by rw [List.getElem?_eq_getElem hj, e])
      rw [e2]
      rfl
    have h5 := gfl_get hz i #[rlv t.k tb p lv] 0 (rlv t.k tb p lv) hc rfl
    rw [← h4] at h5
    rw [List.getElem?_take] at h5
    split at h5
    · exact blk_cell h1 (by simpa using h5)
    · cases h5
theorem own_size (i : Nat) (n : ByteArray) (k : Nat) (h : owns[i]? = some (n, k)) : n.size ≤ 140737488351232 := by
  rcases i with _ | _ | _ | _ | _ | _ | _ | _ | _ | i
  all_goals first
    | (simp only [owns, List.getElem?_cons_zero, List.getElem?_cons_succ, Option.some.injEq, Prod.mk.injEq] at h
       obtain ⟨rfl, rfl⟩ := h
       decide)
    | (simp [owns] at h)
theorem Flr.start (w : World) : Flr w (w.heap.size + 1) w.heap.size 0 [] (.slice none 0 0) [] [] ((w.alloc (.map #[] 0)).alloc (.cells #[.map (some w.heap.size)] 69)) := by
  have e1 : (w.alloc (.map #[] 0)).heap.size = w.heap.size + 1 := by simp
  have h := heap_alloc_new (w.alloc (.map #[] 0)) (.cells #[.map (some w.heap.size)] 69)
  rw [e1] at h
  exact ⟨World.ownsRow_nil _ _ _ _, rfl, fun i _ _ h => by simp at h, ⟨h, (Mst.made w).next (below_alloc4 _ _)⟩, (below_alloc4 w _).trans ((below_alloc4 _ _).mono (below_alloc4 w _).size), Nat.le_refl _⟩
set_option maxRecDepth 1000000 in
set_option maxHeartbeats 1000000 in
theorem filled_any (w : World) (hO : Otb w) (v : Value) (l : List Tp) (hv : TSl w v l) (h64 : l.length ≤ 64) : Calls Tryz.prog 33 #[v] w fun e w' => e = .returned (.map (some w.heap.size)) ∧ Hid (∃ n k, Mst w' w.heap.size n (itr l (k + 1)) ∧ (itr l (k + 1)).length ≤ (itr l k).length ∧ Below w.heap.size w w') := by
  have HT := hide hO.c
  have HI := hide infoOw
  have HA : Hid (∀ w, (isAgg 73).run Tryz.prog w = .ok true w) := aggOw
  have hmax := hv.max
  have HV := hide hv
  obtain ⟨⟨a, cap, rfl, _, hform⟩, _⟩ := hv
  have HF := hide hform
  clear hform hO
  have hmm := @run_makeMap Tryz.prog
  have HX := hide (Flr.start w)
  have hb0 : Below w.heap.size w ((w.alloc (.map #[] 0)).alloc (.cells #[.map (some w.heap.size)] 69)) := HX.out.b
  have HT1 : Hid (∀ j u, ocs[j]? = some u → ((w.alloc (.map #[] 0)).alloc (.cells #[.map (some w.heap.size)] 69)).cell? ⟨0, 0 + j, none⟩ = some u) := fun j u hj => keep_below hb0 _ _ (HT.out j u hj)
  clear hb0 HT
  go_enter Tryz.func33, Tryz.ntmps33
  go_wp2_with (refine wpList_aggAt rfl rfl HI.out HA.out 0 0 ocs rfl rfl HT1.out ?_)
  clear HT1 HI HA hmm
  generalize (w.alloc (.map #[] 0)).alloc (.cells #[.map (some w.heap.size)] 69) = w1 at *
  have HOC : Hid (ocs = ocs) := rfl
  generalize hoc : ocs = OC at *
  have HOE := hide hoc
  clear hoc HOC
  go_loopw [15] (fun vi wx => ∃ i : Nat, i ≤ 9 ∧ vi = .int .i64 (i : Nat) ∧ Hid (Flr w (w.heap.size + 1) w.heap.size i (snf [] ((owns.map (·.1)).take i)) (.slice none 0 0) [] [] wx)) (fun vi _ => 9 - (intOf vi).toNat)
  case atStart => exact ⟨0, by omega, rfl, HX⟩
  case round =>
    obtain ⟨i, hi, rfl, HXi⟩ := hrel
    clear HX
    by_cases hlt : i < 9
    · as_aux_lemma =>
      have g1 : (i : Int) < 9 := by omega
      obtain ⟨⟨n, k⟩, hp⟩ : ∃ p, owns[i]? = some p := ⟨owns[i]'(by have := owns_len; omega), List.getElem?_eq_getElem _⟩
      have hb1 := below_alloc4 wr (.cells #[.string n, .int .i64 (k : Nat)] 72)
      have HX1 := hide (HXi.out.next hb1)
      have HM1 := hide HX1.out.s.m
      have HS := hide (own_size i n k hp)
      have HNI : Hid (i < 140737488351232) := by show _ < _; omega
      have q0 : (wr.alloc (.cells #[.string n, .int .i64 (k : Nat)] 72)).cell? ⟨w.heap.size + 1, 0, none⟩ = some (.map (some w.heap.size)) := blk_cell (j := 0) HX1.out.s.q rfl
      have HSN : Hid (snf [] ((owns.map (·.1)).take (i + 1)) = putL (snf [] ((owns.map (·.1)).take i)) n) := snf_succ [] _ i n (by rw [List.getElem?_map, hp]; rfl)
      have HEX : Hid (∀ (o : Oper) (a : Act) (x ix : Operand) (w : World), o.op = .index 73 x ix → a.eval x = .agg OC → a.eval ix = .int .i64 (i : Nat) → (execOp a.eval o).run Tryz.prog w = .ok (.value (.agg #[.string n, .int .i64 (k : Nat)])) w) := fun o a x ix w h1 h2 h3 => exec_own hp h1 (h2.trans (by rw [HOE.out])) h3
      clear hp hb1 HXi
      go_wp2_with (first
        | (refine wpList_ex rfl (HEX.out _ _ _ _ _ rfl rfl rfl) ?_)
        | (refine wpList_putS rfl rfl rfl rfl rfl HM1.out HS.out HNI.out ?_; intro w2 hm1 hk1))
      have HX2 : Hid (Flr w (w.heap.size + 1) w.heap.size (i + 1) (snf [] ((owns.map (·.1)).take (i + 1))) (.slice none 0 0) [] [] w2) := by
        show Flr _ _ _ _ _ _ _ _ _
        rw [HSN.out]
        exact HX1.out.put hk1 hm1
      clear hk1 hm1 HX1 HM1 q0
      go_wp2_with fail
      go_roundw
      case rel => exact ⟨i + 1, by omega, by go_num, HX2⟩
      case measure => simp [intOf]; omega
    · as_aux_lemma =>
      have g1 : ¬ (i : Int) < 9 := by omega
      have HX3 : Hid (Flr w (w.heap.size + 1) w.heap.size 9 onm (.slice none 0 0) [] [] wr) := by
        have e : i = 9 := by omega
        subst e
        exact HXi.out
      clear HXi hi hlt HOE
      go_wp2_with fail
      go_loopw [7, 26] (fun vo vi wx => ∃ (i : Nat) (a0 : Option Addr) (n0 c0 : Nat) (R : List (Array Value)), i ≤ l.length ∧ vo = .slice a0 n0 c0 ∧ vi = .int .i64 (i : Nat) ∧ Hid (Flr w (w.heap.size + 1) w.heap.size 9 onm (.slice a0 n0 c0) R (l.take i) wx)) (fun _ vi _ => l.length - (intOf vi).toNat)
      case atStart => exact ⟨0, none, 0, 0, [], by omega, rfl, rfl, HX3⟩
      case round =>
        obtain ⟨i, a0, n0, c0, R, hi, rfl, rfl, HXi⟩ := hrel
        clear HX3
        by_cases hlt : i < l.length
        · as_aux_lemma =>
          have g1 : (i : Int) < (l.length : Int) := by omega
          obtain ⟨t, ht⟩ : ∃ t, l[i]? = some t := ⟨l[i], List.getElem?_eq_getElem hlt⟩
          obtain ⟨b, off, rfl, hcc⟩ := HF.out.resolve_left (fun h => by rw [h] at hlt; simp at hlt)
          obtain ⟨c, hc, hcell⟩ := hcc i t ht
          have HC := hide hc
          obtain ⟨⟨vf, vc, vw, rfl, ⟨⟨af, cf, rfl, -, -⟩, -⟩, ⟨⟨ac, cc, rfl, -, -⟩, -⟩, ⟨⟨aw, cw, rfl, -, -⟩, -, -⟩⟩, -⟩ := hc
          unfold tpc at hcell HC
          have hbw : Below w.heap.size w wr := HXi.out.b
          have HCL : Hid (∀ j u, (#[.string t.n, .int .i64 t.k, .int .i64 t.lo, .int .i64 t.hi, .string t.r.n, .bool t.r.z, .slice af t.fs.length cf, .slice ac t.cs.length cc, .slice aw t.ws.length cw] : Array Value)[j]? = some u → wr.cell? ⟨b, off + i * 9 + j, none⟩ = some u) := fun j u hj => keep_below hbw _ _ (hcell j u hj)
          have hb2 := below_alloc4 wr (.cells #[.string t.n, .int .i64 t.k, .int .i64 t.lo, .int .i64 t.hi, .string t.r.n, .bool t.r.z, .slice af t.fs.length cf, .slice ac t.cs.length cc, .slice aw t.ws.length cw] 29)
          have HC2 : Hid (Tpi (wr.alloc (.cells #[.string t.n, .int .i64 t.k, .int .i64 t.lo, .int .i64 t.hi, .string t.r.n, .bool t.r.z, .slice af t.fs.length cf, .slice ac t.cs.length cc, .slice aw t.ws.length cw] 29)) t #[.string t.n, .int .i64 t.k, .int .i64 t.lo, .int .i64 t.hi, .string t.r.n, .bool t.r.z, .slice af t.fs.length cf, .slice ac t.cs.length cc, .slice aw t.ws.length cw]) := HC.out.move (keep_below (hbw.trans (hb2.mono hbw.size)))
          have HX2 := hide (HXi.out.next hb2)
          have HTC : Hid (∀ j u, (#[.string t.n, .int .i64 t.k, .int .i64 t.lo, .int .i64 t.hi, .string t.r.n, .bool t.r.z, .slice af t.fs.length cf, .slice ac t.cs.length cc, .slice aw t.ws.length cw] : Array Value)[j]? = some u → (wr.alloc (.cells #[.string t.n, .int .i64 t.k, .int .i64 t.lo, .int .i64 t.hi, .string t.r.n, .bool t.r.z, .slice af t.fs.length cf, .slice ac t.cs.length cc, .slice aw t.ws.length cw] 29)).cell? ⟨wr.heap.size, 0 + j, none⟩ = some u) := fun j u hu => by rw [Nat.zero_add]; exact blk_cell (heap_alloc_new wr _) hu
          have HTK := hide (takeP l i t ht)
          have HLL : Hid (R.length ≤ 1000000) := by
            have h1 := HXi.out.nn
            rw [List.length_take] at h1
            show _ ≤ _
            omega
          have HIT := hide infoTp
          have HAT : Hid (∀ w, (isAgg 29).run Tryz.prog w = .ok true w) := aggTp
          clear hcc hcell ht HXi HF hb2 hbw
          go_wp2_with (first
            | (refine wpList_aggAt rfl rfl HIT.out HAT.out b (off + i * 9) #[.string t.n, .int .i64 t.k, .int .i64 t.lo, .int .i64 t.hi, .string t.r.n, .bool t.r.z, .slice af t.fs.length cf, .slice ac t.cs.length cc, .slice aw t.ws.length cw] rfl rfl HCL.out ?_)
            | (refine wpList_aggAt rfl rfl HIT.out HAT.out wr.heap.size 0 #[.string t.n, .int .i64 t.k, .int .i64 t.lo, .int .i64 t.hi, .string t.r.n, .bool t.r.z, .slice af t.fs.length cf, .slice ac t.cs.length cc, .slice aw t.ws.length cw] rfl rfl HTC.out ?_))
          generalize wr.alloc (.cells #[.string t.n, .int .i64 t.k, .int .i64 t.lo, .int .i64 t.hi, .string t.r.n, .bool t.r.z, .slice af t.fs.length cf, .slice ac t.cs.length cc, .slice aw t.ws.length cw] 29) = w2 at *
          refine (rule_any (w.heap.size + 1) t _ w2 HC2.out).mono ?_
          rintro e w3 ⟨rfl, hP⟩
          have HP := hide (hP.out.1.rlc HC.out)
          have HX3 := hide (HX2.out.next hP.out.2)
          clear hP HCL HTC HC2 HC HX2
          generalize w2.heap.size = tb at *
          generalize tb + 1 + 1 = lv at *
          generalize tb + 1 = pb at *
          generalize hy : rlv t.k tb pb lv = y at *
          have HY := hide hy
          have hb4 := below_alloc4 w3 (.cells #[y] 32)
          have HX4 := hide (HX3.out.next hb4)
          have HP4 := hide (HP.out.next hb4)
          have HYC : Hid (y.cells = #[y]) := by show _ = _; rw [← hy]; exact rlv_cells _ _ _ _
          have HY1 : Hid (∀ u ∈ (#[y] : Array Value).toList, u.oneCell' = true) := fun u hu => by
            have e : u = y := by simpa using hu
            rw [e, ← hy]
            exact rlv_one _ _ _ _
          have HAL : Hid (w.heap.size ≤ (w3.alloc (.cells #[y] 32)).heap.size) := HX4.out.b.size
          have HAP : Hid (∀ (ops : Array Oper) (rest : List Oper) (o : Oper) (ac : Act) (Q : Exit → Act → World → Prop) (s x : Operand), o.guard = none → o.op = .call { callee := .builtin .append, args := #[s, x], argTypes := #[105, 105] } → ac.eval s = .slice a0 n0 c0 → ac.eval x = .slice (some ⟨w3.heap.size, 0, none⟩) 1 1 → (∀ v' w', Flr w (w.heap.size + 1) w.heap.size 9 onm v' (R ++ [#[y]]) (l.take (i + 1)) w' → wpList Tryz.prog ops Q rest (ac.put o.dst v') w') → wpList Tryz.prog ops Q (o :: rest) ac (w3.alloc (.cells #[y] 32))) := fun ops rest o ac Q s x h1 h2 h3 h4 h5 =>
            append_g infoFb Tryz.underlying105 rfl (by decide) (by decide) h1 h2 h3 HX4.out.o h4 (heap_alloc_new w3 _) rfl HY1.out HLL.out HAL.out (fun v' w' h6 h7 _ => h5 v' w' (by rw [HTK.out, ← HY.out]; rw [← HY.out] at h6; exact HX4.out.app h7 h6 HP4.out))
          clear hb4 hy HX3 HP
          go_wp2_with (first
            | (refine row1v infoFb Tryz.underlying105 (by decide) (by decide) rfl rfl rfl (c := #[y]) HYC.out rfl rfl ?_)
            | (refine HAP.out _ _ _ _ _ _ _ rfl rfl rfl rfl ?_; intro v' w' hr'))
          obtain ⟨a2, c2, hv0, _⟩ := own_formG hr'.o
          subst hv0
          have HR' := hide hr'
          clear hr' HAP HX4 HP4
          go_wp2_with fail
          go_roundw
          case rel => exact ⟨i + 1, _, _, _, _, by omega, rfl, by go_num, HR'⟩
          case measure => simp [intOf]; omega
        · as_aux_lemma =>
          have g1 : ¬ (i : Int) < (l.length : Int) := by omega
          have HX4 : Hid (Flr w (w.heap.size + 1) w.heap.size 9 onm (.slice a0 n0 c0) R l wr) := by have h := HXi.out; rw [List.take_of_length_le (by omega)] at h; exact h
          clear HXi hlt
          obtain ⟨hn0, hg0⟩ : n0 = l.length ∧ (0 < l.length → ∃ g, a0 = some ⟨g, 0, none⟩) := by
            obtain ⟨a2, c2, he, hg⟩ := own_formG HX4.out.o
            injection he with e1 e2 e3
            subst e1
            rw [HX4.out.nn] at e2 hg
            exact ⟨e2, hg⟩
          subst hn0
          have HG0 := hide hg0
          clear hg0
          go_wp2_with fail
          clear g1 hi
          go_loopw [10] (fun vb wx => ∃ (b k n : Nat), vb = .int .i64 (b : Nat) ∧ n ≤ 9 + k * 64 ∧ k ≤ b ∧ b ≤ 9 + l.length ∧ Hid ((b = 0 ∧ k = 0) ∨ ∃ k', k = k' + 1 ∧ b = (itr l k').length) ∧ Hid (Flr w (w.heap.size + 1) w.heap.size n (itr l k) (.slice a0 l.length c0) R l wx)) (fun vb _ => 9 + l.length + 1 - (intOf vb).toNat)
          case atStart => exact ⟨0, 0, 9, rfl, by omega, by omega, by omega, .inl ⟨rfl, rfl⟩, HX4⟩
          case round =>
            obtain ⟨b, k, n, rfl, hn, hkb, hb9, HBK, HXk⟩ := hrel
            clear HX4
            have HM := hide HXk.out.s.m
            have q0 : wr.cell? ⟨w.heap.size + 1, 0, none⟩ = some (.map (some w.heap.size)) := blk_cell (j := 0) HXk.out.s.q rfl
            have hle := itr_len l k HXk.out.s.m.1
            by_cases hlt : b < (itr l k).length
            · as_aux_lemma =>
              have g1 : (b : Int) < ((itr l k).length : Int) := by omega
              go_wp2_with (refine wpList_lenS rfl rfl rfl HM.out ?_)
              clear g1
              have HX0 : Hid (Flr w (w.heap.size + 1) w.heap.size n (pas (itr l k) (l.take 0)) (.slice a0 l.length c0) R l wr) := HXk.out
              clear HXk HM q0
              go_loopw [45] (fun vj wz => ∃ j n' : Nat, j ≤ l.length ∧ vj = .int .i64 (j : Nat) ∧ n' ≤ 9 + k * 64 + j ∧ Hid (Flr w (w.heap.size + 1) w.heap.size n' (pas (itr l k) (l.take j)) (.slice a0 l.length c0) R l wz)) (fun vj _ => l.length - (intOf vj).toNat)
              case atStart => exact ⟨0, n, by omega, rfl, by omega, HX0⟩
              case round =>
                obtain ⟨j, n', hj, rfl, hn', HXj⟩ := hrel
                clear HX0
                by_cases hjl : j < l.length
                · as_aux_lemma =>
                  have g2 : (j : Int) < (l.length : Int) := by omega
                  obtain ⟨t, ht⟩ : ∃ t, l[j]? = some t := ⟨l[j], List.getElem?_eq_getElem hjl⟩
                  obtain ⟨g, rfl⟩ := HG0.out (by omega)
                  obtain ⟨tb, p, lv, hcell, hr⟩ := HXj.out.cell ht
                  obtain ⟨c, hrb⟩ := hr.rlb HXj.out.b
                  obtain ⟨fn, caps, hfn, hent, hcall⟩ := rlv_calls hrb HXj.out.s
                  rw [hfn] at hcell
                  have HCA := hide hcall
                  obtain ⟨bt, off, rfl, hcc⟩ := HF.out.resolve_left (fun h => by rw [h] at hjl; simp at hjl)
                  obtain ⟨c2, hc2, hcl⟩ := hcc j t ht
                  have HTN := hide hc2.b.n
                  have hc0 : w.cell? ⟨bt, off + j * 9, none⟩ = some (.string t.n) := by
                    obtain ⟨⟨vf, vc, vw, rfl, _⟩, _⟩ := hc2
                    exact hcl 0 (.string t.n) rfl
                  have HC0 := hide hc0
                  have HPS := hide (pas_succ (itr l k) l j t ht)
                  have HN9 : Hid (n' < 140737488351232) := by
                    show _ < _
                    have : k ≤ 73 := by omega
                    omega
                  clear hr hrb hfn hcall hcc hc2 hcl hc0 ht HF
                  go_wp2_with fail
                  refine HCA.out.mono ?_
                  rintro e w5 ⟨rfl, hb5⟩
                  have HX5 := hide (HXj.out.next hb5)
                  clear hb5 HCA hcell HXj hent
                  have q5 : w5.cell? ⟨w.heap.size + 1, 0, none⟩ = some (.map (some w.heap.size)) := blk_cell (j := 0) HX5.out.s.q rfl
                  have c5 : w5.cell? ⟨bt, off + j * 9, none⟩ = some (.string t.n) := keep_below HX5.out.b _ _ HC0.out
                  have HM5 := hide HX5.out.s.m
                  rcases Bool.eq_false_or_eq_true (rulb (pas (itr l k) (l.take j)) t) with hru | hru
                  · have HPE : Hid (pas (itr l k) (l.take (j + 1)) = putL (pas (itr l k) (l.take j)) t.n) := by
                      show _ = _
                      rw [HPS.out]
                      unfold pas1
                      rw [if_pos hru]
                    rw [hru]
                    clear hru HPS
                    have hmd : Mst w5.drew w.heap.size n' (pas (itr l k) (l.take j)) := HM5.out.block rfl
                    obtain ⟨w6, hrun6, hm6, hk6d⟩ := hmd.put HTN.out HN9.out
                    have hk6 : Kp (fun q => q = w.heap.size) w5 w6 := (Kp.refl _ w5).drew.trans hk6d (fun _ _ h => h)
                    clear hmd hk6d
                    go_wp2_with fail
                    go_region
                    have HX6 : Hid (Flr w (w.heap.size + 1) w.heap.size (n' + 1) (pas (itr l k) (l.take (j + 1))) (.slice (some ⟨g, 0, none⟩) l.length c0) R l w6) := by
                      show Flr _ _ _ _ _ _ _ _ _
                      rw [HPE.out]
                      exact HX5.out.put hk6 hm6
                    clear hk6 hm6 HX5 HM5 q5 c5
                    go_wp2_with fail
                    go_roundw
                    case rel => exact ⟨j + 1, n' + 1, by omega, by go_num, by omega, HX6⟩
                    case measure => simp [intOf]; omega
                  · have HX6 : Hid (Flr w (w.heap.size + 1) w.heap.size n' (pas (itr l k) (l.take (j + 1))) (.slice (some ⟨g, 0, none⟩) l.length c0) R l w5) := by
                      show Flr _ _ _ _ _ _ _ _ _
                      rw [HPS.out]
                      unfold pas1
                      rw [hru, if_neg (by decide)]
                      exact HX5.out
                    rw [hru]
                    clear hru HPS HX5 HM5 q5 c5
                    go_wp2_with fail
                    go_roundw
                    case rel => exact ⟨j + 1, n', by omega, by go_num, by omega, HX6⟩
                    case measure => simp [intOf]; omega
                · as_aux_lemma =>
                  have g2 : ¬ (j : Int) < (l.length : Int) := by omega
                  have HX7 : Hid (Flr w (w.heap.size + 1) w.heap.size n' (itr l (k + 1)) (.slice a0 l.length c0) R l wr) := by
                    have h := HXj.out
                    rw [List.take_of_length_le (by omega)] at h
                    exact h
                  clear HXj HF
                  go_wp2_with fail
                  go_roundw
                  case rel => exact ⟨(itr l k).length, k + 1, n', rfl, by omega, by omega, by omega, .inr ⟨k, rfl, rfl⟩, HX7⟩
                  case measure => simp [intOf]; omega
            · as_aux_lemma =>
              have g1 : ¬ (b : Int) < ((itr l k).length : Int) := by omega
              have HE : Hid (∃ k', k = k' + 1 ∧ (itr l (k' + 1)).length ≤ (itr l k').length) := by
                rcases HBK.out with ⟨h1, h2⟩ | ⟨k', h1, h2⟩
                · exfalso
                  subst h2
                  have := onm_len
                  have e : itr l 0 = onm := rfl
                  rw [e] at hlt
                  omega
                · subst h1
                  exact ⟨k', rfl, by omega⟩
              clear HBK hlt hkb
              go_wp2_with (refine wpList_lenS rfl rfl rfl HM.out ?_)
              go_ret
              obtain ⟨k', hk', hle'⟩ := HE.out
              subst hk'
              exact ⟨rfl, n, k', HM.out, hle', HXk.out.b⟩
end
section
open Go.RowKit Go
theorem putL_len (L : List ByteArray) (s : ByteArray) : L.length ≤ (putL L s).length := by
  unfold putL
  split
  · exact Nat.le_refl _
  · rw [List.length_cons]; omega
theorem putL_same {L : List ByteArray} {s : ByteArray} (h : (putL L s).length ≤ L.length) : putL L s = L ∧ s ∈ L := by
  unfold putL at *
  split at h
  · next hm => exact ⟨by rw [if_pos hm], memb_iff.1 hm⟩
  · rw [List.length_cons] at h; omega
theorem pas1_len (L : List ByteArray) (t : Tp) : L.length ≤ (pas1 L t).length := by
  unfold pas1
  split
  · exact putL_len L t.n
  · exact Nat.le_refl _
theorem pas_len : ∀ (ts : List Tp) (L : List ByteArray), L.length ≤ (pas L ts).length
  | [], _ => Nat.le_refl _
  | t :: r, L => Nat.le_trans (pas1_len L t) (pas_len r (pas1 L t))
theorem pas1_same {L : List ByteArray} {t : Tp} (h : (pas1 L t).length ≤ L.length) : pas1 L t = L ∧ (rulb L t = true → t.n ∈ L) := by
  unfold pas1 at *
  split at h
  · next hr =>
    have h2 := putL_same h
    exact ⟨by rw [if_pos hr]; exact h2.1, fun _ => h2.2⟩
  · next hr => exact ⟨by rw [if_neg hr], fun e => absurd e hr⟩
/-- Where a pass brings nothing more, every rule that holds has its name there. -/
theorem pas_same : ∀ (ts : List Tp) (L : List ByteArray), (pas L ts).length ≤ L.length → pas L ts = L ∧ ∀ t ∈ ts, rulb L t = true → t.n ∈ L
  | [], _, _ => ⟨rfl, fun _ h => by simp at h⟩
  | t :: r, L, h => by
    have h1 : (pas1 L t).length ≤ L.length := Nat.le_trans (pas_len r (pas1 L t)) h
    obtain ⟨e1, h2⟩ := pas1_same h1
    have e : pas L (t :: r) = pas (pas1 L t) r := rfl
    rw [e, e1] at h
    obtain ⟨e3, h4⟩ := pas_same r L h
    refine ⟨by rw [e, e1]; exact e3, fun u hu => ?_⟩
    rcases List.mem_cons.1 hu with rfl | hu
    · exact h2
    · exact h4 u hu
/-- What filled tells, closed: the last pass brought nothing. -/
theorem itr_closed (l : List Tp) (k : Nat) (h : (itr l (k + 1)).length ≤ (itr l k).length) : itr l (k + 1) = itr l k ∧ ∀ t ∈ l, rulb (itr l (k + 1)) t = true → t.n ∈ itr l (k + 1) := by
  obtain ⟨e, h2⟩ := pas_same l (itr l k) h
  have e' : itr l (k + 1) = itr l k := e
  rw [e']
  exact ⟨rfl, h2⟩
/-- More names, more rules. -/
theorem lck_mono {L M : List ByteArray} (hs : ∀ x ∈ L, x ∈ M) {r : Rf} (h : lck L r = false) : lck M r = false := by
  unfold lck at *
  cases hz : r.z with
  | true => rfl
  | false =>
    rw [hz] at h
    have hm : memb L r.n = true := by simpa using h
    have := memb_iff.2 (hs _ (memb_iff.1 hm))
    rw [this]
    rfl
theorem rulb_mono {L M : List ByteArray} (hs : ∀ x ∈ L, x ∈ M) {t : Tp} (h : rulb L t = true) : rulb M t = true := by
  unfold rulb at *
  split
  · next k1 =>
    rw [if_pos k1] at h
    have h1 : lck L t.r = false := by simpa using h
    rw [lck_mono hs h1]
    rfl
  next k1 =>
  rw [if_neg k1] at h
  split
  · next k3 =>
    rw [if_pos k3] at h
    rcases Bool.or_eq_true_iff.1 h with h | h
    · rw [h]; rfl
    · have h1 : lck L t.r = false := by simpa using h
      rw [lck_mono hs h1]
      simp
  next k3 =>
  rw [if_neg k3] at h
  split
  · next k5 =>
    rw [if_pos k5] at h
    have h1 : (t.fs.any fun f => !f.m && lck L f.r) = false := by simpa using h
    have h2 : (t.fs.any fun f => !f.m && lck M f.r) = false := by
      rw [List.any_eq_false] at h1 ⊢
      intro f hf he
      refine h1 f hf ?_
      cases hm : f.m with
      | true => rw [hm] at he; simp at he
      | false =>
        rw [hm] at he
        cases hl : lck L f.r with
        | true => rfl
        | false => rw [lck_mono hs hl] at he; simp at he
    rw [h2]
    rfl
  next k5 =>
  rw [if_neg k5] at h
  split
  · next k7 =>
    rw [if_pos k7] at h
    rw [List.any_eq_true] at h ⊢
    obtain ⟨c, hc, hm⟩ := h
    exact ⟨c, hc, memb_iff.2 (hs _ (memb_iff.1 hm))⟩
  · rfl
/-- What filled tells, least: within every set of names that has the built-in ones and is closed. -/
theorem pas_least {M : List ByteArray} : ∀ (ts : List Tp) (L : List ByteArray), (∀ x ∈ L, x ∈ M) → (∀ t ∈ ts, rulb M t = true → t.n ∈ M) → ∀ x ∈ pas L ts, x ∈ M
  | [], _, h, _ => h
  | t :: r, L, h, hc => by
    refine pas_least r (pas1 L t) (fun x hx => ?_) (fun u hu => hc u (List.mem_cons_of_mem _ hu))
    unfold pas1 at hx
    split at hx
    · next hr =>
      rcases putL_mem.1 hx with rfl | hx
      · exact hc t List.mem_cons_self (rulb_mono h hr)
      · exact h x hx
    · exact h x hx
theorem itr_least (l : List Tp) {M : List ByteArray} (h0 : ∀ x ∈ onm, x ∈ M) (hc : ∀ t ∈ l, rulb M t = true → t.n ∈ M) : ∀ k, ∀ x ∈ itr l k, x ∈ M
  | 0 => h0
  | k + 1 => pas_least l (itr l k) (itr_least l h0 hc k) hc
end
end Go.Proofs.YtagkogpjckjobaaGreatDoor

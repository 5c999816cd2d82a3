import Derived.Test.YtbbalhfjgpaabaaGreatDoorJc
import Derived.Test.YtbbalhfjgpaabaaGreatDoorJd
namespace Go.Proofs.YtbbalhfjgpaabaaGreatDoor
section
open Go.RowKit Go
structure Frs (w : World) (tc : Array Value) (wx : World) : Prop where
  a : wx.heap[w.heap.size]? = some (.cells tc 69 (0, 0))
  r : wx.heap[w.heap.size + 1]? = some (.cells #[.string ⟨#[]⟩, .int .i64 0, .int .i64 0, .int .i64 0, .string ⟨#[]⟩, .bool false, .slice none 0 0, .slice none 0 0, .slice none 0 0] 69 (0, 0))
  b : Below w.heap.size w wx
theorem Frs.start (w : World) (tc : Array Value) : Frs w tc ((w.alloc (.cells tc 69)).alloc (.cells #[.string ⟨#[]⟩, .int .i64 0, .int .i64 0, .int .i64 0, .string ⟨#[]⟩, .bool false, .slice none 0 0, .slice none 0 0, .slice none 0 0] 69)) := by
  have h1 := heap_alloc_new w (.cells tc 69)
  have e1 : (w.alloc (.cells tc 69)).heap.size = w.heap.size + 1 := by simp
  have h2 := heap_alloc_new (w.alloc (.cells tc 69)) (.cells #[.string ⟨#[]⟩, .int .i64 0, .int .i64 0, .int .i64 0, .string ⟨#[]⟩, .bool false, .slice none 0 0, .slice none 0 0, .slice none 0 0] 69)
  rw [e1] at h2
  exact ⟨blk_alloc _ h1, h2, (below_alloc4 w _).trans ((below_alloc4 _ _).mono (below_alloc4 w _).size)⟩
theorem Frs.next {w wx wy : World} {tc : Array Value} (h : Frs w tc wx) (hb : Below wx.heap.size wx wy) : Frs w tc wy := ⟨(hb.block _ (blk_lt h.a)).trans h.a, (hb.block _ (blk_lt h.r)).trans h.r, h.b.trans (hb.mono h.b.size)⟩
theorem Frs.set {w wx : World} {tc : Array Value} (h : Frs w tc wx) (j : Nat) (v : Value) : Frs w (tc.setIfInBounds j v) (wx.setCell ⟨w.heap.size, j, none⟩ v) := ⟨blk_set j v h.a, blk_other j v h.r (by omega), h.b.trans (((Kp.refl (fun q => q = w.heap.size) wx).setCell _ _ (fun _ => rfl)).below h.b.size (fun q e => by omega))⟩
theorem Frs.kp {w wx : World} {tc : Array Value} (_ : Frs w tc wx) (j : Nat) (v : Value) : Kp (fun q => q = w.heap.size) wx (wx.setCell ⟨w.heap.size, j, none⟩ v) := (Kp.refl (fun q => q = w.heap.size) wx).setCell _ _ (fun _ => rfl)
theorem GSl.kpb {α : Type} {n : Nat} {P : World → α → Array Value → Prop} {w w' : World} {v : Value} {xs : List α} {q0 : Nat} (h : GSl n P w v xs) (hP : ∀ x c, P w x c → P w' x c) (hk : Kp (fun q => q = q0) w w') (hq : v.ownBlock ≠ some q0) : GSl n P w' v xs := by
  obtain ⟨⟨a, cap, hv, hn, hc⟩, h1⟩ := h
  refine ⟨⟨a, cap, hv, hn, ?_⟩, h1⟩
  rcases hc with hc | ⟨b, off, ha, hc⟩
  · exact .inl hc
  · refine .inr ⟨b, off, ha, fun i x hi => ?_⟩
    obtain ⟨c, h2, h3⟩ := hc i x hi
    refine ⟨c, hP x c h2, fun j u hj => hk.cell (h3 j u hj) (fun e => hq ?_)⟩
    have e' : b = q0 := e
    rw [hv, ha, e']
    rfl
theorem FSl.kpb {w w' : World} {v : Value} {xs : List Fd} {q0 : Nat} (h : FSl w v xs) (hk : Kp (fun q => q = q0) w w') (hq : v.ownBlock ≠ some q0) : FSl w' v xs := GSl.kpb (w' := w') h (fun _ _ h => h) hk hq
theorem CSl.kpb {w w' : World} {v : Value} {xs : List Cz} {q0 : Nat} (h : CSl w v xs) (hk : Kp (fun q => q = q0) w w') (hq : v.ownBlock ≠ some q0) : CSl w' v xs := GSl.kpb (w' := w') h (fun _ _ h => h) hk hq
theorem SSl.kpb {w w' : World} {v : Value} {ks : List ByteArray} {q0 : Nat} (h : SSl w v ks) (hk : Kp (fun q => q = q0) w w') (hq : v.ownBlock ≠ some q0) : SSl w' v ks := by
  obtain ⟨⟨a, cap, hv, hn, hc⟩, h1, h2⟩ := h
  refine ⟨⟨a, cap, hv, hn, ?_⟩, h1, h2⟩
  rcases hc with hc | ⟨b, off, ha, hc⟩
  · exact .inl hc
  · refine .inr ⟨b, off, ha, fun j s hj => hk.cell (hc j s hj) (fun e => hq ?_)⟩
    have e' : b = q0 := e
    rw [hv, ha, e']
    rfl
theorem GSl.kps {α : Type} {n : Nat} {P : World → α → Array Value → Prop} {w w' : World} {v : Value} {xs : List α} {S : Nat → Prop} (h : GSl n P w v xs) (hP : ∀ x c, P w x c → P w' x c) (hk : Kp S w w') (hq : ∀ q, v.ownBlock = some q → ¬ S q) : GSl n P w' v xs := by
  obtain ⟨⟨a, cap, hv, hn, hc⟩, h1⟩ := h
  refine ⟨⟨a, cap, hv, hn, ?_⟩, h1⟩
  rcases hc with hc | ⟨b, off, ha, hc⟩
  · exact .inl hc
  · refine .inr ⟨b, off, ha, fun i x hi => ?_⟩
    obtain ⟨c, h2, h3⟩ := hc i x hi
    refine ⟨c, hP x c h2, fun j u hj => hk.cell (h3 j u hj) (hq b ?_)⟩
    rw [hv, ha]
    rfl
theorem FSl.kps {w w' : World} {v : Value} {xs : List Fd} {S : Nat → Prop} (h : FSl w v xs) (hk : Kp S w w') (hq : ∀ q, v.ownBlock = some q → ¬ S q) : FSl w' v xs := GSl.kps (w' := w') h (fun _ _ h => h) hk hq
theorem CSl.kps {w w' : World} {v : Value} {xs : List Cz} {S : Nat → Prop} (h : CSl w v xs) (hk : Kp S w w') (hq : ∀ q, v.ownBlock = some q → ¬ S q) : CSl w' v xs := GSl.kps (w' := w') h (fun _ _ h => h) hk hq
theorem SSl.kps {w w' : World} {v : Value} {ks : List ByteArray} {S : Nat → Prop} (h : SSl w v ks) (hk : Kp S w w') (hq : ∀ q, v.ownBlock = some q → ¬ S q) : SSl w' v ks := by
  obtain ⟨⟨a, cap, hv, hn, hc⟩, h1, h2⟩ := h
  refine ⟨⟨a, cap, hv, hn, ?_⟩, h1, h2⟩
  rcases hc with hc | ⟨b, off, ha, hc⟩
  · exact .inl hc
  · refine .inr ⟨b, off, ha, fun j s hj => hk.cell (hc j s hj) (hq b ?_)⟩
    rw [hv, ha]
    rfl
structure Tyo (w : World) (base : Nat) (D : Nat → Prop) (c : Array Value) : Prop where
  e : ∃ (t : Tp) (vf vc vw : Value) (nf nc nw : Nat) (xf xc xw : List Value), c = tpc t vf vc vw ∧ w.ownsRow base 104 5 vf nf xf ∧ w.ownsRow base 114 2 vc nc xc ∧ w.ownsRow base 9 1 vw nw xw ∧ nf < 68719476736 ∧ nc < 68719476736 ∧ nw < 68719476736 ∧ (∀ q, vf.ownBlock = some q → D q) ∧ (∀ q, vc.ownBlock = some q → D q) ∧ (∀ q, vw.ownBlock = some q → D q)
theorem own_rebase {w : World} {b B : Nat} {e : TypeId} {s : Nat} {v : Value} {n : Nat} {xs : List Value} (h : w.ownsRow b e s v n xs) (hq : ∀ q, v.ownBlock = some q → B ≤ q) : w.ownsRow B e s v n xs := by
  refine ⟨h.1, ?_⟩
  rcases h.2 with hn | ⟨g, cap, cur, hv, hb, rest⟩
  · exact .inl hn
  · exact .inr ⟨g, cap, cur, hv, hq g (by rw [hv]; rfl), rest⟩
theorem own_long {w : World} {b : Nat} {e : TypeId} {s : Nat} {a : Option Addr} {m c n : Nat} {xs : List Value} (h : w.ownsRow b e s (.slice a m c) n xs) : n = m := by
  rcases h.2 with ⟨hv, hn⟩ | ⟨g, cap, cur, hv, _⟩
  · injection hv with _ h1 _; omega
  · injection hv with _ h1 _; omega
structure FSo (w : World) (v : Value) (xs : List Fd) : Prop where
  s : FSl w v xs
  o : ∃ b n ys, w.ownsRow b 104 5 v n ys
theorem FSo.mv {w w' : World} {v : Value} {xs : List Fd} (h : FSo w v xs) (hb : Below w.heap.size w w') : FSo w' v xs := by
  obtain ⟨b, n, ys, ho⟩ := h.o
  exact ⟨h.s.mv (keep_below hb), b, n, ys, (Kp.of_below (S := fun _ => False) hb).owns ho (fun _ _ e => e)⟩
theorem FSo.kpb {w w' : World} {v : Value} {xs : List Fd} {q0 : Nat} (h : FSo w v xs) (hk : Kp (fun q => q = q0) w w') (hq : v.ownBlock ≠ some q0) : FSo w' v xs := by
  obtain ⟨b, n, ys, ho⟩ := h.o
  exact ⟨h.s.kpb hk hq, b, n, ys, hk.owns ho (fun q e h => hq (by rw [e]; exact congrArg some h))⟩
structure CSo (w : World) (v : Value) (xs : List Cz) : Prop where
  s : CSl w v xs
  o : ∃ b n ys, w.ownsRow b 114 2 v n ys
theorem CSo.mv {w w' : World} {v : Value} {xs : List Cz} (h : CSo w v xs) (hb : Below w.heap.size w w') : CSo w' v xs := by
  obtain ⟨b, n, ys, ho⟩ := h.o
  exact ⟨h.s.mv (keep_below hb), b, n, ys, (Kp.of_below (S := fun _ => False) hb).owns ho (fun _ _ e => e)⟩
theorem CSo.kpb {w w' : World} {v : Value} {xs : List Cz} {q0 : Nat} (h : CSo w v xs) (hk : Kp (fun q => q = q0) w w') (hq : v.ownBlock ≠ some q0) : CSo w' v xs := by
  obtain ⟨b, n, ys, ho⟩ := h.o
  exact ⟨h.s.kpb hk hq, b, n, ys, hk.owns ho (fun q e h => hq (by rw [e]; exact congrArg some h))⟩
structure SSo (w : World) (v : Value) (xs : List ByteArray) : Prop where
  s : SSl w v xs
  o : ∃ b n ys, w.ownsRow b 9 1 v n ys
theorem SSo.kpb {w w' : World} {v : Value} {xs : List ByteArray} {q0 : Nat} (h : SSo w v xs) (hk : Kp (fun q => q = q0) w w') (hq : v.ownBlock ≠ some q0) : SSo w' v xs := by
  obtain ⟨b, n, ys, ho⟩ := h.o
  exact ⟨h.s.kpb hk hq, b, n, ys, hk.owns ho (fun q e h => hq (by rw [e]; exact congrArg some h))⟩
set_option maxRecDepth 1000000 in
set_option maxHeartbeats 1000000 in
theorem copiedFo_any (w : World) (v : Value) (xs : List Fd) (hv : FSl w v xs) (hn : xs.length ≤ 1000000) : Calls Tryz.prog 48 #[v] w fun e w' => ∃ v', e = .returned v' ∧ Hid (FSo w' v' xs ∧ Below w.heap.size w w' ∧ ∀ q, v'.ownBlock = some q → w.heap.size ≤ q) := by
  have HV := hide hv
  obtain ⟨⟨a, cap, rfl, hcap, hform⟩, hmax⟩ := hv
  have HN := hide hn
  have HC : Hid ((xs.map fdc) = [] ∨ ∃ b off, a = some ⟨b, off, none⟩ ∧ ∀ (i : Nat) (d : Array Value), (xs.map fdc)[i]? = some d → ∀ j u, d[j]? = some u → w.cell? ⟨b, off + i * 5 + j, none⟩ = some u) := by
    rcases hform with h | ⟨b, off, e, h⟩
    · exact .inl (by rw [h]; rfl)
    · refine .inr ⟨b, off, e, fun i d hd j u hu => ?_⟩
      rw [List.getElem?_map] at hd
      cases hx : xs[i]? with
      | none => rw [hx] at hd; cases hd
      | some x =>
        rw [hx] at hd
        injection hd with hd
        subst hd
        obtain ⟨c, ⟨hcx, _⟩, hcell⟩ := h i x hx
        subst hcx
        exact hcell j u hu
  have HL : Hid (∀ c ∈ xs.map fdc, c.size = 5) := fun c hc => by obtain ⟨x, _, rfl⟩ := List.mem_map.1 hc; rfl
  have H1 : Hid (∀ u ∈ gfl (xs.map fdc), u.oneCell' = true) := fun u hu => by
    obtain ⟨c, hc, hu⟩ := List.mem_flatMap.1 hu
    obtain ⟨x, _, rfl⟩ := List.mem_map.1 hc
    simp only [fdc, List.mem_cons, List.not_mem_nil, or_false] at hu
    rcases hu with rfl | rfl | rfl | rfl | rfl <;> rfl
  have HC0 := hide hcap.2
  have HLE : Hid ((xs.map fdc).length = xs.length) := by show _ = _; rw [List.length_map]
  have HAP : Hid (∀ (ops : Array Oper) (rest : List Oper) (o : Oper) (ac : Act) (Q : Exit → Act → World → Prop) (s y : Operand), o.guard = none → o.op = .call { callee := .builtin .append, args := #[s, y], argTypes := #[66, 66] } → ac.eval s = .slice none 0 0 → ac.eval y = .slice a xs.length cap → (∀ v' w', w'.ownsRow w.heap.size 104 5 v' (xs.map fdc).length (gfl (xs.map fdc)) → Below w.heap.size w w' → wpList Tryz.prog ops Q rest (ac.put o.dst v') w') → wpList Tryz.prog ops Q (o :: rest) ac w) := fun ops rest o ac Q s y h1 h2 h3 h4 h5 => append_all infoF3 Tryz.underlying66 rfl (by decide) (by decide) h1 h2 h3 (by rw [HLE.out]; exact h4) HL.out H1.out (by rw [HLE.out]; exact HN.out) HC0.out HC.out h5
  clear hform hcap hn
  go_enter Tryz.func48, Tryz.ntmps48
  go_wp2_with (refine HAP.out _ _ _ _ _ _ _ rfl rfl rfl rfl ?_; intro v' w' ho hb)
  go_ret
  refine ⟨_, rfl, ⟨?_, _, _, _, ho⟩, hb, fun q e => (ho.lt q e).1⟩
  exact own_gsl (xs := xs) ho HL.out HLE.out HV.out.max (fun i x c hx hc => by
    rw [List.getElem?_map, hx] at hc
    injection hc with hc
    subst hc
    rcases HV.out.form with ⟨_, _, _, _, h | ⟨b, off, _, h⟩⟩
    · rw [h] at hx; cases hx
    · obtain ⟨c', hP, _⟩ := h i x hx
      exact ⟨rfl, hP.2⟩)
set_option maxRecDepth 1000000 in
set_option maxHeartbeats 1000000 in
theorem copiedCo_any (w : World) (v : Value) (xs : List Cz) (hv : CSl w v xs) (hn : xs.length ≤ 1000000) : Calls Tryz.prog 49 #[v] w fun e w' => ∃ v', e = .returned v' ∧ Hid (CSo w' v' xs ∧ Below w.heap.size w w' ∧ ∀ q, v'.ownBlock = some q → w.heap.size ≤ q) := by
  have HV := hide hv
  obtain ⟨⟨a, cap, rfl, hcap, hform⟩, hmax⟩ := hv
  have HN := hide hn
  have HC : Hid ((xs.map czc) = [] ∨ ∃ b off, a = some ⟨b, off, none⟩ ∧ ∀ (i : Nat) (d : Array Value), (xs.map czc)[i]? = some d → ∀ j u, d[j]? = some u → w.cell? ⟨b, off + i * 2 + j, none⟩ = some u) := by
    rcases hform with h | ⟨b, off, e, h⟩
    · exact .inl (by rw [h]; rfl)
    · refine .inr ⟨b, off, e, fun i d hd j u hu => ?_⟩
      rw [List.getElem?_map] at hd
      cases hx : xs[i]? with
      | none => rw [hx] at hd; cases hd
      | some x =>
        rw [hx] at hd
        injection hd with hd
        subst hd
        obtain ⟨c, ⟨hcx, _⟩, hcell⟩ := h i x hx
        subst hcx
        exact hcell j u hu
  have HL : Hid (∀ c ∈ xs.map czc, c.size = 2) := fun c hc => by obtain ⟨x, _, rfl⟩ := List.mem_map.1 hc; rfl
  have H1 : Hid (∀ u ∈ gfl (xs.map czc), u.oneCell' = true) := fun u hu => by
    obtain ⟨c, hc, hu⟩ := List.mem_flatMap.1 hu
    obtain ⟨x, _, rfl⟩ := List.mem_map.1 hc
    simp only [czc, List.mem_cons, List.not_mem_nil, or_false] at hu
    rcases hu with rfl | rfl <;> rfl
  have HC0 := hide hcap.2
  have HLE : Hid ((xs.map czc).length = xs.length) := by show _ = _; rw [List.length_map]
  have HAP : Hid (∀ (ops : Array Oper) (rest : List Oper) (o : Oper) (ac : Act) (Q : Exit → Act → World → Prop) (s y : Operand), o.guard = none → o.op = .call { callee := .builtin .append, args := #[s, y], argTypes := #[67, 67] } → ac.eval s = .slice none 0 0 → ac.eval y = .slice a xs.length cap → (∀ v' w', w'.ownsRow w.heap.size 114 2 v' (xs.map czc).length (gfl (xs.map czc)) → Below w.heap.size w w' → wpList Tryz.prog ops Q rest (ac.put o.dst v') w') → wpList Tryz.prog ops Q (o :: rest) ac w) := fun ops rest o ac Q s y h1 h2 h3 h4 h5 => append_all infoC3 Tryz.underlying67 rfl (by decide) (by decide) h1 h2 h3 (by rw [HLE.out]; exact h4) HL.out H1.out (by rw [HLE.out]; exact HN.out) HC0.out HC.out h5
  clear hform hcap hn
  go_enter Tryz.func49, Tryz.ntmps49
  go_wp2_with (refine HAP.out _ _ _ _ _ _ _ rfl rfl rfl rfl ?_; intro v' w' ho hb)
  go_ret
  refine ⟨_, rfl, ⟨?_, _, _, _, ho⟩, hb, fun q e => (ho.lt q e).1⟩
  exact own_gsl (xs := xs) ho HL.out HLE.out HV.out.max (fun i x c hx hc => by
    rw [List.getElem?_map, hx] at hc
    injection hc with hc
    subst hc
    rcases HV.out.form with ⟨_, _, _, _, h | ⟨b, off, _, h⟩⟩
    · rw [h] at hx; cases hx
    · obtain ⟨c', hP, _⟩ := h i x hx
      exact ⟨rfl, hP.2⟩)
set_option maxRecDepth 1000000 in
set_option maxHeartbeats 1000000 in
theorem copiedSo_any (w : World) (v : Value) (xs : List ByteArray) (hv : SSl w v xs) (hn : xs.length ≤ 1000000) : Calls Tryz.prog 50 #[v] w fun e w' => ∃ v', e = .returned v' ∧ Hid (SSo w' v' xs ∧ Below w.heap.size w w' ∧ ∀ q, v'.ownBlock = some q → w.heap.size ≤ q) := by
  have HV := hide hv
  obtain ⟨⟨a, cap, rfl, hcap, hform⟩, hmax, _⟩ := hv
  have HN := hide hn
  have HC : Hid ((xs.map (fun s => #[Value.string s])) = [] ∨ ∃ b off, a = some ⟨b, off, none⟩ ∧ ∀ (i : Nat) (d : Array Value), (xs.map (fun s => #[Value.string s]))[i]? = some d → ∀ j u, d[j]? = some u → w.cell? ⟨b, off + i * 1 + j, none⟩ = some u) := by
    rcases hform with h | ⟨b, off, e, h⟩
    · exact .inl (by rw [h]; rfl)
    · refine .inr ⟨b, off, e, fun i d hd j u hu => ?_⟩
      rw [List.getElem?_map] at hd
      cases hx : xs[i]? with
      | none => rw [hx] at hd; cases hd
      | some x =>
        rw [hx] at hd
        injection hd with hd
        subst hd
        rcases j with _ | j
        · have e1 : u = .string x := by simpa using hu.symm
          subst e1
          rw [Nat.mul_one, Nat.add_zero]
          exact h i x hx
        · simp at hu
  have HL : Hid (∀ c ∈ xs.map (fun s => #[Value.string s]), c.size = 1) := fun c hc => by obtain ⟨x, _, rfl⟩ := List.mem_map.1 hc; rfl
  have H1 : Hid (∀ u ∈ gfl (xs.map (fun s => #[Value.string s])), u.oneCell' = true) := fun u hu => by
    obtain ⟨c, hc, hu⟩ := List.mem_flatMap.1 hu
    obtain ⟨x, _, rfl⟩ := List.mem_map.1 hc
    simp only [List.mem_cons, List.not_mem_nil, or_false] at hu
    rw [hu]; rfl
  have HC0 := hide hcap.2
  have HLE : Hid ((xs.map (fun s => #[Value.string s])).length = xs.length) := by show _ = _; rw [List.length_map]
  have HAP : Hid (∀ (ops : Array Oper) (rest : List Oper) (o : Oper) (ac : Act) (Q : Exit → Act → World → Prop) (s y : Operand), o.guard = none → o.op = .call { callee := .builtin .append, args := #[s, y], argTypes := #[23, 23] } → ac.eval s = .slice none 0 0 → ac.eval y = .slice a xs.length cap → (∀ v' w', w'.ownsRow w.heap.size 9 1 v' (xs.map (fun s => #[Value.string s])).length (gfl (xs.map (fun s => #[Value.string s]))) → Below w.heap.size w w' → wpList Tryz.prog ops Q rest (ac.put o.dst v') w') → wpList Tryz.prog ops Q (o :: rest) ac w) := fun ops rest o ac Q s y h1 h2 h3 h4 h5 => append_all infoS3 Tryz.underlying23 rfl (by decide) (by decide) h1 h2 h3 (by rw [HLE.out]; exact h4) HL.out H1.out (by rw [HLE.out]; exact HN.out) HC0.out HC.out h5
  clear hform hcap hn
  go_enter Tryz.func50, Tryz.ntmps50
  go_wp2_with (refine HAP.out _ _ _ _ _ _ _ rfl rfl rfl rfl ?_; intro v' w' ho hb)
  go_ret
  refine ⟨_, rfl, ⟨?_, _, _, _, ho⟩, hb, fun q e => (ho.lt q e).1⟩
  have hg := own_gsl (P := fun _ s c => c = #[Value.string s]) (xs := xs) ho HL.out HLE.out HV.out.max (fun i x c hx hc => by
    rw [List.getElem?_map, hx] at hc
    injection hc with hc
    exact hc.symm)
  obtain ⟨⟨a', cap', hv', hc', hf'⟩, hm'⟩ := hg
  refine ⟨⟨a', cap', hv', hc', ?_⟩, hm', HV.out.size⟩
  rcases hf' with h | ⟨b, off, e, h⟩
  · exact .inl h
  · refine .inr ⟨b, off, e, fun j s hs => ?_⟩
    obtain ⟨c, rfl, hcell⟩ := h j s hs
    have := hcell 0 (.string s) rfl
    rw [Nat.mul_one, Nat.add_zero] at this
    exact this
set_option maxRecDepth 1000000 in
set_option maxHeartbeats 4000000 in
theorem fresho_any (w : World) (t : Tp) (c : Array Value) (hc : Tpi w t c) (hf1 : t.fs.length ≤ 1000) (hc1 : t.cs.length ≤ 1000) (hw1 : t.ws.length ≤ 1000) : Calls Tryz.prog 19 #[.agg c] w fun e w' => ∃ c', e = .returned (.agg c') ∧ Hid (Tpi w' t c' ∧ Below w.heap.size w w' ∧ (∀ (S : Nat → Prop) wy, (∀ q, S q → q < w.heap.size) → Kp S w' wy → Tpi wy t c') ∧ Tyo w' w.heap.size (fun q => w.heap.size + 2 ≤ q ∧ q < w'.heap.size) c') := by
  have HBD := hide hc.b
  obtain ⟨⟨vf, vc, vw, rfl, hF, hC, hW⟩, _⟩ := hc
  have HF0 := hide hF
  have HC0 := hide hC
  have HW0 := hide hW
  obtain ⟨⟨af, cf, rfl, _, _⟩, _⟩ := hF
  obtain ⟨⟨ac, cc, rfl, _, _⟩, _⟩ := hC
  obtain ⟨⟨aw, cw, rfl, _, _⟩, _, _⟩ := hW
  have HN : Hid (t.fs.length ≤ 1000000 ∧ t.cs.length ≤ 1000000 ∧ t.ws.length ≤ 1000000) := by show _ ∧ _; omega
  unfold tpc
  have HX := hide (Frs.start w #[.string t.n, .int .i64 t.k, .int .i64 t.lo, .int .i64 t.hi, .string t.r.n, .bool t.r.z, .slice af t.fs.length cf, .slice ac t.cs.length cc, .slice aw t.ws.length cw])
  clear hf1 hc1 hw1
  go_enter Tryz.func19, Tryz.ntmps19
  go_upto_region 1 with fail
  generalize (w.alloc (.cells #[.string t.n, .int .i64 t.k, .int .i64 t.lo, .int .i64 t.hi, .string t.r.n, .bool t.r.z, .slice af t.fs.length cf, .slice ac t.cs.length cc, .slice aw t.ws.length cw] 69)).alloc (.cells #[.string ⟨#[]⟩, .int .i64 0, .int .i64 0, .int .i64 0, .string ⟨#[]⟩, .bool false, .slice none 0 0, .slice none 0 0, .slice none 0 0] 69) = w0 at *
  go_cut [] from 3 to 15 (fun wx => Hid (∃ fa fc ca cd wa wc, Frs w #[.string t.n, .int .i64 t.k, .int .i64 t.lo, .int .i64 t.hi, .string t.r.n, .bool t.r.z, .slice fa t.fs.length fc, .slice ca t.cs.length cd, .slice wa t.ws.length wc] wx ∧ FSo wx (.slice fa t.fs.length fc) t.fs ∧ CSo wx (.slice ca t.cs.length cd) t.cs ∧ SSo wx (.slice wa t.ws.length wc) t.ws ∧ (∀ q, (Value.slice fa t.fs.length fc).ownBlock = some q → w.heap.size + 2 ≤ q) ∧ (∀ q, (Value.slice ca t.cs.length cd).ownBlock = some q → w.heap.size + 2 ≤ q) ∧ (∀ q, (Value.slice wa t.ws.length wc).ownBlock = some q → w.heap.size + 2 ≤ q)))
  case first =>
    as_aux_lemma =>
    refine heldStart (S := fun _ => True) (by kernel_rfl) ?_
    have hb : Below w0.heap.size w0 w0.drew := by
      refine Below.drew ?_
      exact Below.refl _ _
    replace HX := hide (HX.out.next hb)
    have hS : True := trivial
    clear hb
    generalize w0.drew = w1 at *
    refine heldTake 0 _ rfl (by kernel_rfl) (by kernel_rfl) (by kernel_rfl) (fun _ _ _ h => h) rfl hS (fun wy hy => by first | (go_simp; done) | (go_simp; rfl) | rfl) ?_
    (try simp only [Act.put]); (try simp only [LsA, Ls0, LsS])
    refine heldTake 3 _ rfl (by kernel_rfl) (by kernel_rfl) (by kernel_rfl) (fun _ _ _ h => h) rfl hS (fun wy hy => by first | (go_simp; done) | (go_simp; rfl) | rfl) ?_
    (try simp only [Act.put]); (try simp only [LsA, Ls0, LsS])
    refine heldTake 6 _ rfl (by kernel_rfl) (by kernel_rfl) (by kernel_rfl) (fun _ _ _ h => h) rfl hS (fun wy hy => by first | (go_simp; done) | (go_simp; rfl) | rfl) ?_
    (try simp only [Act.put]); (try simp only [LsA, Ls0, LsS])
    refine wpAnyH_ready (rs := [1, 4, 7]) (by kernel_rfl) (by simp) ?_
    refine AllReadyH.cons rfl (fun K hK => ?_) (AllReadyH.cons rfl (fun K hK => ?_) (AllReadyH.cons rfl (fun K hK => ?_) (AllReadyH.nil)))
    · as_aux_lemma =>
      have c6 : w1.cell? ⟨w.heap.size, 6, none⟩ = some (.slice af t.fs.length cf) := blk_cell (j := 6) HX.out.a rfl
      go_simp
      refine (Shut.out hK) _ _ hS (fun _ => ?_)
      clear hK K c6
      (try simp only [Act.put]); (try simp only [LsA, Ls0, LsS])
      refine wpAnyH_ready (rs := [2, 4, 7]) (by kernel_rfl) (by simp) ?_
      refine AllReadyH.cons rfl (fun K hK => ?_) (AllReadyH.cons rfl (fun K hK => ?_) (AllReadyH.cons rfl (fun K hK => ?_) (AllReadyH.nil)))
      · as_aux_lemma =>
        go_simp
        refine (copiedFo_any w1 _ t.fs (HF0.out.mv (keep_below HX.out.b)) HN.out.1).mono ?_
        rintro e w2 ⟨v2, rfl, hP⟩
        have hb := hP.out.2.1
        have HF := hide hP.out.1
        have HFq : Hid (v2.ownBlock ≠ some w.heap.size) := fun e => by have h1 := hP.out.2.2 _ e; have h2 := blk_lt HX.out.r; omega
        have HFr : Hid (∀ q, v2.ownBlock = some q → w.heap.size + 2 ≤ q) := fun q e => by have h1 := hP.out.2.2 _ e; have h2 := blk_lt HX.out.r; omega
        replace HX := hide (HX.out.next hb)
        obtain ⟨⟨fa, fc, hv2, _, _⟩, _⟩ := hP.out.1.s
        subst hv2
        refine (Shut.out hK) _ _ hS (fun _ => ?_)
        clear hK K hP hb
        (try simp only [Act.put]); (try simp only [LsA, Ls0, LsS])
        refine wpAnyH_ready (rs := [4, 7]) (by kernel_rfl) (by simp) ?_
        refine AllReadyH.cons rfl (fun K hK => ?_) (AllReadyH.cons rfl (fun K hK => ?_) (AllReadyH.nil))
        · as_aux_lemma =>
          have c7 : w2.cell? ⟨w.heap.size, 7, none⟩ = some (.slice ac t.cs.length cc) := blk_cell (j := 7) HX.out.a rfl
          go_simp
          refine (Shut.out hK) _ _ hS (fun _ => ?_)
          clear hK K c7
          (try simp only [Act.put]); (try simp only [LsA, Ls0, LsS])
          refine wpAnyH_ready (rs := [5, 7]) (by kernel_rfl) (by simp) ?_
          refine AllReadyH.cons rfl (fun K hK => ?_) (AllReadyH.cons rfl (fun K hK => ?_) (AllReadyH.nil))
          · as_aux_lemma =>
            go_simp
            refine (copiedCo_any w2 _ t.cs (HC0.out.mv (keep_below HX.out.b)) HN.out.2.1).mono ?_
            rintro e w3 ⟨v5, rfl, hP⟩
            have hb := hP.out.2.1
            have HC := hide hP.out.1
            have HCq : Hid (v5.ownBlock ≠ some w.heap.size) := fun e => by have h1 := hP.out.2.2 _ e; have h2 := blk_lt HX.out.r; omega
            have HCr : Hid (∀ q, v5.ownBlock = some q → w.heap.size + 2 ≤ q) := fun q e => by have h1 := hP.out.2.2 _ e; have h2 := blk_lt HX.out.r; omega
            replace HX := hide (HX.out.next hb)
            replace HF := hide (FSo.mv HF.out hb)
            obtain ⟨⟨ca, cd, hv5, _, _⟩, _⟩ := hP.out.1.s
            subst hv5
            refine (Shut.out hK) _ _ hS (fun _ => ?_)
            clear hK K hP hb
            (try simp only [Act.put]); (try simp only [LsA, Ls0, LsS])
            refine wpAnyH_ready (rs := [7]) (by kernel_rfl) (by simp) ?_
            refine AllReadyH.cons rfl (fun K hK => ?_) AllReadyH.nil
            have c8 : w3.cell? ⟨w.heap.size, 8, none⟩ = some (.slice aw t.ws.length cw) := blk_cell (j := 8) HX.out.a rfl
            go_simp
            refine (Shut.out hK) _ _ hS (fun _ => ?_)
            clear hK K c8
            (try simp only [Act.put]); (try simp only [LsA, Ls0, LsS])
            refine heldTake 9 _ rfl (by kernel_rfl) (by kernel_rfl) (by kernel_rfl) (fun _ _ _ h => h) rfl hS (fun wy hy => by first | (go_simp; done) | (go_simp; rfl) | rfl) ?_
            (try simp only [Act.put]); (try simp only [LsA, Ls0, LsS])
            refine wpAnyH_ready (rs := [8]) (by kernel_rfl) (by simp) ?_
            refine AllReadyH.cons rfl (fun K hK => ?_) AllReadyH.nil
            go_simp
            refine (copiedSo_any w3 _ t.ws (HW0.out.move (keep_below HX.out.b)) HN.out.2.2).mono ?_
            rintro e w4 ⟨v8, rfl, hP⟩
            have hb := hP.out.2.1
            have HW := hide hP.out.1
            have HWq : Hid (v8.ownBlock ≠ some w.heap.size) := fun e => by have h1 := hP.out.2.2 _ e; have h2 := blk_lt HX.out.r; omega
            have HWr : Hid (∀ q, v8.ownBlock = some q → w.heap.size + 2 ≤ q) := fun q e => by have h1 := hP.out.2.2 _ e; have h2 := blk_lt HX.out.r; omega
            replace HX := hide (HX.out.next hb)
            replace HF := hide (FSo.mv HF.out hb)
            replace HC := hide (CSo.mv HC.out hb)
            obtain ⟨⟨wa, wc, hv8, _, _⟩, _, _⟩ := hP.out.1.s
            subst hv8
            refine (Shut.out hK) _ _ hS (fun _ => ?_)
            clear hK K hP hb
            (try simp only [Act.put]); (try simp only [LsA, Ls0, LsS])
            refine heldStep 10 rfl (by kernel_rfl) (fun K hK => ?_)
            have cx := blk_cell (j := 6) HX.out.a rfl
            have fx := blk_frozen 6 HX.out.a
            go_simp
            have hk := HX.out.kp 6 (.slice fa t.fs.length fc)
            have hx := HX.out.set 6 (.slice fa t.fs.length fc)
            replace HF := hide (FSo.kpb HF.out hk HFq.out)
            replace HC := hide (CSo.kpb HC.out hk HCq.out)
            replace HW := hide (SSo.kpb HW.out hk HWq.out)
            replace HX := hide hx
            refine (Hid.out hK) _ _ hS (fun _ => ?_)
            clear hK K cx fx hk hx
            (try simp only [Act.put]); (try simp only [LsA, Ls0, LsS])
            generalize w4.setCell ⟨w.heap.size, 6, none⟩ (.slice fa t.fs.length fc) = w5 at *
            refine heldTake 11 _ rfl (by kernel_rfl) (by kernel_rfl) (by kernel_rfl) (fun _ _ _ h => h) rfl hS (fun wy hy => by first | (go_simp; done) | (go_simp; rfl) | rfl) ?_
            (try simp only [Act.put]); (try simp only [LsA, Ls0, LsS])
            refine heldStep 12 rfl (by kernel_rfl) (fun K hK => ?_)
            have cx := blk_cell (j := 7) HX.out.a rfl
            have fx := blk_frozen 7 HX.out.a
            go_simp
            have hk := HX.out.kp 7 (.slice ca t.cs.length cd)
            have hx := HX.out.set 7 (.slice ca t.cs.length cd)
            replace HF := hide (FSo.kpb HF.out hk HFq.out)
            replace HC := hide (CSo.kpb HC.out hk HCq.out)
            replace HW := hide (SSo.kpb HW.out hk HWq.out)
            replace HX := hide hx
            refine (Hid.out hK) _ _ hS (fun _ => ?_)
            clear hK K cx fx hk hx
            (try simp only [Act.put]); (try simp only [LsA, Ls0, LsS])
            generalize w5.setCell ⟨w.heap.size, 7, none⟩ (.slice ca t.cs.length cd) = w6 at *
            refine heldTake 13 _ rfl (by kernel_rfl) (by kernel_rfl) (by kernel_rfl) (fun _ _ _ h => h) rfl hS (fun wy hy => by first | (go_simp; done) | (go_simp; rfl) | rfl) ?_
            (try simp only [Act.put]); (try simp only [LsA, Ls0, LsS])
            refine heldStep 14 rfl (by kernel_rfl) (fun K hK => ?_)
            have cx := blk_cell (j := 8) HX.out.a rfl
            have fx := blk_frozen 8 HX.out.a
            go_simp
            have hk := HX.out.kp 8 (.slice wa t.ws.length wc)
            have hx := HX.out.set 8 (.slice wa t.ws.length wc)
            replace HF := hide (FSo.kpb HF.out hk HFq.out)
            replace HC := hide (CSo.kpb HC.out hk HCq.out)
            replace HW := hide (SSo.kpb HW.out hk HWq.out)
            replace HX := hide hx
            refine (Hid.out hK) _ _ hS (fun _ => ?_)
            clear hK K cx fx hk hx
            (try simp only [Act.put]); (try simp only [LsA, Ls0, LsS])
            generalize w6.setCell ⟨w.heap.size, 8, none⟩ (.slice wa t.ws.length wc) = w7 at *
            refine heldDone (by kernel_rfl) ?_
            go_wp2_with fail
            go_meet
            case rel => exact ⟨_, _, _, _, _, _, HX.out, HF.out, HC.out, HW.out, HFr.out, HCr.out, HWr.out⟩
          · as_aux_lemma =>
            have c8 : w2.cell? ⟨w.heap.size, 8, none⟩ = some (.slice aw t.ws.length cw) := blk_cell (j := 8) HX.out.a rfl
            go_simp
            refine (Shut.out hK) _ _ hS (fun _ => ?_)
            clear hK K c8
            (try simp only [Act.put]); (try simp only [LsA, Ls0, LsS])
            refine heldTake 9 _ rfl (by kernel_rfl) (by kernel_rfl) (by kernel_rfl) (fun _ _ _ h => h) rfl hS (fun wy hy => by first | (go_simp; done) | (go_simp; rfl) | rfl) ?_
            (try simp only [Act.put]); (try simp only [LsA, Ls0, LsS])
            refine wpAnyH_ready (rs := [5]) (by kernel_rfl) (by simp) ?_
            refine AllReadyH.cons rfl (fun K hK => ?_) AllReadyH.nil
            go_simp
            refine (copiedCo_any w2 _ t.cs (HC0.out.mv (keep_below HX.out.b)) HN.out.2.1).mono ?_
            rintro e w3 ⟨v5, rfl, hP⟩
            have hb := hP.out.2.1
            have HC := hide hP.out.1
            have HCq : Hid (v5.ownBlock ≠ some w.heap.size) := fun e => by have h1 := hP.out.2.2 _ e; have h2 := blk_lt HX.out.r; omega
            have HCr : Hid (∀ q, v5.ownBlock = some q → w.heap.size + 2 ≤ q) := fun q e => by have h1 := hP.out.2.2 _ e; have h2 := blk_lt HX.out.r; omega
            replace HX := hide (HX.out.next hb)
            replace HF := hide (FSo.mv HF.out hb)
            obtain ⟨⟨ca, cd, hv5, _, _⟩, _⟩ := hP.out.1.s
            subst hv5
            refine (Shut.out hK) _ _ hS (fun _ => ?_)
            clear hK K hP hb
            (try simp only [Act.put]); (try simp only [LsA, Ls0, LsS])
            refine wpAnyH_ready (rs := [8]) (by kernel_rfl) (by simp) ?_
            refine AllReadyH.cons rfl (fun K hK => ?_) AllReadyH.nil
            go_simp
            refine (copiedSo_any w3 _ t.ws (HW0.out.move (keep_below HX.out.b)) HN.out.2.2).mono ?_
            rintro e w4 ⟨v8, rfl, hP⟩
            have hb := hP.out.2.1
            have HW := hide hP.out.1
            have HWq : Hid (v8.ownBlock ≠ some w.heap.size) := fun e => by have h1 := hP.out.2.2 _ e; have h2 := blk_lt HX.out.r; omega
            have HWr : Hid (∀ q, v8.ownBlock = some q → w.heap.size + 2 ≤ q) := fun q e => by have h1 := hP.out.2.2 _ e; have h2 := blk_lt HX.out.r; omega
            replace HX := hide (HX.out.next hb)
            replace HF := hide (FSo.mv HF.out hb)
            replace HC := hide (CSo.mv HC.out hb)
            obtain ⟨⟨wa, wc, hv8, _, _⟩, _, _⟩ := hP.out.1.s
            subst hv8
            refine (Shut.out hK) _ _ hS (fun _ => ?_)
            clear hK K hP hb
            (try simp only [Act.put]); (try simp only [LsA, Ls0, LsS])
            refine heldStep 10 rfl (by kernel_rfl) (fun K hK => ?_)
            have cx := blk_cell (j := 6) HX.out.a rfl
            have fx := blk_frozen 6 HX.out.a
            go_simp
            have hk := HX.out.kp 6 (.slice fa t.fs.length fc)
            have hx := HX.out.set 6 (.slice fa t.fs.length fc)
            replace HF := hide (FSo.kpb HF.out hk HFq.out)
            replace HC := hide (CSo.kpb HC.out hk HCq.out)
            replace HW := hide (SSo.kpb HW.out hk HWq.out)
            replace HX := hide hx
            refine (Hid.out hK) _ _ hS (fun _ => ?_)
            clear hK K cx fx hk hx
            (try simp only [Act.put]); (try simp only [LsA, Ls0, LsS])
            generalize w4.setCell ⟨w.heap.size, 6, none⟩ (.slice fa t.fs.length fc) = w5 at *
            refine heldTake 11 _ rfl (by kernel_rfl) (by kernel_rfl) (by kernel_rfl) (fun _ _ _ h => h) rfl hS (fun wy hy => by first | (go_simp; done) | (go_simp; rfl) | rfl) ?_
            (try simp only [Act.put]); (try simp only [LsA, Ls0, LsS])
            refine heldStep 12 rfl (by kernel_rfl) (fun K hK => ?_)
            have cx := blk_cell (j := 7) HX.out.a rfl
            have fx := blk_frozen 7 HX.out.a
            go_simp
            have hk := HX.out.kp 7 (.slice ca t.cs.length cd)
            have hx := HX.out.set 7 (.slice ca t.cs.length cd)
            replace HF := hide (FSo.kpb HF.out hk HFq.out)
            replace HC := hide (CSo.kpb HC.out hk HCq.out)
            replace HW := hide (SSo.kpb HW.out hk HWq.out)
            replace HX := hide hx
            refine (Hid.out hK) _ _ hS (fun _ => ?_)
            clear hK K cx fx hk hx
            (try simp only [Act.put]); (try simp only [LsA, Ls0, LsS])
            generalize w5.setCell ⟨w.heap.size, 7, none⟩ (.slice ca t.cs.length cd) = w6 at *
            refine heldTake 13 _ rfl (by kernel_rfl) (by kernel_rfl) (by kernel_rfl) (fun _ _ _ h => h) rfl hS (fun wy hy => by first | (go_simp; done) | (go_simp; rfl) | rfl) ?_
            (try simp only [Act.put]); (try simp only [LsA, Ls0, LsS])
            refine heldStep 14 rfl (by kernel_rfl) (fun K hK => ?_)
            have cx := blk_cell (j := 8) HX.out.a rfl
            have fx := blk_frozen 8 HX.out.a
            go_simp
            have hk := HX.out.kp 8 (.slice wa t.ws.length wc)
            have hx := HX.out.set 8 (.slice wa t.ws.length wc)
            replace HF := hide (FSo.kpb HF.out hk HFq.out)
            replace HC := hide (CSo.kpb HC.out hk HCq.out)
            replace HW := hide (SSo.kpb HW.out hk HWq.out)
            replace HX := hide hx
            refine (Hid.out hK) _ _ hS (fun _ => ?_)
            clear hK K cx fx hk hx
            (try simp only [Act.put]); (try simp only [LsA, Ls0, LsS])
            generalize w6.setCell ⟨w.heap.size, 8, none⟩ (.slice wa t.ws.length wc) = w7 at *
            refine heldDone (by kernel_rfl) ?_
            go_wp2_with fail
            go_meet
            case rel => exact ⟨_, _, _, _, _, _, HX.out, HF.out, HC.out, HW.out, HFr.out, HCr.out, HWr.out⟩
        · as_aux_lemma =>
          have c8 : w2.cell? ⟨w.heap.size, 8, none⟩ = some (.slice aw t.ws.length cw) := blk_cell (j := 8) HX.out.a rfl
          go_simp
          refine (Shut.out hK) _ _ hS (fun _ => ?_)
          clear hK K c8
          (try simp only [Act.put]); (try simp only [LsA, Ls0, LsS])
          refine wpAnyH_ready (rs := [4]) (by kernel_rfl) (by simp) ?_
          refine AllReadyH.cons rfl (fun K hK => ?_) AllReadyH.nil
          have c7 : w2.cell? ⟨w.heap.size, 7, none⟩ = some (.slice ac t.cs.length cc) := blk_cell (j := 7) HX.out.a rfl
          go_simp
          refine (Shut.out hK) _ _ hS (fun _ => ?_)
          clear hK K c7
          (try simp only [Act.put]); (try simp only [LsA, Ls0, LsS])
          refine heldTake 9 _ rfl (by kernel_rfl) (by kernel_rfl) (by kernel_rfl) (fun _ _ _ h => h) rfl hS (fun wy hy => by first | (go_simp; done) | (go_simp; rfl) | rfl) ?_
          (try simp only [Act.put]); (try simp only [LsA, Ls0, LsS])
          refine wpAnyH_ready (rs := [5]) (by kernel_rfl) (by simp) ?_
          refine AllReadyH.cons rfl (fun K hK => ?_) AllReadyH.nil
          go_simp
          refine (copiedCo_any w2 _ t.cs (HC0.out.mv (keep_below HX.out.b)) HN.out.2.1).mono ?_
          rintro e w3 ⟨v5, rfl, hP⟩
          have hb := hP.out.2.1
          have HC := hide hP.out.1
          have HCq : Hid (v5.ownBlock ≠ some w.heap.size) := fun e => by have h1 := hP.out.2.2 _ e; have h2 := blk_lt HX.out.r; omega
          have HCr : Hid (∀ q, v5.ownBlock = some q → w.heap.size + 2 ≤ q) := fun q e => by have h1 := hP.out.2.2 _ e; have h2 := blk_lt HX.out.r; omega
          replace HX := hide (HX.out.next hb)
          replace HF := hide (FSo.mv HF.out hb)
          obtain ⟨⟨ca, cd, hv5, _, _⟩, _⟩ := hP.out.1.s
          subst hv5
          refine (Shut.out hK) _ _ hS (fun _ => ?_)
          clear hK K hP hb
          (try simp only [Act.put]); (try simp only [LsA, Ls0, LsS])
          refine wpAnyH_ready (rs := [8]) (by kernel_rfl) (by simp) ?_
          refine AllReadyH.cons rfl (fun K hK => ?_) AllReadyH.nil
          go_simp
          refine (copiedSo_any w3 _ t.ws (HW0.out.move (keep_below HX.out.b)) HN.out.2.2).mono ?_
          rintro e w4 ⟨v8, rfl, hP⟩
          have hb := hP.out.2.1
          have HW := hide hP.out.1
          have HWq : Hid (v8.ownBlock ≠ some w.heap.size) := fun e => by have h1 := hP.out.2.2 _ e; have h2 := blk_lt HX.out.r; omega
          have HWr : Hid (∀ q, v8.ownBlock = some q → w.heap.size + 2 ≤ q) := fun q e => by have h1 := hP.out.2.2 _ e; have h2 := blk_lt HX.out.r; omega
          replace HX := hide (HX.out.next hb)
          replace HF := hide (FSo.mv HF.out hb)
          replace HC := hide (CSo.mv HC.out hb)
          obtain ⟨⟨wa, wc, hv8, _, _⟩, _, _⟩ := hP.out.1.s
          subst hv8
          refine (Shut.out hK) _ _ hS (fun _ => ?_)
          clear hK K hP hb
          (try simp only [Act.put]); (try simp only [LsA, Ls0, LsS])
          refine heldStep 10 rfl (by kernel_rfl) (fun K hK => ?_)
          have cx := blk_cell (j := 6) HX.out.a rfl
          have fx := blk_frozen 6 HX.out.a
          go_simp
          have hk := HX.out.kp 6 (.slice fa t.fs.length fc)
          have hx := HX.out.set 6 (.slice fa t.fs.length fc)
          replace HF := hide (FSo.kpb HF.out hk HFq.out)
          replace HC := hide (CSo.kpb HC.out hk HCq.out)
          replace HW := hide (SSo.kpb HW.out hk HWq.out)
          replace HX := hide hx
          refine (Hid.out hK) _ _ hS (fun _ => ?_)
          clear hK K cx fx hk hx
          (try simp only [Act.put]); (try simp only [LsA, Ls0, LsS])
          generalize w4.setCell ⟨w.heap.size, 6, none⟩ (.slice fa t.fs.length fc) = w5 at *
          refine heldTake 11 _ rfl (by kernel_rfl) (by kernel_rfl) (by kernel_rfl) (fun _ _ _ h => h) rfl hS (fun wy hy => by first | (go_simp; done) | (go_simp; rfl) | rfl) ?_
          (try simp only [Act.put]); (try simp only [LsA, Ls0, LsS])
          refine heldStep 12 rfl (by kernel_rfl) (fun K hK => ?_)
          have cx := blk_cell (j := 7) HX.out.a rfl
          have fx := blk_frozen 7 HX.out.a
          go_simp
          have hk := HX.out.kp 7 (.slice ca t.cs.length cd)
          have hx := HX.out.set 7 (.slice ca t.cs.length cd)
          replace HF := hide (FSo.kpb HF.out hk HFq.out)
          replace HC := hide (CSo.kpb HC.out hk HCq.out)
          replace HW := hide (SSo.kpb HW.out hk HWq.out)
          replace HX := hide hx
          refine (Hid.out hK) _ _ hS (fun _ => ?_)
          clear hK K cx fx hk hx
          (try simp only [Act.put]); (try simp only [LsA, Ls0, LsS])
          generalize w5.setCell ⟨w.heap.size, 7, none⟩ (.slice ca t.cs.length cd) = w6 at *
          refine heldTake 13 _ rfl (by kernel_rfl) (by kernel_rfl) (by kernel_rfl) (fun _ _ _ h => h) rfl hS (fun wy hy => by first | (go_simp; done) | (go_simp; rfl) | rfl) ?_
          (try simp only [Act.put]); (try simp only [LsA, Ls0, LsS])
          refine heldStep 14 rfl (by kernel_rfl) (fun K hK => ?_)
          have cx := blk_cell (j := 8) HX.out.a rfl
          have fx := blk_frozen 8 HX.out.a
          go_simp
          have hk := HX.out.kp 8 (.slice wa t.ws.length wc)
          have hx := HX.out.set 8 (.slice wa t.ws.length wc)
          replace HF := hide (FSo.kpb HF.out hk HFq.out)
          replace HC := hide (CSo.kpb HC.out hk HCq.out)
          replace HW := hide (SSo.kpb HW.out hk HWq.out)
          replace HX := hide hx
          refine (Hid.out hK) _ _ hS (fun _ => ?_)
          clear hK K cx fx hk hx
          (try simp only [Act.put]); (try simp only [LsA, Ls0, LsS])
          generalize w6.setCell ⟨w.heap.size, 8, none⟩ (.slice wa t.ws.length wc) = w7 at *
          refine heldDone (by kernel_rfl) ?_
          go_wp2_with fail
          go_meet
          case rel => exact ⟨_, _, _, _, _, _, HX.out, HF.out, HC.out, HW.out, HFr.out, HCr.out, HWr.out⟩
      · as_aux_lemma =>
        have c7 : w1.cell? ⟨w.heap.size, 7, none⟩ = some (.slice ac t.cs.length cc) := blk_cell (j := 7) HX.out.a rfl
        go_simp
        refine (Shut.out hK) _ _ hS (fun _ => ?_)
        clear hK K c7
        (try simp only [Act.put]); (try simp only [LsA, Ls0, LsS])
        refine wpAnyH_ready (rs := [2, 7]) (by kernel_rfl) (by simp) ?_
        refine AllReadyH.cons rfl (fun K hK => ?_) (AllReadyH.cons rfl (fun K hK => ?_) (AllReadyH.nil))
        · as_aux_lemma =>
          go_simp
          refine (copiedFo_any w1 _ t.fs (HF0.out.mv (keep_below HX.out.b)) HN.out.1).mono ?_
          rintro e w2 ⟨v2, rfl, hP⟩
          have hb := hP.out.2.1
          have HF := hide hP.out.1
          have HFq : Hid (v2.ownBlock ≠ some w.heap.size) := fun e => by have h1 := hP.out.2.2 _ e; have h2 := blk_lt HX.out.r; omega
          have HFr : Hid (∀ q, v2.ownBlock = some q → w.heap.size + 2 ≤ q) := fun q e => by have h1 := hP.out.2.2 _ e; have h2 := blk_lt HX.out.r; omega
          replace HX := hide (HX.out.next hb)
          obtain ⟨⟨fa, fc, hv2, _, _⟩, _⟩ := hP.out.1.s
          subst hv2
          refine (Shut.out hK) _ _ hS (fun _ => ?_)
          clear hK K hP hb
          (try simp only [Act.put]); (try simp only [LsA, Ls0, LsS])
          refine wpAnyH_ready (rs := [5, 7]) (by kernel_rfl) (by simp) ?_
          refine AllReadyH.cons rfl (fun K hK => ?_) (AllReadyH.cons rfl (fun K hK => ?_) (AllReadyH.nil))
          · as_aux_lemma =>
            go_simp
            refine (copiedCo_any w2 _ t.cs (HC0.out.mv (keep_below HX.out.b)) HN.out.2.1).mono ?_
            rintro e w3 ⟨v5, rfl, hP⟩
            have hb := hP.out.2.1
            have HC := hide hP.out.1
            have HCq : Hid (v5.ownBlock ≠ some w.heap.size) := fun e => by have h1 := hP.out.2.2 _ e; have h2 := blk_lt HX.out.r; omega
            have HCr : Hid (∀ q, v5.ownBlock = some q → w.heap.size + 2 ≤ q) := fun q e => by have h1 := hP.out.2.2 _ e; have h2 := blk_lt HX.out.r; omega
            replace HX := hide (HX.out.next hb)
            replace HF := hide (FSo.mv HF.out hb)
            obtain ⟨⟨ca, cd, hv5, _, _⟩, _⟩ := hP.out.1.s
            subst hv5
            refine (Shut.out hK) _ _ hS (fun _ => ?_)
            clear hK K hP hb
            (try simp only [Act.put]); (try simp only [LsA, Ls0, LsS])
            refine wpAnyH_ready (rs := [7]) (by kernel_rfl) (by simp) ?_
            refine AllReadyH.cons rfl (fun K hK => ?_) AllReadyH.nil
            have c8 : w3.cell? ⟨w.heap.size, 8, none⟩ = some (.slice aw t.ws.length cw) := blk_cell (j := 8) HX.out.a rfl
            go_simp
            refine (Shut.out hK) _ _ hS (fun _ => ?_)
            clear hK K c8
            (try simp only [Act.put]); (try simp only [LsA, Ls0, LsS])
            refine heldTake 9 _ rfl (by kernel_rfl) (by kernel_rfl) (by kernel_rfl) (fun _ _ _ h => h) rfl hS (fun wy hy => by first | (go_simp; done) | (go_simp; rfl) | rfl) ?_
            (try simp only [Act.put]); (try simp only [LsA, Ls0, LsS])
            refine wpAnyH_ready (rs := [8]) (by kernel_rfl) (by simp) ?_
            refine AllReadyH.cons rfl (fun K hK => ?_) AllReadyH.nil
            go_simp
            refine (copiedSo_any w3 _ t.ws (HW0.out.move (keep_below HX.out.b)) HN.out.2.2).mono ?_
            rintro e w4 ⟨v8, rfl, hP⟩
            have hb := hP.out.2.1
            have HW := hide hP.out.1
            have HWq : Hid (v8.ownBlock ≠ some w.heap.size) := fun e => by have h1 := hP.out.2.2 _ e; have h2 := blk_lt HX.out.r; omega
            have HWr : Hid (∀ q, v8.ownBlock = some q → w.heap.size + 2 ≤ q) := fun q e => by have h1 := hP.out.2.2 _ e; have h2 := blk_lt HX.out.r; omega
            replace HX := hide (HX.out.next hb)
            replace HF := hide (FSo.mv HF.out hb)
            replace HC := hide (CSo.mv HC.out hb)
            obtain ⟨⟨wa, wc, hv8, _, _⟩, _, _⟩ := hP.out.1.s
            subst hv8
            refine (Shut.out hK) _ _ hS (fun _ => ?_)
            clear hK K hP hb
            (try simp only [Act.put]); (try simp only [LsA, Ls0, LsS])
            refine heldStep 10 rfl (by kernel_rfl) (fun K hK => ?_)
            have cx := blk_cell (j := 6) HX.out.a rfl
            have fx := blk_frozen 6 HX.out.a
            go_simp
            have hk := HX.out.kp 6 (.slice fa t.fs.length fc)
            have hx := HX.out.set 6 (.slice fa t.fs.length fc)
            replace HF := hide (FSo.kpb HF.out hk HFq.out)
            replace HC := hide (CSo.kpb HC.out hk HCq.out)
            replace HW := hide (SSo.kpb HW.out hk HWq.out)
            replace HX := hide hx
            refine (Hid.out hK) _ _ hS (fun _ => ?_)
            clear hK K cx fx hk hx
            (try simp only [Act.put]); (try simp only [LsA, Ls0, LsS])
            generalize w4.setCell ⟨w.heap.size, 6, none⟩ (.slice fa t.fs.length fc) = w5 at *
            refine heldTake 11 _ rfl (by kernel_rfl) (by kernel_rfl) (by kernel_rfl) (fun _ _ _ h => h) rfl hS (fun wy hy => by first | (go_simp; done) | (go_simp; rfl) | rfl) ?_
            (try simp only [Act.put]); (try simp only [LsA, Ls0, LsS])
            refine heldStep 12 rfl (by kernel_rfl) (fun K hK => ?_)
            have cx := blk_cell (j := 7) HX.out.a rfl
            have fx := blk_frozen 7 HX.out.a
            go_simp
            have hk := HX.out.kp 7 (.slice ca t.cs.length cd)
            have hx := HX.out.set 7 (.slice ca t.cs.length cd)
            replace HF := hide (FSo.kpb HF.out hk HFq.out)
            replace HC := hide (CSo.kpb HC.out hk HCq.out)
            replace HW := hide (SSo.kpb HW.out hk HWq.out)
            replace HX := hide hx
            refine (Hid.out hK) _ _ hS (fun _ => ?_)
            clear hK K cx fx hk hx
            (try simp only [Act.put]); (try simp only [LsA, Ls0, LsS])
            generalize w5.setCell ⟨w.heap.size, 7, none⟩ (.slice ca t.cs.length cd) = w6 at *
            refine heldTake 13 _ rfl (by kernel_rfl) (by kernel_rfl) (by kernel_rfl) (fun _ _ _ h => h) rfl hS (fun wy hy => by first | (go_simp; done) | (go_simp; rfl) | rfl) ?_
            (try simp only [Act.put]); (try simp only [LsA, Ls0, LsS])
            refine heldStep 14 rfl (by kernel_rfl) (fun K hK => ?_)
            have cx := blk_cell (j := 8) HX.out.a rfl
            have fx := blk_frozen 8 HX.out.a
            go_simp
            have hk := HX.out.kp 8 (.slice wa t.ws.length wc)
            have hx := HX.out.set 8 (.slice wa t.ws.length wc)
            replace HF := hide (FSo.kpb HF.out hk HFq.out)
            replace HC := hide (CSo.kpb HC.out hk HCq.out)
            replace HW := hide (SSo.kpb HW.out hk HWq.out)
            replace HX := hide hx
            refine (Hid.out hK) _ _ hS (fun _ => ?_)
            clear hK K cx fx hk hx
            (try simp only [Act.put]); (try simp only [LsA, Ls0, LsS])
            generalize w6.setCell ⟨w.heap.size, 8, none⟩ (.slice wa t.ws.length wc) = w7 at *
            refine heldDone (by kernel_rfl) ?_
            go_wp2_with fail
            go_meet
            case rel => exact ⟨_, _, _, _, _, _, HX.out, HF.out, HC.out, HW.out, HFr.out, HCr.out, HWr.out⟩
          · as_aux_lemma =>
            have c8 : w2.cell? ⟨w.heap.size, 8, none⟩ = some (.slice aw t.ws.length cw) := blk_cell (j := 8) HX.out.a rfl
            go_simp
            refine (Shut.out hK) _ _ hS (fun _ => ?_)
            clear hK K c8
            (try simp only [Act.put]); (try simp only [LsA, Ls0, LsS])
            refine heldTake 9 _ rfl (by kernel_rfl) (by kernel_rfl) (by kernel_rfl) (fun _ _ _ h => h) rfl hS (fun wy hy => by first | (go_simp; done) | (go_simp; rfl) | rfl) ?_
            (try simp only [Act.put]); (try simp only [LsA, Ls0, LsS])
            refine wpAnyH_ready (rs := [5]) (by kernel_rfl) (by simp) ?_
            refine AllReadyH.cons rfl (fun K hK => ?_) AllReadyH.nil
            go_simp
            refine (copiedCo_any w2 _ t.cs (HC0.out.mv (keep_below HX.out.b)) HN.out.2.1).mono ?_
            rintro e w3 ⟨v5, rfl, hP⟩
            have hb := hP.out.2.1
            have HC := hide hP.out.1
            have HCq : Hid (v5.ownBlock ≠ some w.heap.size) := fun e => by have h1 := hP.out.2.2 _ e; have h2 := blk_lt HX.out.r; omega
            have HCr : Hid (∀ q, v5.ownBlock = some q → w.heap.size + 2 ≤ q) := fun q e => by have h1 := hP.out.2.2 _ e; have h2 := blk_lt HX.out.r; omega
            replace HX := hide (HX.out.next hb)
            replace HF := hide (FSo.mv HF.out hb)
            obtain ⟨⟨ca, cd, hv5, _, _⟩, _⟩ := hP.out.1.s
            subst hv5
            refine (Shut.out hK) _ _ hS (fun _ => ?_)
            clear hK K hP hb
            (try simp only [Act.put]); (try simp only [LsA, Ls0, LsS])
            refine wpAnyH_ready (rs := [8]) (by kernel_rfl) (by simp) ?_
            refine AllReadyH.cons rfl (fun K hK => ?_) AllReadyH.nil
            go_simp
            refine (copiedSo_any w3 _ t.ws (HW0.out.move (keep_below HX.out.b)) HN.out.2.2).mono ?_
            rintro e w4 ⟨v8, rfl, hP⟩
            have hb := hP.out.2.1
            have HW := hide hP.out.1
            have HWq : Hid (v8.ownBlock ≠ some w.heap.size) := fun e => by have h1 := hP.out.2.2 _ e; have h2 := blk_lt HX.out.r; omega
            have HWr : Hid (∀ q, v8.ownBlock = some q → w.heap.size + 2 ≤ q) := fun q e => by have h1 := hP.out.2.2 _ e; have h2 := blk_lt HX.out.r; omega
            replace HX := hide (HX.out.next hb)
            replace HF := hide (FSo.mv HF.out hb)
            replace HC := hide (CSo.mv HC.out hb)
            obtain ⟨⟨wa, wc, hv8, _, _⟩, _, _⟩ := hP.out.1.s
            subst hv8
            refine (Shut.out hK) _ _ hS (fun _ => ?_)
            clear hK K hP hb
            (try simp only [Act.put]); (try simp only [LsA, Ls0, LsS])
            refine heldStep 10 rfl (by kernel_rfl) (fun K hK => ?_)
            have cx := blk_cell (j := 6) HX.out.a rfl
            have fx := blk_frozen 6 HX.out.a
            go_simp
            have hk := HX.out.kp 6 (.slice fa t.fs.length fc)
            have hx := HX.out.set 6 (.slice fa t.fs.length fc)
            replace HF := hide (FSo.kpb HF.out hk HFq.out)
            replace HC := hide (CSo.kpb HC.out hk HCq.out)
            replace HW := hide (SSo.kpb HW.out hk HWq.out)
            replace HX := hide hx
            refine (Hid.out hK) _ _ hS (fun _ => ?_)
            clear hK K cx fx hk hx
            (try simp only [Act.put]); (try simp only [LsA, Ls0, LsS])
            generalize w4.setCell ⟨w.heap.size, 6, none⟩ (.slice fa t.fs.length fc) = w5 at *
            refine heldTake 11 _ rfl (by kernel_rfl) (by kernel_rfl) (by kernel_rfl) (fun _ _ _ h => h) rfl hS (fun wy hy => by first | (go_simp; done) | (go_simp; rfl) | rfl) ?_
            (try simp only [Act.put]); (try simp only [LsA, Ls0, LsS])
            refine heldStep 12 rfl (by kernel_rfl) (fun K hK => ?_)
            have cx := blk_cell (j := 7) HX.out.a rfl
            have fx := blk_frozen 7 HX.out.a
            go_simp
            have hk := HX.out.kp 7 (.slice ca t.cs.length cd)
            have hx := HX.out.set 7 (.slice ca t.cs.length cd)
            replace HF := hide (FSo.kpb HF.out hk HFq.out)
            replace HC := hide (CSo.kpb HC.out hk HCq.out)
            replace HW := hide (SSo.kpb HW.out hk HWq.out)
            replace HX := hide hx
            refine (Hid.out hK) _ _ hS (fun _ => ?_)
            clear hK K cx fx hk hx
            (try simp only [Act.put]); (try simp only [LsA, Ls0, LsS])
            generalize w5.setCell ⟨w.heap.size, 7, none⟩ (.slice ca t.cs.length cd) = w6 at *
            refine heldTake 13 _ rfl (by kernel_rfl) (by kernel_rfl) (by kernel_rfl) (fun _ _ _ h => h) rfl hS (fun wy hy => by first | (go_simp; done) | (go_simp; rfl) | rfl) ?_
            (try simp only [Act.put]); (try simp only [LsA, Ls0, LsS])
            refine heldStep 14 rfl (by kernel_rfl) (fun K hK => ?_)
            have cx := blk_cell (j := 8) HX.out.a rfl
            have fx := blk_frozen 8 HX.out.a
            go_simp
            have hk := HX.out.kp 8 (.slice wa t.ws.length wc)
            have hx := HX.out.set 8 (.slice wa t.ws.length wc)
            replace HF := hide (FSo.kpb HF.out hk HFq.out)
            replace HC := hide (CSo.kpb HC.out hk HCq.out)
            replace HW := hide (SSo.kpb HW.out hk HWq.out)
            replace HX := hide hx
            refine (Hid.out hK) _ _ hS (fun _ => ?_)
            clear hK K cx fx hk hx
            (try simp only [Act.put]); (try simp only [LsA, Ls0, LsS])
            generalize w6.setCell ⟨w.heap.size, 8, none⟩ (.slice wa t.ws.length wc) = w7 at *
            refine heldDone (by kernel_rfl) ?_
            go_wp2_with fail
            go_meet
            case rel => exact ⟨_, _, _, _, _, _, HX.out, HF.out, HC.out, HW.out, HFr.out, HCr.out, HWr.out⟩
        · as_aux_lemma =>
          have c8 : w1.cell? ⟨w.heap.size, 8, none⟩ = some (.slice aw t.ws.length cw) := blk_cell (j := 8) HX.out.a rfl
          go_simp
          refine (Shut.out hK) _ _ hS (fun _ => ?_)
          clear hK K c8
          (try simp only [Act.put]); (try simp only [LsA, Ls0, LsS])
          refine wpAnyH_ready (rs := [2]) (by kernel_rfl) (by simp) ?_
          refine AllReadyH.cons rfl (fun K hK => ?_) AllReadyH.nil
          go_simp
          refine (copiedFo_any w1 _ t.fs (HF0.out.mv (keep_below HX.out.b)) HN.out.1).mono ?_
          rintro e w2 ⟨v2, rfl, hP⟩
          have hb := hP.out.2.1
          have HF := hide hP.out.1
          have HFq : Hid (v2.ownBlock ≠ some w.heap.size) := fun e => by have h1 := hP.out.2.2 _ e; have h2 := blk_lt HX.out.r; omega
          have HFr : Hid (∀ q, v2.ownBlock = some q → w.heap.size + 2 ≤ q) := fun q e => by have h1 := hP.out.2.2 _ e; have h2 := blk_lt HX.out.r; omega
          replace HX := hide (HX.out.next hb)
          obtain ⟨⟨fa, fc, hv2, _, _⟩, _⟩ := hP.out.1.s
          subst hv2
          refine (Shut.out hK) _ _ hS (fun _ => ?_)
          clear hK K hP hb
          (try simp only [Act.put]); (try simp only [LsA, Ls0, LsS])
          refine heldTake 9 _ rfl (by kernel_rfl) (by kernel_rfl) (by kernel_rfl) (fun _ _ _ h => h) rfl hS (fun wy hy => by first | (go_simp; done) | (go_simp; rfl) | rfl) ?_
          (try simp only [Act.put]); (try simp only [LsA, Ls0, LsS])
          refine wpAnyH_ready (rs := [5]) (by kernel_rfl) (by simp) ?_
          refine AllReadyH.cons rfl (fun K hK => ?_) AllReadyH.nil
          go_simp
          refine (copiedCo_any w2 _ t.cs (HC0.out.mv (keep_below HX.out.b)) HN.out.2.1).mono ?_
          rintro e w3 ⟨v5, rfl, hP⟩
          have hb := hP.out.2.1
          have HC := hide hP.out.1
          have HCq : Hid (v5.ownBlock ≠ some w.heap.size) := fun e => by have h1 := hP.out.2.2 _ e; have h2 := blk_lt HX.out.r; omega
          have HCr : Hid (∀ q, v5.ownBlock = some q → w.heap.size + 2 ≤ q) := fun q e => by have h1 := hP.out.2.2 _ e; have h2 := blk_lt HX.out.r; omega
          replace HX := hide (HX.out.next hb)
          replace HF := hide (FSo.mv HF.out hb)
          obtain ⟨⟨ca, cd, hv5, _, _⟩, _⟩ := hP.out.1.s
          subst hv5
          refine (Shut.out hK) _ _ hS (fun _ => ?_)
          clear hK K hP hb
          (try simp only [Act.put]); (try simp only [LsA, Ls0, LsS])
          refine wpAnyH_ready (rs := [8]) (by kernel_rfl) (by simp) ?_
          refine AllReadyH.cons rfl (fun K hK => ?_) AllReadyH.nil
          go_simp
          refine (copiedSo_any w3 _ t.ws (HW0.out.move (keep_below HX.out.b)) HN.out.2.2).mono ?_
          rintro e w4 ⟨v8, rfl, hP⟩
          have hb := hP.out.2.1
          have HW := hide hP.out.1
          have HWq : Hid (v8.ownBlock ≠ some w.heap.size) := fun e => by have h1 := hP.out.2.2 _ e; have h2 := blk_lt HX.out.r; omega
          have HWr : Hid (∀ q, v8.ownBlock = some q → w.heap.size + 2 ≤ q) := fun q e => by have h1 := hP.out.2.2 _ e; have h2 := blk_lt HX.out.r; omega
          replace HX := hide (HX.out.next hb)
          replace HF := hide (FSo.mv HF.out hb)
          replace HC := hide (CSo.mv HC.out hb)
          obtain ⟨⟨wa, wc, hv8, _, _⟩, _, _⟩ := hP.out.1.s
          subst hv8
          refine (Shut.out hK) _ _ hS (fun _ => ?_)
          clear hK K hP hb
          (try simp only [Act.put]); (try simp only [LsA, Ls0, LsS])
          refine heldStep 10 rfl (by kernel_rfl) (fun K hK => ?_)
          have cx := blk_cell (j := 6) HX.out.a rfl
          have fx := blk_frozen 6 HX.out.a
          go_simp
          have hk := HX.out.kp 6 (.slice fa t.fs.length fc)
          have hx := HX.out.set 6 (.slice fa t.fs.length fc)
          replace HF := hide (FSo.kpb HF.out hk HFq.out)
          replace HC := hide (CSo.kpb HC.out hk HCq.out)
          replace HW := hide (SSo.kpb HW.out hk HWq.out)
          replace HX := hide hx
          refine (Hid.out hK) _ _ hS (fun _ => ?_)
          clear hK K cx fx hk hx
          (try simp only [Act.put]); (try simp only [LsA, Ls0, LsS])
          generalize w4.setCell ⟨w.heap.size, 6, none⟩ (.slice fa t.fs.length fc) = w5 at *
          refine heldTake 11 _ rfl (by kernel_rfl) (by kernel_rfl) (by kernel_rfl) (fun _ _ _ h => h) rfl hS (fun wy hy => by first | (go_simp; done) | (go_simp; rfl) | rfl) ?_
          (try simp only [Act.put]); (try simp only [LsA, Ls0, LsS])
          refine heldStep 12 rfl (by kernel_rfl) (fun K hK => ?_)
          have cx := blk_cell (j := 7) HX.out.a rfl
          have fx := blk_frozen 7 HX.out.a
          go_simp
          have hk := HX.out.kp 7 (.slice ca t.cs.length cd)
          have hx := HX.out.set 7 (.slice ca t.cs.length cd)
          replace HF := hide (FSo.kpb HF.out hk HFq.out)
          replace HC := hide (CSo.kpb HC.out hk HCq.out)
          replace HW := hide (SSo.kpb HW.out hk HWq.out)
          replace HX := hide hx
          refine (Hid.out hK) _ _ hS (fun _ => ?_)
          clear hK K cx fx hk hx
          (try simp only [Act.put]); (try simp only [LsA, Ls0, LsS])
          generalize w5.setCell ⟨w.heap.size, 7, none⟩ (.slice ca t.cs.length cd) = w6 at *
          refine heldTake 13 _ rfl (by kernel_rfl) (by kernel_rfl) (by kernel_rfl) (fun _ _ _ h => h) rfl hS (fun wy hy => by first | (go_simp; done) | (go_simp; rfl) | rfl) ?_
          (try simp only [Act.put]); (try simp only [LsA, Ls0, LsS])
          refine heldStep 14 rfl (by kernel_rfl) (fun K hK => ?_)
          have cx := blk_cell (j := 8) HX.out.a rfl
          have fx := blk_frozen 8 HX.out.a
          go_simp
          have hk := HX.out.kp 8 (.slice wa t.ws.length wc)
          have hx := HX.out.set 8 (.slice wa t.ws.length wc)
          replace HF := hide (FSo.kpb HF.out hk HFq.out)
          replace HC := hide (CSo.kpb HC.out hk HCq.out)
          replace HW := hide (SSo.kpb HW.out hk HWq.out)
          replace HX := hide hx
          refine (Hid.out hK) _ _ hS (fun _ => ?_)
          clear hK K cx fx hk hx
          (try simp only [Act.put]); (try simp only [LsA, Ls0, LsS])
          generalize w6.setCell ⟨w.heap.size, 8, none⟩ (.slice wa t.ws.length wc) = w7 at *
          refine heldDone (by kernel_rfl) ?_
          go_wp2_with fail
          go_meet
          case rel => exact ⟨_, _, _, _, _, _, HX.out, HF.out, HC.out, HW.out, HFr.out, HCr.out, HWr.out⟩
      · as_aux_lemma =>
        have c8 : w1.cell? ⟨w.heap.size, 8, none⟩ = some (.slice aw t.ws.length cw) := blk_cell (j := 8) HX.out.a rfl
        go_simp
        refine (Shut.out hK) _ _ hS (fun _ => ?_)
        clear hK K c8
        (try simp only [Act.put]); (try simp only [LsA, Ls0, LsS])
        refine wpAnyH_ready (rs := [2, 4]) (by kernel_rfl) (by simp) ?_
        refine AllReadyH.cons rfl (fun K hK => ?_) (AllReadyH.cons rfl (fun K hK => ?_) (AllReadyH.nil))
        · as_aux_lemma =>
          go_simp
          refine (copiedFo_any w1 _ t.fs (HF0.out.mv (keep_below HX.out.b)) HN.out.1).mono ?_
          rintro e w2 ⟨v2, rfl, hP⟩
          have hb := hP.out.2.1
          have HF := hide hP.out.1
          have HFq : Hid (v2.ownBlock ≠ some w.heap.size) := fun e => by have h1 := hP.out.2.2 _ e; have h2 := blk_lt HX.out.r; omega
          have HFr : Hid (∀ q, v2.ownBlock = some q → w.heap.size + 2 ≤ q) := fun q e => by have h1 := hP.out.2.2 _ e; have h2 := blk_lt HX.out.r; omega
          replace HX := hide (HX.out.next hb)
          obtain ⟨⟨fa, fc, hv2, _, _⟩, _⟩ := hP.out.1.s
          subst hv2
          refine (Shut.out hK) _ _ hS (fun _ => ?_)
          clear hK K hP hb
          (try simp only [Act.put]); (try simp only [LsA, Ls0, LsS])
          refine wpAnyH_ready (rs := [4]) (by kernel_rfl) (by simp) ?_
          refine AllReadyH.cons rfl (fun K hK => ?_) AllReadyH.nil
          have c7 : w2.cell? ⟨w.heap.size, 7, none⟩ = some (.slice ac t.cs.length cc) := blk_cell (j := 7) HX.out.a rfl
          go_simp
          refine (Shut.out hK) _ _ hS (fun _ => ?_)
          clear hK K c7
          (try simp only [Act.put]); (try simp only [LsA, Ls0, LsS])
          refine heldTake 9 _ rfl (by kernel_rfl) (by kernel_rfl) (by kernel_rfl) (fun _ _ _ h => h) rfl hS (fun wy hy => by first | (go_simp; done) | (go_simp; rfl) | rfl) ?_
          (try simp only [Act.put]); (try simp only [LsA, Ls0, LsS])
          refine wpAnyH_ready (rs := [5]) (by kernel_rfl) (by simp) ?_
          refine AllReadyH.cons rfl (fun K hK => ?_) AllReadyH.nil
          go_simp
          refine (copiedCo_any w2 _ t.cs (HC0.out.mv (keep_below HX.out.b)) HN.out.2.1).mono ?_
          rintro e w3 ⟨v5, rfl, hP⟩
          have hb := hP.out.2.1
          have HC := hide hP.out.1
          have HCq : Hid (v5.ownBlock ≠ some w.heap.size) := fun e => by have h1 := hP.out.2.2 _ e; have h2 := blk_lt HX.out.r; omega
          have HCr : Hid (∀ q, v5.ownBlock = some q → w.heap.size + 2 ≤ q) := fun q e => by have h1 := hP.out.2.2 _ e; have h2 := blk_lt HX.out.r; omega
          replace HX := hide (HX.out.next hb)
          replace HF := hide (FSo.mv HF.out hb)
          obtain ⟨⟨ca, cd, hv5, _, _⟩, _⟩ := hP.out.1.s
          subst hv5
          refine (Shut.out hK) _ _ hS (fun _ => ?_)
          clear hK K hP hb
          (try simp only [Act.put]); (try simp only [LsA, Ls0, LsS])
          refine wpAnyH_ready (rs := [8]) (by kernel_rfl) (by simp) ?_
          refine AllReadyH.cons rfl (fun K hK => ?_) AllReadyH.nil
          go_simp
          refine (copiedSo_any w3 _ t.ws (HW0.out.move (keep_below HX.out.b)) HN.out.2.2).mono ?_
          rintro e w4 ⟨v8, rfl, hP⟩
          have hb := hP.out.2.1
          have HW := hide hP.out.1
          have HWq : Hid (v8.ownBlock ≠ some w.heap.size) := fun e => by have h1 := hP.out.2.2 _ e; have h2 := blk_lt HX.out.r; omega
          have HWr : Hid (∀ q, v8.ownBlock = some q → w.heap.size + 2 ≤ q) := fun q e => by have h1 := hP.out.2.2 _ e; have h2 := blk_lt HX.out.r; omega
          replace HX := hide (HX.out.next hb)
          replace HF := hide (FSo.mv HF.out hb)
          replace HC := hide (CSo.mv HC.out hb)
          obtain ⟨⟨wa, wc, hv8, _, _⟩, _, _⟩ := hP.out.1.s
          subst hv8
          refine (Shut.out hK) _ _ hS (fun _ => ?_)
          clear hK K hP hb
          (try simp only [Act.put]); (try simp only [LsA, Ls0, LsS])
          refine heldStep 10 rfl (by kernel_rfl) (fun K hK => ?_)
          have cx := blk_cell (j := 6) HX.out.a rfl
          have fx := blk_frozen 6 HX.out.a
          go_simp
          have hk := HX.out.kp 6 (.slice fa t.fs.length fc)
          have hx := HX.out.set 6 (.slice fa t.fs.length fc)
          replace HF := hide (FSo.kpb HF.out hk HFq.out)
          replace HC := hide (CSo.kpb HC.out hk HCq.out)
          replace HW := hide (SSo.kpb HW.out hk HWq.out)
          replace HX := hide hx
          refine (Hid.out hK) _ _ hS (fun _ => ?_)
          clear hK K cx fx hk hx
          (try simp only [Act.put]); (try simp only [LsA, Ls0, LsS])
          generalize w4.setCell ⟨w.heap.size, 6, none⟩ (.slice fa t.fs.length fc) = w5 at *
          refine heldTake 11 _ rfl (by kernel_rfl) (by kernel_rfl) (by kernel_rfl) (fun _ _ _ h => h) rfl hS (fun wy hy => by first | (go_simp; done) | (go_simp; rfl) | rfl) ?_
          (try simp only [Act.put]); (try simp only [LsA, Ls0, LsS])
          refine heldStep 12 rfl (by kernel_rfl) (fun K hK => ?_)
          have cx := blk_cell (j := 7) HX.out.a rfl
          have fx := blk_frozen 7 HX.out.a
          go_simp
          have hk := HX.out.kp 7 (.slice ca t.cs.length cd)
          have hx := HX.out.set 7 (.slice ca t.cs.length cd)
          replace HF := hide (FSo.kpb HF.out hk HFq.out)
          replace HC := hide (CSo.kpb HC.out hk HCq.out)
          replace HW := hide (SSo.kpb HW.out hk HWq.out)
          replace HX := hide hx
          refine (Hid.out hK) _ _ hS (fun _ => ?_)
          clear hK K cx fx hk hx
          (try simp only [Act.put]); (try simp only [LsA, Ls0, LsS])
          generalize w5.setCell ⟨w.heap.size, 7, none⟩ (.slice ca t.cs.length cd) = w6 at *
          refine heldTake 13 _ rfl (by kernel_rfl) (by kernel_rfl) (by kernel_rfl) (fun _ _ _ h => h) rfl hS (fun wy hy => by first | (go_simp; done) | (go_simp; rfl) | rfl) ?_
          (try simp only [Act.put]); (try simp only [LsA, Ls0, LsS])
          refine heldStep 14 rfl (by kernel_rfl) (fun K hK => ?_)
          have cx := blk_cell (j := 8) HX.out.a rfl
          have fx := blk_frozen 8 HX.out.a
          go_simp
          have hk := HX.out.kp 8 (.slice wa t.ws.length wc)
          have hx := HX.out.set 8 (.slice wa t.ws.length wc)
          replace HF := hide (FSo.kpb HF.out hk HFq.out)
          replace HC := hide (CSo.kpb HC.out hk HCq.out)
          replace HW := hide (SSo.kpb HW.out hk HWq.out)
          replace HX := hide hx
          refine (Hid.out hK) _ _ hS (fun _ => ?_)
          clear hK K cx fx hk hx
          (try simp only [Act.put]); (try simp only [LsA, Ls0, LsS])
          generalize w6.setCell ⟨w.heap.size, 8, none⟩ (.slice wa t.ws.length wc) = w7 at *
          refine heldDone (by kernel_rfl) ?_
          go_wp2_with fail
          go_meet
          case rel => exact ⟨_, _, _, _, _, _, HX.out, HF.out, HC.out, HW.out, HFr.out, HCr.out, HWr.out⟩
        · as_aux_lemma =>
          have c7 : w1.cell? ⟨w.heap.size, 7, none⟩ = some (.slice ac t.cs.length cc) := blk_cell (j := 7) HX.out.a rfl
          go_simp
          refine (Shut.out hK) _ _ hS (fun _ => ?_)
          clear hK K c7
          (try simp only [Act.put]); (try simp only [LsA, Ls0, LsS])
          refine wpAnyH_ready (rs := [2]) (by kernel_rfl) (by simp) ?_
          refine AllReadyH.cons rfl (fun K hK => ?_) AllReadyH.nil
          go_simp
          refine (copiedFo_any w1 _ t.fs (HF0.out.mv (keep_below HX.out.b)) HN.out.1).mono ?_
          rintro e w2 ⟨v2, rfl, hP⟩
          have hb := hP.out.2.1
          have HF := hide hP.out.1
          have HFq : Hid (v2.ownBlock ≠ some w.heap.size) := fun e => by have h1 := hP.out.2.2 _ e; have h2 := blk_lt HX.out.r; omega
          have HFr : Hid (∀ q, v2.ownBlock = some q → w.heap.size + 2 ≤ q) := fun q e => by have h1 := hP.out.2.2 _ e; have h2 := blk_lt HX.out.r; omega
          replace HX := hide (HX.out.next hb)
          obtain ⟨⟨fa, fc, hv2, _, _⟩, _⟩ := hP.out.1.s
          subst hv2
          refine (Shut.out hK) _ _ hS (fun _ => ?_)
          clear hK K hP hb
          (try simp only [Act.put]); (try simp only [LsA, Ls0, LsS])
          refine heldTake 9 _ rfl (by kernel_rfl) (by kernel_rfl) (by kernel_rfl) (fun _ _ _ h => h) rfl hS (fun wy hy => by first | (go_simp; done) | (go_simp; rfl) | rfl) ?_
          (try simp only [Act.put]); (try simp only [LsA, Ls0, LsS])
          refine wpAnyH_ready (rs := [5]) (by kernel_rfl) (by simp) ?_
          refine AllReadyH.cons rfl (fun K hK => ?_) AllReadyH.nil
          go_simp
          refine (copiedCo_any w2 _ t.cs (HC0.out.mv (keep_below HX.out.b)) HN.out.2.1).mono ?_
          rintro e w3 ⟨v5, rfl, hP⟩
          have hb := hP.out.2.1
          have HC := hide hP.out.1
          have HCq : Hid (v5.ownBlock ≠ some w.heap.size) := fun e => by have h1 := hP.out.2.2 _ e; have h2 := blk_lt HX.out.r; omega
          have HCr : Hid (∀ q, v5.ownBlock = some q → w.heap.size + 2 ≤ q) := fun q e => by have h1 := hP.out.2.2 _ e; have h2 := blk_lt HX.out.r; omega
          replace HX := hide (HX.out.next hb)
          replace HF := hide (FSo.mv HF.out hb)
          obtain ⟨⟨ca, cd, hv5, _, _⟩, _⟩ := hP.out.1.s
          subst hv5
          refine (Shut.out hK) _ _ hS (fun _ => ?_)
          clear hK K hP hb
          (try simp only [Act.put]); (try simp only [LsA, Ls0, LsS])
          refine wpAnyH_ready (rs := [8]) (by kernel_rfl) (by simp) ?_
          refine AllReadyH.cons rfl (fun K hK => ?_) AllReadyH.nil
          go_simp
          refine (copiedSo_any w3 _ t.ws (HW0.out.move (keep_below HX.out.b)) HN.out.2.2).mono ?_
          rintro e w4 ⟨v8, rfl, hP⟩
          have hb := hP.out.2.1
          have HW := hide hP.out.1
          have HWq : Hid (v8.ownBlock ≠ some w.heap.size) := fun e => by have h1 := hP.out.2.2 _ e; have h2 := blk_lt HX.out.r; omega
          have HWr : Hid (∀ q, v8.ownBlock = some q → w.heap.size + 2 ≤ q) := fun q e => by have h1 := hP.out.2.2 _ e; have h2 := blk_lt HX.out.r; omega
          replace HX := hide (HX.out.next hb)
          replace HF := hide (FSo.mv HF.out hb)
          replace HC := hide (CSo.mv HC.out hb)
          obtain ⟨⟨wa, wc, hv8, _, _⟩, _, _⟩ := hP.out.1.s
          subst hv8
          refine (Shut.out hK) _ _ hS (fun _ => ?_)
          clear hK K hP hb
          (try simp only [Act.put]); (try simp only [LsA, Ls0, LsS])
          refine heldStep 10 rfl (by kernel_rfl) (fun K hK => ?_)
          have cx := blk_cell (j := 6) HX.out.a rfl
          have fx := blk_frozen 6 HX.out.a
          go_simp
          have hk := HX.out.kp 6 (.slice fa t.fs.length fc)
          have hx := HX.out.set 6 (.slice fa t.fs.length fc)
          replace HF := hide (FSo.kpb HF.out hk HFq.out)
          replace HC := hide (CSo.kpb HC.out hk HCq.out)
          replace HW := hide (SSo.kpb HW.out hk HWq.out)
          replace HX := hide hx
          refine (Hid.out hK) _ _ hS (fun _ => ?_)
          clear hK K cx fx hk hx
          (try simp only [Act.put]); (try simp only [LsA, Ls0, LsS])
          generalize w4.setCell ⟨w.heap.size, 6, none⟩ (.slice fa t.fs.length fc) = w5 at *
          refine heldTake 11 _ rfl (by kernel_rfl) (by kernel_rfl) (by kernel_rfl) (fun _ _ _ h => h) rfl hS (fun wy hy => by first | (go_simp; done) | (go_simp; rfl) | rfl) ?_
          (try simp only [Act.put]); (try simp only [LsA, Ls0, LsS])
          refine heldStep 12 rfl (by kernel_rfl) (fun K hK => ?_)
          have cx := blk_cell (j := 7) HX.out.a rfl
          have fx := blk_frozen 7 HX.out.a
          go_simp
          have hk := HX.out.kp 7 (.slice ca t.cs.length cd)
          have hx := HX.out.set 7 (.slice ca t.cs.length cd)
          replace HF := hide (FSo.kpb HF.out hk HFq.out)
          replace HC := hide (CSo.kpb HC.out hk HCq.out)
          replace HW := hide (SSo.kpb HW.out hk HWq.out)
          replace HX := hide hx
          refine (Hid.out hK) _ _ hS (fun _ => ?_)
          clear hK K cx fx hk hx
          (try simp only [Act.put]); (try simp only [LsA, Ls0, LsS])
          generalize w5.setCell ⟨w.heap.size, 7, none⟩ (.slice ca t.cs.length cd) = w6 at *
          refine heldTake 13 _ rfl (by kernel_rfl) (by kernel_rfl) (by kernel_rfl) (fun _ _ _ h => h) rfl hS (fun wy hy => by first | (go_simp; done) | (go_simp; rfl) | rfl) ?_
          (try simp only [Act.put]); (try simp only [LsA, Ls0, LsS])
          refine heldStep 14 rfl (by kernel_rfl) (fun K hK => ?_)
          have cx := blk_cell (j := 8) HX.out.a rfl
          have fx := blk_frozen 8 HX.out.a
          go_simp
          have hk := HX.out.kp 8 (.slice wa t.ws.length wc)
          have hx := HX.out.set 8 (.slice wa t.ws.length wc)
          replace HF := hide (FSo.kpb HF.out hk HFq.out)
          replace HC := hide (CSo.kpb HC.out hk HCq.out)
          replace HW := hide (SSo.kpb HW.out hk HWq.out)
          replace HX := hide hx
          refine (Hid.out hK) _ _ hS (fun _ => ?_)
          clear hK K cx fx hk hx
          (try simp only [Act.put]); (try simp only [LsA, Ls0, LsS])
          generalize w6.setCell ⟨w.heap.size, 8, none⟩ (.slice wa t.ws.length wc) = w7 at *
          refine heldDone (by kernel_rfl) ?_
          go_wp2_with fail
          go_meet
          case rel => exact ⟨_, _, _, _, _, _, HX.out, HF.out, HC.out, HW.out, HFr.out, HCr.out, HWr.out⟩
    · as_aux_lemma =>
      have c7 : w1.cell? ⟨w.heap.size, 7, none⟩ = some (.slice ac t.cs.length cc) := blk_cell (j := 7) HX.out.a rfl
      go_simp
      refine (Shut.out hK) _ _ hS (fun _ => ?_)
      clear hK K c7
      (try simp only [Act.put]); (try simp only [LsA, Ls0, LsS])
      refine wpAnyH_ready (rs := [1, 7]) (by kernel_rfl) (by simp) ?_
      refine AllReadyH.cons rfl (fun K hK => ?_) (AllReadyH.cons rfl (fun K hK => ?_) (AllReadyH.nil))
      · as_aux_lemma =>
        have c6 : w1.cell? ⟨w.heap.size, 6, none⟩ = some (.slice af t.fs.length cf) := blk_cell (j := 6) HX.out.a rfl
        go_simp
        refine (Shut.out hK) _ _ hS (fun _ => ?_)
        clear hK K c6
        (try simp only [Act.put]); (try simp only [LsA, Ls0, LsS])
        refine wpAnyH_ready (rs := [2, 7]) (by kernel_rfl) (by simp) ?_
        refine AllReadyH.cons rfl (fun K hK => ?_) (AllReadyH.cons rfl (fun K hK => ?_) (AllReadyH.nil))
        · as_aux_lemma =>
          go_simp
          refine (copiedFo_any w1 _ t.fs (HF0.out.mv (keep_below HX.out.b)) HN.out.1).mono ?_
          rintro e w2 ⟨v2, rfl, hP⟩
          have hb := hP.out.2.1
          have HF := hide hP.out.1
          have HFq : Hid (v2.ownBlock ≠ some w.heap.size) := fun e => by have h1 := hP.out.2.2 _ e; have h2 := blk_lt HX.out.r; omega
          have HFr : Hid (∀ q, v2.ownBlock = some q → w.heap.size + 2 ≤ q) := fun q e => by have h1 := hP.out.2.2 _ e; have h2 := blk_lt HX.out.r; omega
          replace HX := hide (HX.out.next hb)
          obtain ⟨⟨fa, fc, hv2, _, _⟩, _⟩ := hP.out.1.s
          subst hv2
          refine (Shut.out hK) _ _ hS (fun _ => ?_)
          clear hK K hP hb
          (try simp only [Act.put]); (try simp only [LsA, Ls0, LsS])
          refine wpAnyH_ready (rs := [5, 7]) (by kernel_rfl) (by simp) ?_
          refine AllReadyH.cons rfl (fun K hK => ?_) (AllReadyH.cons rfl (fun K hK => ?_) (AllReadyH.nil))
          · as_aux_lemma =>
            go_simp
            refine (copiedCo_any w2 _ t.cs (HC0.out.mv (keep_below HX.out.b)) HN.out.2.1).mono ?_
            rintro e w3 ⟨v5, rfl, hP⟩
            have hb := hP.out.2.1
            have HC := hide hP.out.1
            have HCq : Hid (v5.ownBlock ≠ some w.heap.size) := fun e => by have h1 := hP.out.2.2 _ e; have h2 := blk_lt HX.out.r; omega
            have HCr : Hid (∀ q, v5.ownBlock = some q → w.heap.size + 2 ≤ q) := fun q e => by have h1 := hP.out.2.2 _ e; have h2 := blk_lt HX.out.r; omega
            replace HX := hide (HX.out.next hb)
            replace HF := hide (FSo.mv HF.out hb)
            obtain ⟨⟨ca, cd, hv5, _, _⟩, _⟩ := hP.out.1.s
            subst hv5
            refine (Shut.out hK) _ _ hS (fun _ => ?_)
            clear hK K hP hb
            (try simp only [Act.put]); (try simp only [LsA, Ls0, LsS])
            refine wpAnyH_ready (rs := [7]) (by kernel_rfl) (by simp) ?_
            refine AllReadyH.cons rfl (fun K hK => ?_) AllReadyH.nil
            have c8 : w3.cell? ⟨w.heap.size, 8, none⟩ = some (.slice aw t.ws.length cw) := blk_cell (j := 8) HX.out.a rfl
            go_simp
            refine (Shut.out hK) _ _ hS (fun _ => ?_)
            clear hK K c8
            (try simp only [Act.put]); (try simp only [LsA, Ls0, LsS])
            refine heldTake 9 _ rfl (by kernel_rfl) (by kernel_rfl) (by kernel_rfl) (fun _ _ _ h => h) rfl hS (fun wy hy => by first | (go_simp; done) | (go_simp; rfl) | rfl) ?_
            (try simp only [Act.put]); (try simp only [LsA, Ls0, LsS])
            refine wpAnyH_ready (rs := [8]) (by kernel_rfl) (by simp) ?_
            refine AllReadyH.cons rfl (fun K hK => ?_) AllReadyH.nil
            go_simp
            refine (copiedSo_any w3 _ t.ws (HW0.out.move (keep_below HX.out.b)) HN.out.2.2).mono ?_
            rintro e w4 ⟨v8, rfl, hP⟩
            have hb := hP.out.2.1
            have HW := hide hP.out.1
            have HWq : Hid (v8.ownBlock ≠ some w.heap.size) := fun e => by have h1 := hP.out.2.2 _ e; have h2 := blk_lt HX.out.r; omega
            have HWr : Hid (∀ q, v8.ownBlock = some q → w.heap.size + 2 ≤ q) := fun q e => by have h1 := hP.out.2.2 _ e; have h2 := blk_lt HX.out.r; omega
            replace HX := hide (HX.out.next hb)
            replace HF := hide (FSo.mv HF.out hb)
            replace HC := hide (CSo.mv HC.out hb)
            obtain ⟨⟨wa, wc, hv8, _, _⟩, _, _⟩ := hP.out.1.s
            subst hv8
            refine (Shut.out hK) _ _ hS (fun _ => ?_)
            clear hK K hP hb
            (try simp only [Act.put]); (try simp only [LsA, Ls0, LsS])
            refine heldStep 10 rfl (by kernel_rfl) (fun K hK => ?_)
            have cx := blk_cell (j := 6) HX.out.a rfl
            have fx := blk_frozen 6 HX.out.a
            go_simp
            have hk := HX.out.kp 6 (.slice fa t.fs.length fc)
            have hx := HX.out.set 6 (.slice fa t.fs.length fc)
            replace HF := hide (FSo.kpb HF.out hk HFq.out)
            replace HC := hide (CSo.kpb HC.out hk HCq.out)
            replace HW := hide (SSo.kpb HW.out hk HWq.out)
            replace HX := hide hx
            refine (Hid.out hK) _ _ hS (fun _ => ?_)
            clear hK K cx fx hk hx
            (try simp only [Act.put]); (try simp only [LsA, Ls0, LsS])
            generalize w4.setCell ⟨w.heap.size, 6, none⟩ (.slice fa t.fs.length fc) = w5 at *
            refine heldTake 11 _ rfl (by kernel_rfl) (by kernel_rfl) (by kernel_rfl) (fun _ _ _ h => h) rfl hS (fun wy hy => by first | (go_simp; done) | (go_simp; rfl) | rfl) ?_
            (try simp only [Act.put]); (try simp only [LsA, Ls0, LsS])
            refine heldStep 12 rfl (by kernel_rfl) (fun K hK => ?_)
            have cx := blk_cell (j := 7) HX.out.a rfl
            have fx := blk_frozen 7 HX.out.a
            go_simp
            have hk := HX.out.kp 7 (.slice ca t.cs.length cd)
            have hx := HX.out.set 7 (.slice ca t.cs.length cd)
            replace HF := hide (FSo.kpb HF.out hk HFq.out)
            replace HC := hide (CSo.kpb HC.out hk HCq.out)
            replace HW := hide (SSo.kpb HW.out hk HWq.out)
            replace HX := hide hx
            refine (Hid.out hK) _ _ hS (fun _ => ?_)
            clear hK K cx fx hk hx
            (try simp only [Act.put]); (try simp only [LsA, Ls0, LsS])
            generalize w5.setCell ⟨w.heap.size, 7, none⟩ (.slice ca t.cs.length cd) = w6 at *
            refine heldTake 13 _ rfl (by kernel_rfl) (by kernel_rfl) (by kernel_rfl) (fun _ _ _ h => h) rfl hS (fun wy hy => by first | (go_simp; done) | (go_simp; rfl) | rfl) ?_
            (try simp only [Act.put]); (try simp only [LsA, Ls0, LsS])
            refine heldStep 14 rfl (by kernel_rfl) (fun K hK => ?_)
            have cx := blk_cell (j := 8) HX.out.a rfl
            have fx := blk_frozen 8 HX.out.a
            go_simp
            have hk := HX.out.kp 8 (.slice wa t.ws.length wc)
            have hx := HX.out.set 8 (.slice wa t.ws.length wc)
            replace HF := hide (FSo.kpb HF.out hk HFq.out)
            replace HC := hide (CSo.kpb HC.out hk HCq.out)
            replace HW := hide (SSo.kpb HW.out hk HWq.out)
            replace HX := hide hx
            refine (Hid.out hK) _ _ hS (fun _ => ?_)
            clear hK K cx fx hk hx
            (try simp only [Act.put]); (try simp only [LsA, Ls0, LsS])
            generalize w6.setCell ⟨w.heap.size, 8, none⟩ (.slice wa t.ws.length wc) = w7 at *
            refine heldDone (by kernel_rfl) ?_
            go_wp2_with fail
            go_meet
            case rel => exact ⟨_, _, _, _, _, _, HX.out, HF.out, HC.out, HW.out, HFr.out, HCr.out, HWr.out⟩
          · as_aux_lemma =>
            have c8 : w2.cell? ⟨w.heap.size, 8, none⟩ = some (.slice aw t.ws.length cw) := blk_cell (j := 8) HX.out.a rfl
            go_simp
            refine (Shut.out hK) _ _ hS (fun _ => ?_)
            clear hK K c8
            (try simp only [Act.put]); (try simp only [LsA, Ls0, LsS])
            refine heldTake 9 _ rfl (by kernel_rfl) (by kernel_rfl) (by kernel_rfl) (fun _ _ _ h => h) rfl hS (fun wy hy => by first | (go_simp; done) | (go_simp; rfl) | rfl) ?_
            (try simp only [Act.put]); (try simp only [LsA, Ls0, LsS])
            refine wpAnyH_ready (rs := [5]) (by kernel_rfl) (by simp) ?_
            refine AllReadyH.cons rfl (fun K hK => ?_) AllReadyH.nil
            go_simp
            refine (copiedCo_any w2 _ t.cs (HC0.out.mv (keep_below HX.out.b)) HN.out.2.1).mono ?_
            rintro e w3 ⟨v5, rfl, hP⟩
            have hb := hP.out.2.1
            have HC := hide hP.out.1
            have HCq : Hid (v5.ownBlock ≠ some w.heap.size) := fun e => by have h1 := hP.out.2.2 _ e; have h2 := blk_lt HX.out.r; omega
            have HCr : Hid (∀ q, v5.ownBlock = some q → w.heap.size + 2 ≤ q) := fun q e => by have h1 := hP.out.2.2 _ e; have h2 := blk_lt HX.out.r; omega
            replace HX := hide (HX.out.next hb)
            replace HF := hide (FSo.mv HF.out hb)
            obtain ⟨⟨ca, cd, hv5, _, _⟩, _⟩ := hP.out.1.s
            subst hv5
            refine (Shut.out hK) _ _ hS (fun _ => ?_)
            clear hK K hP hb
            (try simp only [Act.put]); (try simp only [LsA, Ls0, LsS])
            refine wpAnyH_ready (rs := [8]) (by kernel_rfl) (by simp) ?_
            refine AllReadyH.cons rfl (fun K hK => ?_) AllReadyH.nil
            go_simp
            refine (copiedSo_any w3 _ t.ws (HW0.out.move (keep_below HX.out.b)) HN.out.2.2).mono ?_
            rintro e w4 ⟨v8, rfl, hP⟩
            have hb := hP.out.2.1
            have HW := hide hP.out.1
            have HWq : Hid (v8.ownBlock ≠ some w.heap.size) := fun e => by have h1 := hP.out.2.2 _ e; have h2 := blk_lt HX.out.r; omega
            have HWr : Hid (∀ q, v8.ownBlock = some q → w.heap.size + 2 ≤ q) := fun q e => by have h1 := hP.out.2.2 _ e; have h2 := blk_lt HX.out.r; omega
            replace HX := hide (HX.out.next hb)
            replace HF := hide (FSo.mv HF.out hb)
            replace HC := hide (CSo.mv HC.out hb)
            obtain ⟨⟨wa, wc, hv8, _, _⟩, _, _⟩ := hP.out.1.s
            subst hv8
            refine (Shut.out hK) _ _ hS (fun _ => ?_)
            clear hK K hP hb
            (try simp only [Act.put]); (try simp only [LsA, Ls0, LsS])
            refine heldStep 10 rfl (by kernel_rfl) (fun K hK => ?_)
            have cx := blk_cell (j := 6) HX.out.a rfl
            have fx := blk_frozen 6 HX.out.a
            go_simp
            have hk := HX.out.kp 6 (.slice fa t.fs.length fc)
            have hx := HX.out.set 6 (.slice fa t.fs.length fc)
            replace HF := hide (FSo.kpb HF.out hk HFq.out)
            replace HC := hide (CSo.kpb HC.out hk HCq.out)
            replace HW := hide (SSo.kpb HW.out hk HWq.out)
            replace HX := hide hx
            refine (Hid.out hK) _ _ hS (fun _ => ?_)
            clear hK K cx fx hk hx
            (try simp only [Act.put]); (try simp only [LsA, Ls0, LsS])
            generalize w4.setCell ⟨w.heap.size, 6, none⟩ (.slice fa t.fs.length fc) = w5 at *
            refine heldTake 11 _ rfl (by kernel_rfl) (by kernel_rfl) (by kernel_rfl) (fun _ _ _ h => h) rfl hS (fun wy hy => by first | (go_simp; done) | (go_simp; rfl) | rfl) ?_
            (try simp only [Act.put]); (try simp only [LsA, Ls0, LsS])
            refine heldStep 12 rfl (by kernel_rfl) (fun K hK => ?_)
            have cx := blk_cell (j := 7) HX.out.a rfl
            have fx := blk_frozen 7 HX.out.a
            go_simp
            have hk := HX.out.kp 7 (.slice ca t.cs.length cd)
            have hx := HX.out.set 7 (.slice ca t.cs.length cd)
            replace HF := hide (FSo.kpb HF.out hk HFq.out)
            replace HC := hide (CSo.kpb HC.out hk HCq.out)
            replace HW := hide (SSo.kpb HW.out hk HWq.out)
            replace HX := hide hx
            refine (Hid.out hK) _ _ hS (fun _ => ?_)
            clear hK K cx fx hk hx
            (try simp only [Act.put]); (try simp only [LsA, Ls0, LsS])
            generalize w5.setCell ⟨w.heap.size, 7, none⟩ (.slice ca t.cs.length cd) = w6 at *
            refine heldTake 13 _ rfl (by kernel_rfl) (by kernel_rfl) (by kernel_rfl) (fun _ _ _ h => h) rfl hS (fun wy hy => by first | (go_simp; done) | (go_simp; rfl) | rfl) ?_
            (try simp only [Act.put]); (try simp only [LsA, Ls0, LsS])
            refine heldStep 14 rfl (by kernel_rfl) (fun K hK => ?_)
            have cx := blk_cell (j := 8) HX.out.a rfl
            have fx := blk_frozen 8 HX.out.a
            go_simp
            have hk := HX.out.kp 8 (.slice wa t.ws.length wc)
            have hx := HX.out.set 8 (.slice wa t.ws.length wc)
            replace HF := hide (FSo.kpb HF.out hk HFq.out)
            replace HC := hide (CSo.kpb HC.out hk HCq.out)
            replace HW := hide (SSo.kpb HW.out hk HWq.out)
            replace HX := hide hx
            refine (Hid.out hK) _ _ hS (fun _ => ?_)
            clear hK K cx fx hk hx
            (try simp only [Act.put]); (try simp only [LsA, Ls0, LsS])
            generalize w6.setCell ⟨w.heap.size, 8, none⟩ (.slice wa t.ws.length wc) = w7 at *
            refine heldDone (by kernel_rfl) ?_
            go_wp2_with fail
            go_meet
            case rel => exact ⟨_, _, _, _, _, _, HX.out, HF.out, HC.out, HW.out, HFr.out, HCr.out, HWr.out⟩
        · as_aux_lemma =>
          have c8 : w1.cell? ⟨w.heap.size, 8, none⟩ = some (.slice aw t.ws.length cw) := blk_cell (j := 8) HX.out.a rfl
          go_simp
          refine (Shut.out hK) _ _ hS (fun _ => ?_)
          clear hK K c8
          (try simp only [Act.put]); (try simp only [LsA, Ls0, LsS])
          refine wpAnyH_ready (rs := [2]) (by kernel_rfl) (by simp) ?_
          refine AllReadyH.cons rfl (fun K hK => ?_) AllReadyH.nil
          go_simp
          refine (copiedFo_any w1 _ t.fs (HF0.out.mv (keep_below HX.out.b)) HN.out.1).mono ?_
          rintro e w2 ⟨v2, rfl, hP⟩
          have hb := hP.out.2.1
          have HF := hide hP.out.1
          have HFq : Hid (v2.ownBlock ≠ some w.heap.size) := fun e => by have h1 := hP.out.2.2 _ e; have h2 := blk_lt HX.out.r; omega
          have HFr : Hid (∀ q, v2.ownBlock = some q → w.heap.size + 2 ≤ q) := fun q e => by have h1 := hP.out.2.2 _ e; have h2 := blk_lt HX.out.r; omega
          replace HX := hide (HX.out.next hb)
          obtain ⟨⟨fa, fc, hv2, _, _⟩, _⟩ := hP.out.1.s
          subst hv2
          refine (Shut.out hK) _ _ hS (fun _ => ?_)
          clear hK K hP hb
          (try simp only [Act.put]); (try simp only [LsA, Ls0, LsS])
          refine heldTake 9 _ rfl (by kernel_rfl) (by kernel_rfl) (by kernel_rfl) (fun _ _ _ h => h) rfl hS (fun wy hy => by first | (go_simp; done) | (go_simp; rfl) | rfl) ?_
          (try simp only [Act.put]); (try simp only [LsA, Ls0, LsS])
          refine wpAnyH_ready (rs := [5]) (by kernel_rfl) (by simp) ?_
          refine AllReadyH.cons rfl (fun K hK => ?_) AllReadyH.nil
          go_simp
          refine (copiedCo_any w2 _ t.cs (HC0.out.mv (keep_below HX.out.b)) HN.out.2.1).mono ?_
          rintro e w3 ⟨v5, rfl, hP⟩
          have hb := hP.out.2.1
          have HC := hide hP.out.1
          have HCq : Hid (v5.ownBlock ≠ some w.heap.size) := fun e => by have h1 := hP.out.2.2 _ e; have h2 := blk_lt HX.out.r; omega
          have HCr : Hid (∀ q, v5.ownBlock = some q → w.heap.size + 2 ≤ q) := fun q e => by have h1 := hP.out.2.2 _ e; have h2 := blk_lt HX.out.r; omega
          replace HX := hide (HX.out.next hb)
          replace HF := hide (FSo.mv HF.out hb)
          obtain ⟨⟨ca, cd, hv5, _, _⟩, _⟩ := hP.out.1.s
          subst hv5
          refine (Shut.out hK) _ _ hS (fun _ => ?_)
          clear hK K hP hb
          (try simp only [Act.put]); (try simp only [LsA, Ls0, LsS])
          refine wpAnyH_ready (rs := [8]) (by kernel_rfl) (by simp) ?_
          refine AllReadyH.cons rfl (fun K hK => ?_) AllReadyH.nil
          go_simp
          refine (copiedSo_any w3 _ t.ws (HW0.out.move (keep_below HX.out.b)) HN.out.2.2).mono ?_
          rintro e w4 ⟨v8, rfl, hP⟩
          have hb := hP.out.2.1
          have HW := hide hP.out.1
          have HWq : Hid (v8.ownBlock ≠ some w.heap.size) := fun e => by have h1 := hP.out.2.2 _ e; have h2 := blk_lt HX.out.r; omega
          have HWr : Hid (∀ q, v8.ownBlock = some q → w.heap.size + 2 ≤ q) := fun q e => by have h1 := hP.out.2.2 _ e; have h2 := blk_lt HX.out.r; omega
          replace HX := hide (HX.out.next hb)
          replace HF := hide (FSo.mv HF.out hb)
          replace HC := hide (CSo.mv HC.out hb)
          obtain ⟨⟨wa, wc, hv8, _, _⟩, _, _⟩ := hP.out.1.s
          subst hv8
          refine (Shut.out hK) _ _ hS (fun _ => ?_)
          clear hK K hP hb
          (try simp only [Act.put]); (try simp only [LsA, Ls0, LsS])
          refine heldStep 10 rfl (by kernel_rfl) (fun K hK => ?_)
          have cx := blk_cell (j := 6) HX.out.a rfl
          have fx := blk_frozen 6 HX.out.a
          go_simp
          have hk := HX.out.kp 6 (.slice fa t.fs.length fc)
          have hx := HX.out.set 6 (.slice fa t.fs.length fc)
          replace HF := hide (FSo.kpb HF.out hk HFq.out)
          replace HC := hide (CSo.kpb HC.out hk HCq.out)
          replace HW := hide (SSo.kpb HW.out hk HWq.out)
          replace HX := hide hx
          refine (Hid.out hK) _ _ hS (fun _ => ?_)
          clear hK K cx fx hk hx
          (try simp only [Act.put]); (try simp only [LsA, Ls0, LsS])
          generalize w4.setCell ⟨w.heap.size, 6, none⟩ (.slice fa t.fs.length fc) = w5 at *
          refine heldTake 11 _ rfl (by kernel_rfl) (by kernel_rfl) (by kernel_rfl) (fun _ _ _ h => h) rfl hS (fun wy hy => by first | (go_simp; done) | (go_simp; rfl) | rfl) ?_
          (try simp only [Act.put]); (try simp only [LsA, Ls0, LsS])
          refine heldStep 12 rfl (by kernel_rfl) (fun K hK => ?_)
          have cx := blk_cell (j := 7) HX.out.a rfl
          have fx := blk_frozen 7 HX.out.a
          go_simp
          have hk := HX.out.kp 7 (.slice ca t.cs.length cd)
          have hx := HX.out.set 7 (.slice ca t.cs.length cd)
          replace HF := hide (FSo.kpb HF.out hk HFq.out)
          replace HC := hide (CSo.kpb HC.out hk HCq.out)
          replace HW := hide (SSo.kpb HW.out hk HWq.out)
          replace HX := hide hx
          refine (Hid.out hK) _ _ hS (fun _ => ?_)
          clear hK K cx fx hk hx
          (try simp only [Act.put]); (try simp only [LsA, Ls0, LsS])
          generalize w5.setCell ⟨w.heap.size, 7, none⟩ (.slice ca t.cs.length cd) = w6 at *
          refine heldTake 13 _ rfl (by kernel_rfl) (by kernel_rfl) (by kernel_rfl) (fun _ _ _ h => h) rfl hS (fun wy hy => by first | (go_simp; done) | (go_simp; rfl) | rfl) ?_
          (try simp only [Act.put]); (try simp only [LsA, Ls0, LsS])
          refine heldStep 14 rfl (by kernel_rfl) (fun K hK => ?_)
          have cx := blk_cell (j := 8) HX.out.a rfl
          have fx := blk_frozen 8 HX.out.a
          go_simp
          have hk := HX.out.kp 8 (.slice wa t.ws.length wc)
          have hx := HX.out.set 8 (.slice wa t.ws.length wc)
          replace HF := hide (FSo.kpb HF.out hk HFq.out)
          replace HC := hide (CSo.kpb HC.out hk HCq.out)
          replace HW := hide (SSo.kpb HW.out hk HWq.out)
          replace HX := hide hx
          refine (Hid.out hK) _ _ hS (fun _ => ?_)
          clear hK K cx fx hk hx
          (try simp only [Act.put]); (try simp only [LsA, Ls0, LsS])
          generalize w6.setCell ⟨w.heap.size, 8, none⟩ (.slice wa t.ws.length wc) = w7 at *
          refine heldDone (by kernel_rfl) ?_
          go_wp2_with fail
          go_meet
          case rel => exact ⟨_, _, _, _, _, _, HX.out, HF.out, HC.out, HW.out, HFr.out, HCr.out, HWr.out⟩
      · as_aux_lemma =>
        have c8 : w1.cell? ⟨w.heap.size, 8, none⟩ = some (.slice aw t.ws.length cw) := blk_cell (j := 8) HX.out.a rfl
        go_simp
        refine (Shut.out hK) _ _ hS (fun _ => ?_)
        clear hK K c8
        (try simp only [Act.put]); (try simp only [LsA, Ls0, LsS])
        refine wpAnyH_ready (rs := [1]) (by kernel_rfl) (by simp) ?_
        refine AllReadyH.cons rfl (fun K hK => ?_) AllReadyH.nil
        have c6 : w1.cell? ⟨w.heap.size, 6, none⟩ = some (.slice af t.fs.length cf) := blk_cell (j := 6) HX.out.a rfl
        go_simp
        refine (Shut.out hK) _ _ hS (fun _ => ?_)
        clear hK K c6
        (try simp only [Act.put]); (try simp only [LsA, Ls0, LsS])
        refine wpAnyH_ready (rs := [2]) (by kernel_rfl) (by simp) ?_
        refine AllReadyH.cons rfl (fun K hK => ?_) AllReadyH.nil
        go_simp
        refine (copiedFo_any w1 _ t.fs (HF0.out.mv (keep_below HX.out.b)) HN.out.1).mono ?_
        rintro e w2 ⟨v2, rfl, hP⟩
        have hb := hP.out.2.1
        have HF := hide hP.out.1
        have HFq : Hid (v2.ownBlock ≠ some w.heap.size) := fun e => by have h1 := hP.out.2.2 _ e; have h2 := blk_lt HX.out.r; omega
        have HFr : Hid (∀ q, v2.ownBlock = some q → w.heap.size + 2 ≤ q) := fun q e => by have h1 := hP.out.2.2 _ e; have h2 := blk_lt HX.out.r; omega
        replace HX := hide (HX.out.next hb)
        obtain ⟨⟨fa, fc, hv2, _, _⟩, _⟩ := hP.out.1.s
        subst hv2
        refine (Shut.out hK) _ _ hS (fun _ => ?_)
        clear hK K hP hb
        (try simp only [Act.put]); (try simp only [LsA, Ls0, LsS])
        refine heldTake 9 _ rfl (by kernel_rfl) (by kernel_rfl) (by kernel_rfl) (fun _ _ _ h => h) rfl hS (fun wy hy => by first | (go_simp; done) | (go_simp; rfl) | rfl) ?_
        (try simp only [Act.put]); (try simp only [LsA, Ls0, LsS])
        refine wpAnyH_ready (rs := [5]) (by kernel_rfl) (by simp) ?_
        refine AllReadyH.cons rfl (fun K hK => ?_) AllReadyH.nil
        go_simp
        refine (copiedCo_any w2 _ t.cs (HC0.out.mv (keep_below HX.out.b)) HN.out.2.1).mono ?_
        rintro e w3 ⟨v5, rfl, hP⟩
        have hb := hP.out.2.1
        have HC := hide hP.out.1
        have HCq : Hid (v5.ownBlock ≠ some w.heap.size) := fun e => by have h1 := hP.out.2.2 _ e; have h2 := blk_lt HX.out.r; omega
        have HCr : Hid (∀ q, v5.ownBlock = some q → w.heap.size + 2 ≤ q) := fun q e => by have h1 := hP.out.2.2 _ e; have h2 := blk_lt HX.out.r; omega
        replace HX := hide (HX.out.next hb)
        replace HF := hide (FSo.mv HF.out hb)
        obtain ⟨⟨ca, cd, hv5, _, _⟩, _⟩ := hP.out.1.s
        subst hv5
        refine (Shut.out hK) _ _ hS (fun _ => ?_)
        clear hK K hP hb
        (try simp only [Act.put]); (try simp only [LsA, Ls0, LsS])
        refine wpAnyH_ready (rs := [8]) (by kernel_rfl) (by simp) ?_
        refine AllReadyH.cons rfl (fun K hK => ?_) AllReadyH.nil
        go_simp
        refine (copiedSo_any w3 _ t.ws (HW0.out.move (keep_below HX.out.b)) HN.out.2.2).mono ?_
        rintro e w4 ⟨v8, rfl, hP⟩
        have hb := hP.out.2.1
        have HW := hide hP.out.1
        have HWq : Hid (v8.ownBlock ≠ some w.heap.size) := fun e => by have h1 := hP.out.2.2 _ e; have h2 := blk_lt HX.out.r; omega
        have HWr : Hid (∀ q, v8.ownBlock = some q → w.heap.size + 2 ≤ q) := fun q e => by have h1 := hP.out.2.2 _ e; have h2 := blk_lt HX.out.r; omega
        replace HX := hide (HX.out.next hb)
        replace HF := hide (FSo.mv HF.out hb)
        replace HC := hide (CSo.mv HC.out hb)
        obtain ⟨⟨wa, wc, hv8, _, _⟩, _, _⟩ := hP.out.1.s
        subst hv8
        refine (Shut.out hK) _ _ hS (fun _ => ?_)
        clear hK K hP hb
        (try simp only [Act.put]); (try simp only [LsA, Ls0, LsS])
        refine heldStep 10 rfl (by kernel_rfl) (fun K hK => ?_)
        have cx := blk_cell (j := 6) HX.out.a rfl
        have fx := blk_frozen 6 HX.out.a
        go_simp
        have hk := HX.out.kp 6 (.slice fa t.fs.length fc)
        have hx := HX.out.set 6 (.slice fa t.fs.length fc)
        replace HF := hide (FSo.kpb HF.out hk HFq.out)
        replace HC := hide (CSo.kpb HC.out hk HCq.out)
        replace HW := hide (SSo.kpb HW.out hk HWq.out)
        replace HX := hide hx
        refine (Hid.out hK) _ _ hS (fun _ => ?_)
        clear hK K cx fx hk hx
        (try simp only [Act.put]); (try simp only [LsA, Ls0, LsS])
        generalize w4.setCell ⟨w.heap.size, 6, none⟩ (.slice fa t.fs.length fc) = w5 at *
        refine heldTake 11 _ rfl (by kernel_rfl) (by kernel_rfl) (by kernel_rfl) (fun _ _ _ h => h) rfl hS (fun wy hy => by first | (go_simp; done) | (go_simp; rfl) | rfl) ?_
        (try simp only [Act.put]); (try simp only [LsA, Ls0, LsS])
        refine heldStep 12 rfl (by kernel_rfl) (fun K hK => ?_)
        have cx := blk_cell (j := 7) HX.out.a rfl
        have fx := blk_frozen 7 HX.out.a
        go_simp
        have hk := HX.out.kp 7 (.slice ca t.cs.length cd)
        have hx := HX.out.set 7 (.slice ca t.cs.length cd)
        replace HF := hide (FSo.kpb HF.out hk HFq.out)
        replace HC := hide (CSo.kpb HC.out hk HCq.out)
        replace HW := hide (SSo.kpb HW.out hk HWq.out)
        replace HX := hide hx
        refine (Hid.out hK) _ _ hS (fun _ => ?_)
        clear hK K cx fx hk hx
        (try simp only [Act.put]); (try simp only [LsA, Ls0, LsS])
        generalize w5.setCell ⟨w.heap.size, 7, none⟩ (.slice ca t.cs.length cd) = w6 at *
        refine heldTake 13 _ rfl (by kernel_rfl) (by kernel_rfl) (by kernel_rfl) (fun _ _ _ h => h) rfl hS (fun wy hy => by first | (go_simp; done) | (go_simp; rfl) | rfl) ?_
        (try simp only [Act.put]); (try simp only [LsA, Ls0, LsS])
        refine heldStep 14 rfl (by kernel_rfl) (fun K hK => ?_)
        have cx := blk_cell (j := 8) HX.out.a rfl
        have fx := blk_frozen 8 HX.out.a
        go_simp
        have hk := HX.out.kp 8 (.slice wa t.ws.length wc)
        have hx := HX.out.set 8 (.slice wa t.ws.length wc)
        replace HF := hide (FSo.kpb HF.out hk HFq.out)
        replace HC := hide (CSo.kpb HC.out hk HCq.out)
        replace HW := hide (SSo.kpb HW.out hk HWq.out)
        replace HX := hide hx
        refine (Hid.out hK) _ _ hS (fun _ => ?_)
        clear hK K cx fx hk hx
        (try simp only [Act.put]); (try simp only [LsA, Ls0, LsS])
        generalize w6.setCell ⟨w.heap.size, 8, none⟩ (.slice wa t.ws.length wc) = w7 at *
        refine heldDone (by kernel_rfl) ?_
        go_wp2_with fail
        go_meet
        case rel => exact ⟨_, _, _, _, _, _, HX.out, HF.out, HC.out, HW.out, HFr.out, HCr.out, HWr.out⟩
    · as_aux_lemma =>
      have c8 : w1.cell? ⟨w.heap.size, 8, none⟩ = some (.slice aw t.ws.length cw) := blk_cell (j := 8) HX.out.a rfl
      go_simp
      refine (Shut.out hK) _ _ hS (fun _ => ?_)
      clear hK K c8
      (try simp only [Act.put]); (try simp only [LsA, Ls0, LsS])
      refine wpAnyH_ready (rs := [1, 4]) (by kernel_rfl) (by simp) ?_
      refine AllReadyH.cons rfl (fun K hK => ?_) (AllReadyH.cons rfl (fun K hK => ?_) (AllReadyH.nil))
      · as_aux_lemma =>
        have c6 : w1.cell? ⟨w.heap.size, 6, none⟩ = some (.slice af t.fs.length cf) := blk_cell (j := 6) HX.out.a rfl
        go_simp
        refine (Shut.out hK) _ _ hS (fun _ => ?_)
        clear hK K c6
        (try simp only [Act.put]); (try simp only [LsA, Ls0, LsS])
        refine wpAnyH_ready (rs := [2, 4]) (by kernel_rfl) (by simp) ?_
        refine AllReadyH.cons rfl (fun K hK => ?_) (AllReadyH.cons rfl (fun K hK => ?_) (AllReadyH.nil))
        · as_aux_lemma =>
          go_simp
          refine (copiedFo_any w1 _ t.fs (HF0.out.mv (keep_below HX.out.b)) HN.out.1).mono ?_
          rintro e w2 ⟨v2, rfl, hP⟩
          have hb := hP.out.2.1
          have HF := hide hP.out.1
          have HFq : Hid (v2.ownBlock ≠ some w.heap.size) := fun e => by have h1 := hP.out.2.2 _ e; have h2 := blk_lt HX.out.r; omega
          have HFr : Hid (∀ q, v2.ownBlock = some q → w.heap.size + 2 ≤ q) := fun q e => by have h1 := hP.out.2.2 _ e; have h2 := blk_lt HX.out.r; omega
          replace HX := hide (HX.out.next hb)
          obtain ⟨⟨fa, fc, hv2, _, _⟩, _⟩ := hP.out.1.s
          subst hv2
          refine (Shut.out hK) _ _ hS (fun _ => ?_)
          clear hK K hP hb
          (try simp only [Act.put]); (try simp only [LsA, Ls0, LsS])
          refine wpAnyH_ready (rs := [4]) (by kernel_rfl) (by simp) ?_
          refine AllReadyH.cons rfl (fun K hK => ?_) AllReadyH.nil
          have c7 : w2.cell? ⟨w.heap.size, 7, none⟩ = some (.slice ac t.cs.length cc) := blk_cell (j := 7) HX.out.a rfl
          go_simp
          refine (Shut.out hK) _ _ hS (fun _ => ?_)
          clear hK K c7
          (try simp only [Act.put]); (try simp only [LsA, Ls0, LsS])
          refine heldTake 9 _ rfl (by kernel_rfl) (by kernel_rfl) (by kernel_rfl) (fun _ _ _ h => h) rfl hS (fun wy hy => by first | (go_simp; done) | (go_simp; rfl) | rfl) ?_
          (try simp only [Act.put]); (try simp only [LsA, Ls0, LsS])
          refine wpAnyH_ready (rs := [5]) (by kernel_rfl) (by simp) ?_
          refine AllReadyH.cons rfl (fun K hK => ?_) AllReadyH.nil
          go_simp
          refine (copiedCo_any w2 _ t.cs (HC0.out.mv (keep_below HX.out.b)) HN.out.2.1).mono ?_
          rintro e w3 ⟨v5, rfl, hP⟩
          have hb := hP.out.2.1
          have HC := hide hP.out.1
          have HCq : Hid (v5.ownBlock ≠ some w.heap.size) := fun e => by have h1 := hP.out.2.2 _ e; have h2 := blk_lt HX.out.r; omega
          have HCr : Hid (∀ q, v5.ownBlock = some q → w.heap.size + 2 ≤ q) := fun q e => by have h1 := hP.out.2.2 _ e; have h2 := blk_lt HX.out.r; omega
          replace HX := hide (HX.out.next hb)
          replace HF := hide (FSo.mv HF.out hb)
          obtain ⟨⟨ca, cd, hv5, _, _⟩, _⟩ := hP.out.1.s
          subst hv5
          refine (Shut.out hK) _ _ hS (fun _ => ?_)
          clear hK K hP hb
          (try simp only [Act.put]); (try simp only [LsA, Ls0, LsS])
          refine wpAnyH_ready (rs := [8]) (by kernel_rfl) (by simp) ?_
          refine AllReadyH.cons rfl (fun K hK => ?_) AllReadyH.nil
          go_simp
          refine (copiedSo_any w3 _ t.ws (HW0.out.move (keep_below HX.out.b)) HN.out.2.2).mono ?_
          rintro e w4 ⟨v8, rfl, hP⟩
          have hb := hP.out.2.1
          have HW := hide hP.out.1
          have HWq : Hid (v8.ownBlock ≠ some w.heap.size) := fun e => by have h1 := hP.out.2.2 _ e; have h2 := blk_lt HX.out.r; omega
          have HWr : Hid (∀ q, v8.ownBlock = some q → w.heap.size + 2 ≤ q) := fun q e => by have h1 := hP.out.2.2 _ e; have h2 := blk_lt HX.out.r; omega
          replace HX := hide (HX.out.next hb)
          replace HF := hide (FSo.mv HF.out hb)
          replace HC := hide (CSo.mv HC.out hb)
          obtain ⟨⟨wa, wc, hv8, _, _⟩, _, _⟩ := hP.out.1.s
          subst hv8
          refine (Shut.out hK) _ _ hS (fun _ => ?_)
          clear hK K hP hb
          (try simp only [Act.put]); (try simp only [LsA, Ls0, LsS])
          refine heldStep 10 rfl (by kernel_rfl) (fun K hK => ?_)
          have cx := blk_cell (j := 6) HX.out.a rfl
          have fx := blk_frozen 6 HX.out.a
          go_simp
          have hk := HX.out.kp 6 (.slice fa t.fs.length fc)
          have hx := HX.out.set 6 (.slice fa t.fs.length fc)
          replace HF := hide (FSo.kpb HF.out hk HFq.out)
          replace HC := hide (CSo.kpb HC.out hk HCq.out)
          replace HW := hide (SSo.kpb HW.out hk HWq.out)
          replace HX := hide hx
          refine (Hid.out hK) _ _ hS (fun _ => ?_)
          clear hK K cx fx hk hx
          (try simp only [Act.put]); (try simp only [LsA, Ls0, LsS])
          generalize w4.setCell ⟨w.heap.size, 6, none⟩ (.slice fa t.fs.length fc) = w5 at *
          refine heldTake 11 _ rfl (by kernel_rfl) (by kernel_rfl) (by kernel_rfl) (fun _ _ _ h => h) rfl hS (fun wy hy => by first | (go_simp; done) | (go_simp; rfl) | rfl) ?_
          (try simp only [Act.put]); (try simp only [LsA, Ls0, LsS])
          refine heldStep 12 rfl (by kernel_rfl) (fun K hK => ?_)
          have cx := blk_cell (j := 7) HX.out.a rfl
          have fx := blk_frozen 7 HX.out.a
          go_simp
          have hk := HX.out.kp 7 (.slice ca t.cs.length cd)
          have hx := HX.out.set 7 (.slice ca t.cs.length cd)
          replace HF := hide (FSo.kpb HF.out hk HFq.out)
          replace HC := hide (CSo.kpb HC.out hk HCq.out)
          replace HW := hide (SSo.kpb HW.out hk HWq.out)
          replace HX := hide hx
          refine (Hid.out hK) _ _ hS (fun _ => ?_)
          clear hK K cx fx hk hx
          (try simp only [Act.put]); (try simp only [LsA, Ls0, LsS])
          generalize w5.setCell ⟨w.heap.size, 7, none⟩ (.slice ca t.cs.length cd) = w6 at *
          refine heldTake 13 _ rfl (by kernel_rfl) (by kernel_rfl) (by kernel_rfl) (fun _ _ _ h => h) rfl hS (fun wy hy => by first | (go_simp; done) | (go_simp; rfl) | rfl) ?_
          (try simp only [Act.put]); (try simp only [LsA, Ls0, LsS])
          refine heldStep 14 rfl (by kernel_rfl) (fun K hK => ?_)
          have cx := blk_cell (j := 8) HX.out.a rfl
          have fx := blk_frozen 8 HX.out.a
          go_simp
          have hk := HX.out.kp 8 (.slice wa t.ws.length wc)
          have hx := HX.out.set 8 (.slice wa t.ws.length wc)
          replace HF := hide (FSo.kpb HF.out hk HFq.out)
          replace HC := hide (CSo.kpb HC.out hk HCq.out)
          replace HW := hide (SSo.kpb HW.out hk HWq.out)
          replace HX := hide hx
          refine (Hid.out hK) _ _ hS (fun _ => ?_)
          clear hK K cx fx hk hx
          (try simp only [Act.put]); (try simp only [LsA, Ls0, LsS])
          generalize w6.setCell ⟨w.heap.size, 8, none⟩ (.slice wa t.ws.length wc) = w7 at *
          refine heldDone (by kernel_rfl) ?_
          go_wp2_with fail
          go_meet
          case rel => exact ⟨_, _, _, _, _, _, HX.out, HF.out, HC.out, HW.out, HFr.out, HCr.out, HWr.out⟩
        · as_aux_lemma =>
          have c7 : w1.cell? ⟨w.heap.size, 7, none⟩ = some (.slice ac t.cs.length cc) := blk_cell (j := 7) HX.out.a rfl
          go_simp
          refine (Shut.out hK) _ _ hS (fun _ => ?_)
          clear hK K c7
          (try simp only [Act.put]); (try simp only [LsA, Ls0, LsS])
          refine wpAnyH_ready (rs := [2]) (by kernel_rfl) (by simp) ?_
          refine AllReadyH.cons rfl (fun K hK => ?_) AllReadyH.nil
          go_simp
          refine (copiedFo_any w1 _ t.fs (HF0.out.mv (keep_below HX.out.b)) HN.out.1).mono ?_
          rintro e w2 ⟨v2, rfl, hP⟩
          have hb := hP.out.2.1
          have HF := hide hP.out.1
          have HFq : Hid (v2.ownBlock ≠ some w.heap.size) := fun e => by have h1 := hP.out.2.2 _ e; have h2 := blk_lt HX.out.r; omega
          have HFr : Hid (∀ q, v2.ownBlock = some q → w.heap.size + 2 ≤ q) := fun q e => by have h1 := hP.out.2.2 _ e; have h2 := blk_lt HX.out.r; omega
          replace HX := hide (HX.out.next hb)
          obtain ⟨⟨fa, fc, hv2, _, _⟩, _⟩ := hP.out.1.s
          subst hv2
          refine (Shut.out hK) _ _ hS (fun _ => ?_)
          clear hK K hP hb
          (try simp only [Act.put]); (try simp only [LsA, Ls0, LsS])
          refine heldTake 9 _ rfl (by kernel_rfl) (by kernel_rfl) (by kernel_rfl) (fun _ _ _ h => h) rfl hS (fun wy hy => by first | (go_simp; done) | (go_simp; rfl) | rfl) ?_
          (try simp only [Act.put]); (try simp only [LsA, Ls0, LsS])
          refine wpAnyH_ready (rs := [5]) (by kernel_rfl) (by simp) ?_
          refine AllReadyH.cons rfl (fun K hK => ?_) AllReadyH.nil
          go_simp
          refine (copiedCo_any w2 _ t.cs (HC0.out.mv (keep_below HX.out.b)) HN.out.2.1).mono ?_
          rintro e w3 ⟨v5, rfl, hP⟩
          have hb := hP.out.2.1
          have HC := hide hP.out.1
          have HCq : Hid (v5.ownBlock ≠ some w.heap.size) := fun e => by have h1 := hP.out.2.2 _ e; have h2 := blk_lt HX.out.r; omega
          have HCr : Hid (∀ q, v5.ownBlock = some q → w.heap.size + 2 ≤ q) := fun q e => by have h1 := hP.out.2.2 _ e; have h2 := blk_lt HX.out.r; omega
          replace HX := hide (HX.out.next hb)
          replace HF := hide (FSo.mv HF.out hb)
          obtain ⟨⟨ca, cd, hv5, _, _⟩, _⟩ := hP.out.1.s
          subst hv5
          refine (Shut.out hK) _ _ hS (fun _ => ?_)
          clear hK K hP hb
          (try simp only [Act.put]); (try simp only [LsA, Ls0, LsS])
          refine wpAnyH_ready (rs := [8]) (by kernel_rfl) (by simp) ?_
          refine AllReadyH.cons rfl (fun K hK => ?_) AllReadyH.nil
          go_simp
          refine (copiedSo_any w3 _ t.ws (HW0.out.move (keep_below HX.out.b)) HN.out.2.2).mono ?_
          rintro e w4 ⟨v8, rfl, hP⟩
          have hb := hP.out.2.1
          have HW := hide hP.out.1
          have HWq : Hid (v8.ownBlock ≠ some w.heap.size) := fun e => by have h1 := hP.out.2.2 _ e; have h2 := blk_lt HX.out.r; omega
          have HWr : Hid (∀ q, v8.ownBlock = some q → w.heap.size + 2 ≤ q) := fun q e => by have h1 := hP.out.2.2 _ e; have h2 := blk_lt HX.out.r; omega
          replace HX := hide (HX.out.next hb)
          replace HF := hide (FSo.mv HF.out hb)
          replace HC := hide (CSo.mv HC.out hb)
          obtain ⟨⟨wa, wc, hv8, _, _⟩, _, _⟩ := hP.out.1.s
          subst hv8
          refine (Shut.out hK) _ _ hS (fun _ => ?_)
          clear hK K hP hb
          (try simp only [Act.put]); (try simp only [LsA, Ls0, LsS])
          refine heldStep 10 rfl (by kernel_rfl) (fun K hK => ?_)
          have cx := blk_cell (j := 6) HX.out.a rfl
          have fx := blk_frozen 6 HX.out.a
          go_simp
          have hk := HX.out.kp 6 (.slice fa t.fs.length fc)
          have hx := HX.out.set 6 (.slice fa t.fs.length fc)
          replace HF := hide (FSo.kpb HF.out hk HFq.out)
          replace HC := hide (CSo.kpb HC.out hk HCq.out)
          replace HW := hide (SSo.kpb HW.out hk HWq.out)
          replace HX := hide hx
          refine (Hid.out hK) _ _ hS (fun _ => ?_)
          clear hK K cx fx hk hx
          (try simp only [Act.put]); (try simp only [LsA, Ls0, LsS])
          generalize w4.setCell ⟨w.heap.size, 6, none⟩ (.slice fa t.fs.length fc) = w5 at *
          refine heldTake 11 _ rfl (by kernel_rfl) (by kernel_rfl) (by kernel_rfl) (fun _ _ _ h => h) rfl hS (fun wy hy => by first | (go_simp; done) | (go_simp; rfl) | rfl) ?_
          (try simp only [Act.put]); (try simp only [LsA, Ls0, LsS])
          refine heldStep 12 rfl (by kernel_rfl) (fun K hK => ?_)
          have cx := blk_cell (j := 7) HX.out.a rfl
          have fx := blk_frozen 7 HX.out.a
          go_simp
          have hk := HX.out.kp 7 (.slice ca t.cs.length cd)
          have hx := HX.out.set 7 (.slice ca t.cs.length cd)
          replace HF := hide (FSo.kpb HF.out hk HFq.out)
          replace HC := hide (CSo.kpb HC.out hk HCq.out)
          replace HW := hide (SSo.kpb HW.out hk HWq.out)
          replace HX := hide hx
          refine (Hid.out hK) _ _ hS (fun _ => ?_)
          clear hK K cx fx hk hx
          (try simp only [Act.put]); (try simp only [LsA, Ls0, LsS])
          generalize w5.setCell ⟨w.heap.size, 7, none⟩ (.slice ca t.cs.length cd) = w6 at *
          refine heldTake 13 _ rfl (by kernel_rfl) (by kernel_rfl) (by kernel_rfl) (fun _ _ _ h => h) rfl hS (fun wy hy => by first | (go_simp; done) | (go_simp; rfl) | rfl) ?_
          (try simp only [Act.put]); (try simp only [LsA, Ls0, LsS])
          refine heldStep 14 rfl (by kernel_rfl) (fun K hK => ?_)
          have cx := blk_cell (j := 8) HX.out.a rfl
          have fx := blk_frozen 8 HX.out.a
          go_simp
          have hk := HX.out.kp 8 (.slice wa t.ws.length wc)
          have hx := HX.out.set 8 (.slice wa t.ws.length wc)
          replace HF := hide (FSo.kpb HF.out hk HFq.out)
          replace HC := hide (CSo.kpb HC.out hk HCq.out)
          replace HW := hide (SSo.kpb HW.out hk HWq.out)
          replace HX := hide hx
          refine (Hid.out hK) _ _ hS (fun _ => ?_)
          clear hK K cx fx hk hx
          (try simp only [Act.put]); (try simp only [LsA, Ls0, LsS])
          generalize w6.setCell ⟨w.heap.size, 8, none⟩ (.slice wa t.ws.length wc) = w7 at *
          refine heldDone (by kernel_rfl) ?_
          go_wp2_with fail
          go_meet
          case rel => exact ⟨_, _, _, _, _, _, HX.out, HF.out, HC.out, HW.out, HFr.out, HCr.out, HWr.out⟩
      · as_aux_lemma =>
        have c7 : w1.cell? ⟨w.heap.size, 7, none⟩ = some (.slice ac t.cs.length cc) := blk_cell (j := 7) HX.out.a rfl
        go_simp
        refine (Shut.out hK) _ _ hS (fun _ => ?_)
        clear hK K c7
        (try simp only [Act.put]); (try simp only [LsA, Ls0, LsS])
        refine wpAnyH_ready (rs := [1]) (by kernel_rfl) (by simp) ?_
        refine AllReadyH.cons rfl (fun K hK => ?_) AllReadyH.nil
        have c6 : w1.cell? ⟨w.heap.size, 6, none⟩ = some (.slice af t.fs.length cf) := blk_cell (j := 6) HX.out.a rfl
        go_simp
        refine (Shut.out hK) _ _ hS (fun _ => ?_)
        clear hK K c6
        (try simp only [Act.put]); (try simp only [LsA, Ls0, LsS])
        refine wpAnyH_ready (rs := [2]) (by kernel_rfl) (by simp) ?_
        refine AllReadyH.cons rfl (fun K hK => ?_) AllReadyH.nil
        go_simp
        refine (copiedFo_any w1 _ t.fs (HF0.out.mv (keep_below HX.out.b)) HN.out.1).mono ?_
        rintro e w2 ⟨v2, rfl, hP⟩
        have hb := hP.out.2.1
        have HF := hide hP.out.1
        have HFq : Hid (v2.ownBlock ≠ some w.heap.size) := fun e => by have h1 := hP.out.2.2 _ e; have h2 := blk_lt HX.out.r; omega
        have HFr : Hid (∀ q, v2.ownBlock = some q → w.heap.size + 2 ≤ q) := fun q e => by have h1 := hP.out.2.2 _ e; have h2 := blk_lt HX.out.r; omega
        replace HX := hide (HX.out.next hb)
        obtain ⟨⟨fa, fc, hv2, _, _⟩, _⟩ := hP.out.1.s
        subst hv2
        refine (Shut.out hK) _ _ hS (fun _ => ?_)
        clear hK K hP hb
        (try simp only [Act.put]); (try simp only [LsA, Ls0, LsS])
        refine heldTake 9 _ rfl (by kernel_rfl) (by kernel_rfl) (by kernel_rfl) (fun _ _ _ h => h) rfl hS (fun wy hy => by first | (go_simp; done) | (go_simp; rfl) | rfl) ?_
        (try simp only [Act.put]); (try simp only [LsA, Ls0, LsS])
        refine wpAnyH_ready (rs := [5]) (by kernel_rfl) (by simp) ?_
        refine AllReadyH.cons rfl (fun K hK => ?_) AllReadyH.nil
        go_simp
        refine (copiedCo_any w2 _ t.cs (HC0.out.mv (keep_below HX.out.b)) HN.out.2.1).mono ?_
        rintro e w3 ⟨v5, rfl, hP⟩
        have hb := hP.out.2.1
        have HC := hide hP.out.1
        have HCq : Hid (v5.ownBlock ≠ some w.heap.size) := fun e => by have h1 := hP.out.2.2 _ e; have h2 := blk_lt HX.out.r; omega
        have HCr : Hid (∀ q, v5.ownBlock = some q → w.heap.size + 2 ≤ q) := fun q e => by have h1 := hP.out.2.2 _ e; have h2 := blk_lt HX.out.r; omega
        replace HX := hide (HX.out.next hb)
        replace HF := hide (FSo.mv HF.out hb)
        obtain ⟨⟨ca, cd, hv5, _, _⟩, _⟩ := hP.out.1.s
        subst hv5
        refine (Shut.out hK) _ _ hS (fun _ => ?_)
        clear hK K hP hb
        (try simp only [Act.put]); (try simp only [LsA, Ls0, LsS])
        refine wpAnyH_ready (rs := [8]) (by kernel_rfl) (by simp) ?_
        refine AllReadyH.cons rfl (fun K hK => ?_) AllReadyH.nil
        go_simp
        refine (copiedSo_any w3 _ t.ws (HW0.out.move (keep_below HX.out.b)) HN.out.2.2).mono ?_
        rintro e w4 ⟨v8, rfl, hP⟩
        have hb := hP.out.2.1
        have HW := hide hP.out.1
        have HWq : Hid (v8.ownBlock ≠ some w.heap.size) := fun e => by have h1 := hP.out.2.2 _ e; have h2 := blk_lt HX.out.r; omega
        have HWr : Hid (∀ q, v8.ownBlock = some q → w.heap.size + 2 ≤ q) := fun q e => by have h1 := hP.out.2.2 _ e; have h2 := blk_lt HX.out.r; omega
        replace HX := hide (HX.out.next hb)
        replace HF := hide (FSo.mv HF.out hb)
        replace HC := hide (CSo.mv HC.out hb)
        obtain ⟨⟨wa, wc, hv8, _, _⟩, _, _⟩ := hP.out.1.s
        subst hv8
        refine (Shut.out hK) _ _ hS (fun _ => ?_)
        clear hK K hP hb
        (try simp only [Act.put]); (try simp only [LsA, Ls0, LsS])
        refine heldStep 10 rfl (by kernel_rfl) (fun K hK => ?_)
        have cx := blk_cell (j := 6) HX.out.a rfl
        have fx := blk_frozen 6 HX.out.a
        go_simp
        have hk := HX.out.kp 6 (.slice fa t.fs.length fc)
        have hx := HX.out.set 6 (.slice fa t.fs.length fc)
        replace HF := hide (FSo.kpb HF.out hk HFq.out)
        replace HC := hide (CSo.kpb HC.out hk HCq.out)
        replace HW := hide (SSo.kpb HW.out hk HWq.out)
        replace HX := hide hx
        refine (Hid.out hK) _ _ hS (fun _ => ?_)
        clear hK K cx fx hk hx
        (try simp only [Act.put]); (try simp only [LsA, Ls0, LsS])
        generalize w4.setCell ⟨w.heap.size, 6, none⟩ (.slice fa t.fs.length fc) = w5 at *
        refine heldTake 11 _ rfl (by kernel_rfl) (by kernel_rfl) (by kernel_rfl) (fun _ _ _ h => h) rfl hS (fun wy hy => by first | (go_simp; done) | (go_simp; rfl) | rfl) ?_
        (try simp only [Act.put]); (try simp only [LsA, Ls0, LsS])
        refine heldStep 12 rfl (by kernel_rfl) (fun K hK => ?_)
        have cx := blk_cell (j := 7) HX.out.a rfl
        have fx := blk_frozen 7 HX.out.a
        go_simp
        have hk := HX.out.kp 7 (.slice ca t.cs.length cd)
        have hx := HX.out.set 7 (.slice ca t.cs.length cd)
        replace HF := hide (FSo.kpb HF.out hk HFq.out)
        replace HC := hide (CSo.kpb HC.out hk HCq.out)
        replace HW := hide (SSo.kpb HW.out hk HWq.out)
        replace HX := hide hx
        refine (Hid.out hK) _ _ hS (fun _ => ?_)
        clear hK K cx fx hk hx
        (try simp only [Act.put]); (try simp only [LsA, Ls0, LsS])
        generalize w5.setCell ⟨w.heap.size, 7, none⟩ (.slice ca t.cs.length cd) = w6 at *
        refine heldTake 13 _ rfl (by kernel_rfl) (by kernel_rfl) (by kernel_rfl) (fun _ _ _ h => h) rfl hS (fun wy hy => by first | (go_simp; done) | (go_simp; rfl) | rfl) ?_
        (try simp only [Act.put]); (try simp only [LsA, Ls0, LsS])
        refine heldStep 14 rfl (by kernel_rfl) (fun K hK => ?_)
        have cx := blk_cell (j := 8) HX.out.a rfl
        have fx := blk_frozen 8 HX.out.a
        go_simp
        have hk := HX.out.kp 8 (.slice wa t.ws.length wc)
        have hx := HX.out.set 8 (.slice wa t.ws.length wc)
        replace HF := hide (FSo.kpb HF.out hk HFq.out)
        replace HC := hide (CSo.kpb HC.out hk HCq.out)
        replace HW := hide (SSo.kpb HW.out hk HWq.out)
        replace HX := hide hx
        refine (Hid.out hK) _ _ hS (fun _ => ?_)
        clear hK K cx fx hk hx
        (try simp only [Act.put]); (try simp only [LsA, Ls0, LsS])
        generalize w6.setCell ⟨w.heap.size, 8, none⟩ (.slice wa t.ws.length wc) = w7 at *
        refine heldDone (by kernel_rfl) ?_
        go_wp2_with fail
        go_meet
        case rel => exact ⟨_, _, _, _, _, _, HX.out, HF.out, HC.out, HW.out, HFr.out, HCr.out, HWr.out⟩
  obtain ⟨fa, fc, ca, cd, wa, wc, hx, h1, h2, h3, hq⟩ := hcut.out
  have HQ := hide hq
  rename World => w9
  have HX9 := hide hx
  have HF9 := hide h1
  have HC9 := hide h2
  have HW9 := hide h3
  have HR := hide hx.r
  have HTC : Hid (∀ j u, (#[.string t.n, .int .i64 t.k, .int .i64 t.lo, .int .i64 t.hi, .string t.r.n, .bool t.r.z, .slice fa t.fs.length fc, .slice ca t.cs.length cd, .slice wa t.ws.length wc] : Array Value)[j]? = some u → w9.cell? ⟨w.heap.size, 0 + j, none⟩ = some u) := fun j u hu => by rw [Nat.zero_add]; exact blk_cell HX9.out.a hu
  have HIT := hide infoTp
  have HAT : Hid (∀ w, (isAgg 69).run Tryz.prog w = .ok true w) := aggTp
  have HI2 : Hid ((Tryz.prog.info? 69).map (·.size) = some (#[.string t.n, .int .i64 t.k, .int .i64 t.lo, .int .i64 t.hi, .string t.r.n, .bool t.r.z, .slice fa t.fs.length fc, .slice ca t.cs.length cd, .slice wa t.ws.length wc] : Array Value).size) := infoTp
  have HA1 : Hid ((#[.string t.n, .int .i64 t.k, .int .i64 t.lo, .int .i64 t.hi, .string t.r.n, .bool t.r.z, .slice fa t.fs.length fc, .slice ca t.cs.length cd, .slice wa t.ws.length wc] : Array Value).all (·.oneCell') = true) := by show _ = _; simp [Value.oneCell']
  clear hx h1 h2 h3 HX
  go_wp2_with (first
    | (refine wpList_aggAt rfl rfl HIT.out HAT.out w.heap.size 0 #[.string t.n, .int .i64 t.k, .int .i64 t.lo, .int .i64 t.hi, .string t.r.n, .bool t.r.z, .slice fa t.fs.length fc, .slice ca t.cs.length cd, .slice wa t.ws.length wc] rfl rfl HTC.out ?_)
    | (refine wpList_storeRow rfl rfl (w.heap.size + 1) #[.string ⟨#[]⟩, .int .i64 0, .int .i64 0, .int .i64 0, .string ⟨#[]⟩, .bool false, .slice none 0 0, .slice none 0 0, .slice none 0 0] #[.string t.n, .int .i64 t.k, .int .i64 t.lo, .int .i64 t.hi, .string t.r.n, .bool t.r.z, .slice fa t.fs.length fc, .slice ca t.cs.length cd, .slice wa t.ws.length wc] 69 rfl rfl HR.out HI2.out rfl HA1.out ?_))
  have hkr := row_kp w9 (w.heap.size + 1) #[.string t.n, .int .i64 t.k, .int .i64 t.lo, .int .i64 t.hi, .string t.r.n, .bool t.r.z, .slice fa t.fs.length fc, .slice ca t.cs.length cd, .slice wa t.ws.length wc]
  have hn1 : ∀ {v : Value} {g : Nat}, (∀ q, v.ownBlock = some q → w.heap.size + 2 ≤ q) → g < w.heap.size + 2 → v.ownBlock ≠ some g := fun h hg e => by have := h _ e; omega
  have hfin : Tpi (w9.setRow (w.heap.size + 1) #[.string t.n, .int .i64 t.k, .int .i64 t.lo, .int .i64 t.hi, .string t.r.n, .bool t.r.z, .slice fa t.fs.length fc, .slice ca t.cs.length cd, .slice wa t.ws.length wc]) t #[.string t.n, .int .i64 t.k, .int .i64 t.lo, .int .i64 t.hi, .string t.r.n, .bool t.r.z, .slice fa t.fs.length fc, .slice ca t.cs.length cd, .slice wa t.ws.length wc] := ⟨⟨_, _, _, rfl, FSl.kpb HF9.out.s hkr (hn1 HQ.out.1 (by omega)), CSl.kpb HC9.out.s hkr (hn1 HQ.out.2.1 (by omega)), SSl.kpb HW9.out.s hkr (hn1 HQ.out.2.2 (by omega))⟩, HBD.out⟩
  have hkp : ∀ (S : Nat → Prop) wy, (∀ q, S q → q < w.heap.size) → Kp S (w9.setRow (w.heap.size + 1) #[.string t.n, .int .i64 t.k, .int .i64 t.lo, .int .i64 t.hi, .string t.r.n, .bool t.r.z, .slice fa t.fs.length fc, .slice ca t.cs.length cd, .slice wa t.ws.length wc]) wy → Tpi wy t #[.string t.n, .int .i64 t.k, .int .i64 t.lo, .int .i64 t.hi, .string t.r.n, .bool t.r.z, .slice fa t.fs.length fc, .slice ca t.cs.length cd, .slice wa t.ws.length wc] := fun S wy hg hk => by
    have hn2 : ∀ {v : Value}, (∀ q, v.ownBlock = some q → w.heap.size + 2 ≤ q) → ∀ q, v.ownBlock = some q → ¬ S q := fun h q e hs => by have h1 := h q e; have h2 := hg q hs; omega
    refine ⟨⟨_, _, _, rfl, FSl.kps (FSl.kpb HF9.out.s hkr (hn1 HQ.out.1 (by omega))) hk (hn2 HQ.out.1), CSl.kps (CSl.kpb HC9.out.s hkr (hn1 HQ.out.2.1 (by omega))) hk (hn2 HQ.out.2.1), SSl.kps (SSl.kpb HW9.out.s hkr (hn1 HQ.out.2.2 (by omega))) hk (hn2 HQ.out.2.2)⟩, HBD.out⟩
  have hty : Tyo (w9.setRow (w.heap.size + 1) #[.string t.n, .int .i64 t.k, .int .i64 t.lo, .int .i64 t.hi, .string t.r.n, .bool t.r.z, .slice fa t.fs.length fc, .slice ca t.cs.length cd, .slice wa t.ws.length wc]) w.heap.size (fun q => w.heap.size + 2 ≤ q ∧ q < (w9.setRow (w.heap.size + 1) #[.string t.n, .int .i64 t.k, .int .i64 t.lo, .int .i64 t.hi, .string t.r.n, .bool t.r.z, .slice fa t.fs.length fc, .slice ca t.cs.length cd, .slice wa t.ws.length wc]).heap.size) #[.string t.n, .int .i64 t.k, .int .i64 t.lo, .int .i64 t.hi, .string t.r.n, .bool t.r.z, .slice fa t.fs.length fc, .slice ca t.cs.length cd, .slice wa t.ws.length wc] := by
    obtain ⟨b1, n1, y1, o1⟩ := (FSo.kpb HF9.out hkr (hn1 HQ.out.1 (by omega))).o
    obtain ⟨b2, n2, y2, o2⟩ := (CSo.kpb HC9.out hkr (hn1 HQ.out.2.1 (by omega))).o
    obtain ⟨b3, n3, y3, o3⟩ := (SSo.kpb HW9.out hkr (hn1 HQ.out.2.2 (by omega))).o
    have l1 := own_long o1
    have l2 := own_long o2
    have l3 := own_long o3
    have hN := HN.out
    exact ⟨t, _, _, _, n1, n2, n3, y1, y2, y3, rfl, own_rebase o1 (fun q e => by have := HQ.out.1 q e; omega), own_rebase o2 (fun q e => by have := HQ.out.2.1 q e; omega), own_rebase o3 (fun q e => by have := HQ.out.2.2 q e; omega), by omega, by omega, by omega, fun q e => ⟨HQ.out.1 q e, (o1.lt q e).2⟩, fun q e => ⟨HQ.out.2.1 q e, (o2.lt q e).2⟩, fun q e => ⟨HQ.out.2.2 q e, (o3.lt q e).2⟩⟩
  exact bodyPost_ret (results_cell_row rfl _ _ _ _ _ _ _ rfl (row_same HR.out) Tryz.underlying69 rfl infoTp) rfl ⟨_, rfl, hfin, HX9.out.b.trans (hkr.below HX9.out.b.size (fun q e => by omega)), hkp, hty⟩
theorem fresh_any (w : World) (t : Tp) (c : Array Value) (hc : Tpi w t c) (hf1 : t.fs.length ≤ 1000) (hc1 : t.cs.length ≤ 1000) (hw1 : t.ws.length ≤ 1000) : Calls Tryz.prog 19 #[.agg c] w fun e w' => ∃ c', e = .returned (.agg c') ∧ Hid (Tpi w' t c' ∧ Below w.heap.size w w' ∧ ∀ (S : Nat → Prop) wy, (∀ q, S q → q < w.heap.size) → Kp S w' wy → Tpi wy t c') := by
  refine (fresho_any w t c hc hf1 hc1 hw1).mono ?_
  rintro e w' ⟨c', rfl, hP⟩
  exact ⟨c', rfl, hP.out.1, hP.out.2.1, hP.out.2.2.1⟩
end
end Go.Proofs.YtbbalhfjgpaabaaGreatDoor

import Derived.Test.YtagkogpjckjobaaGreatDoorJn
import Derived.Test.YtagkogpjckjobaaGreatDoorJo
namespace Go.Proofs.YtagkogpjckjobaaGreatDoor
section
open Go.RowKit Go
/-! ### What types speak of -/
structure Spk (w0 w : World) (N T g : Nat) (l : List Tp) (wx : World) : Prop where
  t : Tst wx N T g l
  k : Kp (fun q => q = g) w wx
  b : Below w0.heap.size w0 wx
theorem Spk.next {w0 w wx wy : World} {N T g : Nat} {l : List Tp} (h : Spk w0 w N T g l wx) (hb : Below wx.heap.size wx wy) : Spk w0 w N T g l wy :=
  ⟨h.t.next hb, h.k.trans (Kp.of_below (S := fun _ => False) hb) (fun _ _ e => e.elim), h.b.trans (hb.mono h.b.size)⟩
theorem Spk.ask {w0 w wx wy : World} {N T g : Nat} {l : List Tp} (h : Spk w0 w N T g l wx) (hk : Kp (fun q => q = g) wx wy) (t : Tst wy N T g l) (h0 : w0.heap.size ≤ N) : Spk w0 w N T g l wy := by
  have hg := h.t.g
  exact ⟨t, h.k.trans hk (fun _ _ e => e), h.b.trans (hk.below h.b.size (fun q e => by omega))⟩
theorem Spk.lt {w0 w wx : World} {N T g : Nat} {l : List Tp} (h : Spk w0 w N T g l wx) : g < wx.heap.size := by
  obtain ⟨c, hc⟩ := h.t.cells
  exact blk_lt hc
theorem Spk.base {w0 w wx : World} {N T g : Nat} {l : List Tp} (h : Spk w0 w N T g l wx) : Spk w0 wx N T g l wx := ⟨h.t, Kp.refl _ _, h.b⟩
theorem Spk.back {w0 w w1 wx : World} {N T g : Nat} {l : List Tp} (h : Spk w0 w1 N T g l wx) (hk : Kp (fun q => q = g) w w1) : Spk w0 w N T g l wx := ⟨h.t, hk.trans h.k (fun _ _ e => e), h.b⟩
theorem Spk.grow {w0 W wx wy : World} {N T g : Nat} {l : List Tp} {v : Value} {L : List ByteArray} (h : Spk w0 W N T g l wx) (hr : Srw W.heap.size W.heap.size v L wx) (hg : wx.grownBy wy v.ownBlock) (hT : T ≤ W.heap.size) (h0 : w0.heap.size ≤ W.heap.size) : Spk w0 W N T g l wy := by
  have hk := kp_grown hg
  have hq : ∀ q, v.ownBlock = some q → W.heap.size ≤ q := fun q e => by rcases hr.p q e with e | e <;> omega
  refine ⟨?_, h.k.trans hk (fun q hq' e => by have := hq q e; omega), h.b.trans (hk.below h.b.size (fun q e => by have := hq q e; omega))⟩
  rcases id hr.o.2 with ⟨e, _⟩ | ⟨A, cap, cur, e, _, hc, _⟩
  · subst e
    exact h.t.next (hk.below (Nat.le_refl _) (fun q e => by cases e))
  · subst e
    exact h.t.other (A := A) (hk.mono (fun q _ e => (Option.some.inj e).symm)) (.inr (Nat.le_trans hT (hq A rfl))) hc
theorem avr_kp {wx wy : World} {g gx : Nat} {c : Array Value} {t : Tp} (h : Avr wx g g gx c t) (hk : Kp (fun q => q = g) wx wy) : Avr wy g g gx c t := h.kp (hk.mono (fun _ _ e => .inl e))
theorem tpi_fs {w : World} {t : Tp} {vf vc vw : Value} (h : Tpi w t (tpc t vf vc vw)) : FSl w vf t.fs ∧ CSl w vc t.cs := by
  obtain ⟨⟨vf', vc', vw', e, h1, h2, _⟩, _⟩ := h
  unfold tpc at e
  have e' := congrArg Array.toList e
  simp only [List.cons.injEq, true_and, and_true] at e'
  obtain ⟨rfl, rfl, rfl⟩ := e'
  exact ⟨h1, h2⟩
/-- The row of names that a type speaks of: each of them known. -/
structure Nsp (w0 W : World) (N T g : Nat) (l : List Tp) (v : Value) (n : Nat) (wx : World) : Prop where
  s : Spk w0 W N T g l wx
  r : ∃ L, Srw W.heap.size W.heap.size v L wx ∧ L.length ≤ n ∧ ∀ s ∈ L, (fnd l s).2 = true
theorem Nsp.start {w0 W wx : World} {N T g : Nat} {l : List Tp} (h : Spk w0 W N T g l wx) : Nsp w0 W N T g l (.slice none 0 0) 0 wx := ⟨h, [], Srw.nil _ _ _, Nat.le_refl _, fun _ h => by cases h⟩
theorem Nsp.more {w0 W wx : World} {N T g : Nat} {l : List Tp} {v : Value} {n m : Nat} (h : Nsp w0 W N T g l v n wx) (hm : n ≤ m) : Nsp w0 W N T g l v m wx := by
  obtain ⟨L, h1, h2, h3⟩ := h.r
  exact ⟨h.s, L, h1, Nat.le_trans h2 hm, h3⟩
theorem Nsp.law {w0 W wx : World} {N T g : Nat} {l : List Tp} {a0 : Option Addr} {n0 c0 n : Nat} {x : ByteArray} (h : Nsp w0 W N T g l (.slice a0 n0 c0) n wx) (hx : x.size ≤ 140737488351232) (hk : (fnd l x).2 = true) (hn : n ≤ 100000) (hT : T ≤ W.heap.size) (h0 : w0.heap.size ≤ W.heap.size) {ops : Array Oper} {rest : List Oper} {o : Oper} {ac : Act} {Q : Exit → Act → World → Prop} {s y : Operand} (h1 : o.guard = none) (h2 : o.op = .call { callee := .builtin .append, args := #[s, y], argTypes := #[27, 27] }) (h3 : ac.eval s = .slice a0 n0 c0) (h4 : ac.eval y = .slice (some ⟨wx.heap.size, 0, none⟩) 1 1)
    (h5 : ∀ a9 n9 c9 w', Hid (Nsp w0 W N T g l (.slice a9 n9 c9) (n + 1) w') → wpList Tryz.prog ops Q rest (ac.put o.dst (.slice a9 n9 c9)) w') : wpList Tryz.prog ops Q (o :: rest) ac (wx.alloc (.cells #[.string x] 9)) := by
  have hb := below_alloc4 wx (.cells #[.string x] 9)
  obtain ⟨L, hr, hL, hm⟩ := h.r
  have h' := h.s.next hb
  have hr' := hr.next hb
  have hz : W.heap.size ≤ (wx.alloc (.cells #[.string x] 9)).heap.size := h'.k.size
  refine Srw.law hr' hx (by omega) hz hz (heap_alloc_new wx _) h1 h2 h3 h4 (fun a9 n9 c9 w' hP => h5 a9 n9 c9 w' ⟨h'.grow hr' hP.out.2.1 hT h0, L ++ [x], hP.out.1, by rw [List.length_append, List.length_singleton]; omega, fun s hs => ?_⟩)
  rcases List.mem_append.1 hs with hs | hs
  · exact hm s hs
  · rw [List.mem_singleton.1 hs]; exact hk
theorem fls_same {l : List Tp} {F G : List ByteArray} (g : Gdl l) (f : Fls l F) (h : Fls l G) (s : ByteArray) : memb F s = memb G s := by
  have h1 := Alk.fls (T := l) (U := l) ⟨g, g, fun _ => Iff.rfl, rfl⟩ f h s
  rw [Bool.eq_iff_iff, memb_iff, memb_iff]
  exact h1
theorem tpi_c0 {w : World} {t : Tp} {c : Array Value} (h : Tpi w t c) : c[0]? = some (.string t.n) := by
  obtain ⟨⟨_, _, _, rfl, _⟩, _⟩ := h
  rfl
theorem tpi_c1 {w : World} {t : Tp} {c : Array Value} (h : Tpi w t c) : c[1]? = some (.int .i64 t.k) := by
  obtain ⟨⟨_, _, _, rfl, _⟩, _⟩ := h
  rfl
set_option maxRecDepth 1000000 in
set_option maxHeartbeats 8000000 in
theorem spoken_any {w0 w : World} {N T g : Nat} {l : List Tp} (hA : Spk w0 w N T g l w) (hO : Otb w0) (h0 : w0.heap.size ≤ N) (hS : Shrt l) (ok : Okl l) (vl : Value) (hl : TSl w0 vl l) : Calls Tryz.prog 14 #[.pointer (some ⟨g, 0, none⟩), vl] w fun e w' => e = .returned (.bool true) ∧ Hid (Spk w0 w N T g l w') := by
  have HA0 := hide hA
  have HO := hide hO
  have H0 := hide h0
  have HS1 := hide hS
  have HOK := hide ok
  have HR1 := hide (tsl_r hl)
  have HTL := hide hl
  have H64 : Hid (l.length ≤ 64) := by have := ok.m; show _ ≤ _; omega
  obtain ⟨⟨al, cl, rfl, _, _⟩, _⟩ := hl
  have HI := hide infoTp
  have HAG : Hid (∀ w, (isAgg 29).run Tryz.prog w = .ok true w) := aggTp
  have hmax : l.length ≤ 140737488351232 := by have := H64.out; omega
  clear hA hO h0 hS ok
  go_enter Tryz.func14, Tryz.ntmps14
  go_wp2_with fail
  go_loopw [5] (fun vi wx => ∃ (i : Nat), i ≤ l.length ∧ vi = .int .i64 (i : Nat) ∧ Hid (Spk w0 w N T g l wx)) (fun vi _ => l.length - (intOf vi).toNat)
  case atStart => exact ⟨0, by omega, rfl, HA0⟩
  case round =>
    obtain ⟨i, hi, rfl, HA⟩ := hrel
    clear HA0
    by_cases hlt : i < l.length
    · have g1' : (i : Int) < (l.length : Int) := by omega
      obtain ⟨t, ht⟩ : ∃ t, l[i]? = some t := ⟨l[i], List.getElem?_eq_getElem hlt⟩
      have hm := List.mem_of_getElem? ht
      have HTM := hide hm
      have HFN : Hid ((fnd l t.n).1 = t) := by show _ = _; rw [fnd_mem HOK.out.gdl hm]
      have HFK : Hid ((fnd l t.n).2 = true) := by show _ = _; rw [fnd_mem HOK.out.gdl hm]
      have hbk := base_known HOK.out HFK.out
      obtain ⟨b, off, c, han, hc, hcc, hcn, hts⟩ := tsl_at HTL.out ht
      subst han
      have HTS := hide hts
      have HCT : Hid (∀ wy, Below w0.heap.size w0 wy → Tpi wy t c) := fun wy hy => hc.move (keep_below hy)
      have HCL : Hid (∀ wy, Below w0.heap.size w0 wy → ∀ j u, c[j]? = some u → wy.cell? ⟨b, off + i * 9 + j, none⟩ = some u) := fun wy hy j u hj => keep_below hy _ _ (hcc j u hj)
      have HCN : Hid (∀ wy, Below w0.heap.size w0 wy → wy.cell? ⟨b, off + i * 9, none⟩ = some (.string t.n)) := fun wy hy => keep_below hy _ _ hcn
      have HZC := hide hc.size9
      have HRZ := hide (rfs_size hc)
      obtain ⟨u, hu⟩ : ∃ u, u = (fnd l (flo l t.n).1).1 := ⟨_, rfl⟩
      have HU := hide hu
      have HBK : Hid ((fnd l (flo l t.n).1).2 = true) := hbk.1
      have gku : (u.k == 1) = false := by rw [hu]; exact beq_eq_false_iff_ne.2 hbk.2
      clear ht hm hbk hc hcc hcn hts hu
      have q4 : wr.cell? ⟨b, off + i * 9, none⟩ = some (.string t.n) := HCN.out wr HA.out.b
      have HKW := hide HA.out.k
      go_wp2_with fail
      refine (tst_find2 HA.out.t (HO.out.next (keep_below HA.out.b)) HS1.out t.n HTS.out).mono ?_
      rintro e u4 ⟨c4, rfl, hP⟩
      rw [HFN.out] at hP
      rw [HFK.out]
      have hX := Avr.of (Z := #[.string ⟨#[]⟩, .int .i64 0, .int .i64 0, .int .i64 0, .string ⟨#[]⟩, .bool false, .slice none 0 0, .slice none 0 0, .slice none 0 0]) hP.out.2.1 HA.out.lt HA.out.lt hP.out.2.2
      have hbb : Below wr.heap.size wr ((u4.alloc (.cells #[.string ⟨#[]⟩, .int .i64 0, .int .i64 0, .int .i64 0, .string ⟨#[]⟩, .bool false, .slice none 0 0, .slice none 0 0, .slice none 0 0] 29)).setRow u4.heap.size c4) := hP.out.2.1.trans (hX.2.mono hP.out.2.1.size)
      have HV4 := hide hX.1
      have HI4 : Hid ((Tryz.prog.info? 29).map (·.size) = some c4.size) := by show _ = _; rw [hP.out.1.size9]; exact infoTp
      have HZ4 : Hid ((#[.string ⟨#[]⟩, .int .i64 0, .int .i64 0, .int .i64 0, .string ⟨#[]⟩, .bool false, .slice none 0 0, .slice none 0 0, .slice none 0 0] : Array Value).size = c4.size) := by show _ = _; rw [hP.out.1.size9]; rfl
      have HZ94 := hide hP.out.1.size9
      have HO4 := hide hP.out.1.all1
      have HC04 := hide (tpi_c0 hP.out.1)
      have HC14 := hide (tpi_c1 hP.out.1)
      have HM4 := hide (heap_alloc_new u4 (.cells #[.string ⟨#[]⟩, .int .i64 0, .int .i64 0, .int .i64 0, .string ⟨#[]⟩, .bool false, .slice none 0 0, .slice none 0 0, .slice none 0 0] 29))
      replace HA := hide (HA.out.next hbb)
      clear hP hX hbb
      clear q4
      have q5 : ((u4.alloc (.cells #[.string ⟨#[]⟩, .int .i64 0, .int .i64 0, .int .i64 0, .string ⟨#[]⟩, .bool false, .slice none 0 0, .slice none 0 0, .slice none 0 0] 29)).setRow u4.heap.size c4).cell? ⟨b, off + i * 9, none⟩ = some (.string t.n) := HCN.out _ HA.out.b
      go_wp2_with (refine wpList_storeRow rfl rfl u4.heap.size #[.string ⟨#[]⟩, .int .i64 0, .int .i64 0, .int .i64 0, .string ⟨#[]⟩, .bool false, .slice none 0 0, .slice none 0 0, .slice none 0 0] c4 29 rfl rfl HM4.out HI4.out HZ4.out HO4.out ?_)
      generalize (u4.alloc (.cells #[.string ⟨#[]⟩, .int .i64 0, .int .i64 0, .int .i64 0, .string ⟨#[]⟩, .bool false, .slice none 0 0, .slice none 0 0, .slice none 0 0] 29)).setRow u4.heap.size c4 = W4 at *
      refine (tst_base HA.out.t (HO.out.next (keep_below HA.out.b)) HS1.out HR1.out t.n HTS.out).mono ?_
      rintro e u5 ⟨c5, rfl, hP⟩
      rw [← HU.out] at hP
      rw [HBK.out]
      have hX := Avr.of (Z := #[.string ⟨#[]⟩, .int .i64 0, .int .i64 0, .int .i64 0, .string ⟨#[]⟩, .bool false, .slice none 0 0, .slice none 0 0, .slice none 0 0]) hP.out.2.1 HA.out.lt HA.out.lt hP.out.2.2
      have hbb : Below W4.heap.size W4 ((u5.alloc (.cells #[.string ⟨#[]⟩, .int .i64 0, .int .i64 0, .int .i64 0, .string ⟨#[]⟩, .bool false, .slice none 0 0, .slice none 0 0, .slice none 0 0] 29)).setRow u5.heap.size c5) := hP.out.2.1.trans (hX.2.mono hP.out.2.1.size)
      have HV5 := hide hX.1
      have HI5 : Hid ((Tryz.prog.info? 29).map (·.size) = some c5.size) := by show _ = _; rw [hP.out.1.size9]; exact infoTp
      have HZ5 : Hid ((#[.string ⟨#[]⟩, .int .i64 0, .int .i64 0, .int .i64 0, .string ⟨#[]⟩, .bool false, .slice none 0 0, .slice none 0 0, .slice none 0 0] : Array Value).size = c5.size) := by show _ = _; rw [hP.out.1.size9]; rfl
      have HZ95 := hide hP.out.1.size9
      have HO5 := hide hP.out.1.all1
      have HC05 := hide (tpi_c0 hP.out.1)
      have HC15 := hide (tpi_c1 hP.out.1)
      have HM5 := hide (heap_alloc_new u5 (.cells #[.string ⟨#[]⟩, .int .i64 0, .int .i64 0, .int .i64 0, .string ⟨#[]⟩, .bool false, .slice none 0 0, .slice none 0 0, .slice none 0 0] 29))
      replace HA := hide (HA.out.next hbb)
      replace HV4 := hide (HV4.out.next hbb)
      clear hP hX hbb
      clear q5
      go_wp2_with (refine wpList_storeRow rfl rfl u5.heap.size #[.string ⟨#[]⟩, .int .i64 0, .int .i64 0, .int .i64 0, .string ⟨#[]⟩, .bool false, .slice none 0 0, .slice none 0 0, .slice none 0 0] c5 29 rfl rfl HM5.out HI5.out HZ5.out HO5.out ?_)
      generalize (u5.alloc (.cells #[.string ⟨#[]⟩, .int .i64 0, .int .i64 0, .int .i64 0, .string ⟨#[]⟩, .bool false, .slice none 0 0, .slice none 0 0, .slice none 0 0] 29)).setRow u5.heap.size c5 = W5 at *
      refine heldStart (S := fun wy => Spk w0 w N T g l wy ∧ Kp (fun q => q = g) W5 wy) (by kernel_rfl) ?_
      have hbd : Below W5.heap.size W5 W5.drew := Below.drew (Below.refl _ _)
      have hS : Spk w0 w N T g l W5.drew ∧ Kp (fun q => q = g) W5 W5.drew := ⟨HA.out.next hbd, Kp.mono (Kp.of_below (S := fun _ => False) hbd) (fun _ _ e => e.elim)⟩
      clear hbd HA
      generalize W5.drew = W6 at *
      refine heldTake 0 _ rfl (by kernel_rfl) (by kernel_rfl) (by kernel_rfl) (fun _ _ _ h => h) rfl hS (fun wy hy => by first | (go_simp; done) | (go_simp; rfl) | rfl) ?_
      (try simp only [Act.put]); (try simp only [List.setIfInBounds_toArray, List.set_cons_zero, List.set_cons_succ])
      refine heldTake 1 _ rfl (by kernel_rfl) (by kernel_rfl) (by kernel_rfl) (fun _ _ _ h => h) rfl hS (fun wy hy => by first | (go_simp; done) | (go_simp; rfl) | rfl) ?_
      (try simp only [Act.put]); (try simp only [List.setIfInBounds_toArray, List.set_cons_zero, List.set_cons_succ])
      refine heldTake 2 _ rfl (by kernel_rfl) (by kernel_rfl) (by kernel_rfl) (fun _ _ _ h => h) rfl hS (fun wy hy => by first | (go_simp; done) | (go_simp; rfl) | rfl) ?_
      (try simp only [Act.put]); (try simp only [List.setIfInBounds_toArray, List.set_cons_zero, List.set_cons_succ])
      refine heldTake 4 _ rfl (by kernel_rfl) (by kernel_rfl) (by kernel_rfl) (fun _ _ _ h => h) rfl hS (fun wy hy => by first | (go_simp; done) | (go_simp; rfl) | rfl) ?_
      (try simp only [Act.put]); (try simp only [List.setIfInBounds_toArray, List.set_cons_zero, List.set_cons_succ])
      refine heldTake 5 _ rfl (by kernel_rfl) (by kernel_rfl) (by kernel_rfl) (fun _ _ _ h => h) rfl hS (fun wy hy => by first | (go_simp; done) | (go_simp; rfl) | rfl) ?_
      (try simp only [Act.put]); (try simp only [List.setIfInBounds_toArray, List.set_cons_zero, List.set_cons_succ])
      refine heldTake 6 _ rfl (by kernel_rfl) (by kernel_rfl) (by kernel_rfl) (fun _ _ _ h => h) rfl hS (fun wy hy => by first | (go_simp; done) | (go_simp; rfl) | rfl) ?_
      (try simp only [Act.put]); (try simp only [List.setIfInBounds_toArray, List.set_cons_zero, List.set_cons_succ])
      refine heldTake 3 _ rfl (by kernel_rfl) (by kernel_rfl) (by kernel_rfl) (fun _ _ _ h => h) rfl hS (fun wy hy => exec_aggAt (g := u4.heap.size) (off := 0) (cs := c4) HI.out HAG.out rfl rfl HZ94.out (fun j u hj => by rw [Nat.zero_add]; exact blk_cell (avr_kp HV4.out hy.2).x hj)) ?_
      (try simp only [Act.put]); (try simp only [List.setIfInBounds_toArray, List.set_cons_zero, List.set_cons_succ])
      refine heldTake 7 _ rfl (by kernel_rfl) (by kernel_rfl) (by kernel_rfl) (fun _ _ _ h => h) rfl hS (fun wy hy => exec_aggAt (g := b) (off := off + i * 9) (cs := c) HI.out HAG.out rfl rfl HZC.out (HCL.out wy hy.1.b)) ?_
      (try simp only [Act.put]); (try simp only [List.setIfInBounds_toArray, List.set_cons_zero, List.set_cons_succ])
      refine heldStep 8 rfl (by kernel_rfl) (fun K1 hK1 => ?_)
      go_simp
      refine (eqT_any c4 c ((avr_kp HV4.out hS.2).t _ (Kp.refl _ _)) (HCT.out _ hS.1.b)).mono ?_
      rintro e v1 ⟨rfl, hb1⟩
      have hS1 : Spk w0 w N T g l v1 ∧ Kp (fun q => q = g) W5 v1 := ⟨hS.1.next hb1, hS.2.trans (Kp.of_below (S := fun _ => False) hb1) (fun _ _ e => e.elim)⟩
      refine (Hid.out hK1) _ _ hS1 (fun hS2 => ?_)
      clear hK1 K1 hS
      have hS := hS2
      clear hS2
      (try simp only [Act.put]); (try simp only [List.setIfInBounds_toArray, List.set_cons_zero, List.set_cons_succ])
      clear hb1 hS1
      refine heldTake 9 _ rfl (by kernel_rfl) (by kernel_rfl) (by kernel_rfl) (fun _ _ _ h => h) rfl hS (fun wy hy => by first | (go_simp; done) | (go_simp; rfl) | rfl) ?_
      (try simp only [Act.put]); (try simp only [List.setIfInBounds_toArray, List.set_cons_zero, List.set_cons_succ])
      refine heldTake 10 _ rfl (by kernel_rfl) (by kernel_rfl) (by kernel_rfl) (fun _ _ _ h => h) rfl hS (fun wy hy => by first | (go_simp; done) | (go_simp; rfl) | rfl) ?_
      (try simp only [Act.put]); (try simp only [List.setIfInBounds_toArray, List.set_cons_zero, List.set_cons_succ])
      refine heldTake 11 _ rfl (by kernel_rfl) (by kernel_rfl) (by kernel_rfl) (fun _ _ _ h => h) rfl hS (fun wy hy => by first | (go_simp; done) | (go_simp; rfl) | rfl) ?_
      (try simp only [Act.put]); (try simp only [List.setIfInBounds_toArray, List.set_cons_zero, List.set_cons_succ])
      refine heldTake 12 _ rfl (by kernel_rfl) (by kernel_rfl) (by kernel_rfl) (fun _ _ _ h => h) rfl hS (fun wy hy => by first | (go_simp; done) | (go_simp; rfl) | rfl) ?_
      (try simp only [Act.put]); (try simp only [List.setIfInBounds_toArray, List.set_cons_zero, List.set_cons_succ])
      refine heldTake 13 _ rfl (by kernel_rfl) (by kernel_rfl) (by kernel_rfl) (fun _ _ _ h => h) rfl hS (fun wy hy => by first | (go_simp; done) | (go_simp; rfl) | rfl) ?_
      (try simp only [Act.put]); (try simp only [List.setIfInBounds_toArray, List.set_cons_zero, List.set_cons_succ])
      refine heldTake 14 _ rfl (by kernel_rfl) (by kernel_rfl) (by kernel_rfl) (fun _ _ _ h => h) rfl hS (fun wy hy => by first | (go_simp; done) | (go_simp; rfl) | rfl) ?_
      (try simp only [Act.put]); (try simp only [List.setIfInBounds_toArray, List.set_cons_zero, List.set_cons_succ])
      refine heldTake 15 _ rfl (by kernel_rfl) (by kernel_rfl) (by kernel_rfl) (fun _ _ _ h => h) rfl hS (fun wy hy => by first | (go_simp; done) | (go_simp; rfl) | rfl) ?_
      (try simp only [Act.put]); (try simp only [List.setIfInBounds_toArray, List.set_cons_zero, List.set_cons_succ])
      refine heldTake 16 _ rfl (by kernel_rfl) (by kernel_rfl) (by kernel_rfl) (fun _ _ _ h => h) rfl hS (fun wy hy => by first | (go_simp; done) | (go_simp; rfl) | rfl) ?_
      (try simp only [Act.put]); (try simp only [List.setIfInBounds_toArray, List.set_cons_zero, List.set_cons_succ])
      refine heldTake 17 _ rfl (by kernel_rfl) (by kernel_rfl) (by kernel_rfl) (fun _ _ _ h => h) rfl hS (fun wy hy => by have h0 : wy.cell? ⟨u5.heap.size, 1, none⟩ = some (.int .i64 u.k) := blk_cell (avr_kp HV5.out hy.2).x HC15.out; first | (go_simp; done) | (go_simp; rfl) | rfl) ?_
      (try simp only [Act.put]); (try simp only [List.setIfInBounds_toArray, List.set_cons_zero, List.set_cons_succ])
      refine heldTake 18 _ rfl (by kernel_rfl) (by kernel_rfl) (by kernel_rfl) (fun _ _ _ h => h) rfl hS (fun wy hy => by first | (go_simp; done) | (go_simp; rfl) | rfl) ?_
      (try simp only [Act.put]); (try simp only [List.setIfInBounds_toArray, List.set_cons_zero, List.set_cons_succ])
      refine heldTake 19 _ rfl (by kernel_rfl) (by kernel_rfl) (by kernel_rfl) (fun _ _ _ h => h) rfl hS (fun wy hy => by first | (go_simp; done) | (go_simp; rfl) | rfl) ?_
      (try simp only [Act.put]); (try simp only [List.setIfInBounds_toArray, List.set_cons_zero, List.set_cons_succ])
      refine heldDone (by kernel_rfl) ?_
      have HA := hide hS.1.base
      have HK6 := hide hS.1.k
      replace HV4 := hide (avr_kp HV4.out hS.2)
      replace HV5 := hide (avr_kp HV5.out hS.2)
      clear hS
      rename World => W7
      generalize u4.heap.size = gx at *
      generalize u5.heap.size = gb at *
      have HTT : Hid (T ≤ W7.heap.size) := HA.out.t.top_le
      have HWW : Hid (w0.heap.size ≤ W7.heap.size) := HA.out.b.size
      have HSS := hide (HS1.out t HTM.out)
      have hfl := HSS.out.1
      have hcl := HSS.out.2.1
      have HKR : Hid (∀ r ∈ rfs t, (fnd l r.n).2 = true) := fun r hr => HOK.out.fst.ref t HTM.out r hr
      have q1 : W7.cell? ⟨gx, 1, none⟩ = some (.int .i64 t.k) := blk_cell HV4.out.x HC14.out
      clear HI4 HZ4 HO4 HM4 HI5 HZ5 HO5 HM5 HCT HCL HZC
      go_upto_region 9 with fail
      go_cut [79] from 21 to 192 (fun v wx => v = .bool (decide (t.k = 1 ∨ t.k = 3 ∨ t.k = 4)) ∧ wx = W7)
      case first =>
        as_aux_lemma =>
        by_cases h1 : t.k = 1
        · have g1 : (t.k == 1) = true := beq_iff_eq.2 h1
          have HI : Hid (decide (t.k = 1 ∨ t.k = 3 ∨ t.k = 4) = true) := decide_eq_true (.inl h1)
          clear h1
          go_wp2_with fail
          go_meet
          case rel => exact ⟨by rw [HI.out], rfl⟩
        have g1 : (t.k == 1) = false := beq_eq_false_iff_ne.2 h1
        by_cases h3 : t.k = 3
        · have g3 : (t.k == 3) = true := beq_iff_eq.2 h3
          have HI : Hid (decide (t.k = 1 ∨ t.k = 3 ∨ t.k = 4) = true) := decide_eq_true (.inr (.inl h3))
          clear h1 h3
          go_wp2_with fail
          go_meet
          case rel => exact ⟨by rw [HI.out], rfl⟩
        have g3 : (t.k == 3) = false := beq_eq_false_iff_ne.2 h3
        by_cases h4 : t.k = 4
        · have g4 : (t.k == 4) = true := beq_iff_eq.2 h4
          have HI : Hid (decide (t.k = 1 ∨ t.k = 3 ∨ t.k = 4) = true) := decide_eq_true (.inr (.inr h4))
          clear h1 h3 h4
          go_wp2_with fail
          go_meet
          case rel => exact ⟨by rw [HI.out], rfl⟩
        have g4 : (t.k == 4) = false := beq_eq_false_iff_ne.2 h4
        have HI : Hid (decide (t.k = 1 ∨ t.k = 3 ∨ t.k = 4) = false) := decide_eq_false (fun h => h.elim h1 (fun h => h.elim h3 h4))
        clear h1 h3 h4
        go_wp2_with fail
        go_meet
        case rel => exact ⟨by rw [HI.out], rfl⟩
      obtain ⟨rfl, hww⟩ := hcut
      have hww := hww.symm
      subst hww
      clear q1
      obtain ⟨⟨vf, vc, vw, hc4, ⟨⟨af, cf, rfl, -, -⟩, -⟩, ⟨⟨ac, cc, rfl, -, -⟩, -⟩, -⟩, -⟩ := HV4.out.t _ (Kp.refl _ _)
      subst hc4
      generalize hkb : decide (t.k = 1 ∨ t.k = 3 ∨ t.k = 4) = kb
      have HKB := hide hkb
      clear hkb
      go_upto_if 79 with fail
      go_cut [10] from 21 to 192 (fun v wx => ∃ a0 n0 c0, v = .slice a0 n0 c0 ∧ Hid (Nsp w0 W7 N T g l (.slice a0 n0 c0) 1 wx))
      case first =>
        as_aux_lemma =>
        cases kb with
        | true =>
          have hmr : t.r ∈ rfs t := by unfold rfs; rw [if_pos (of_decide_eq_true HKB.out)]; simp
          have HKN := hide (HKR.out t.r hmr)
          have HSZ := hide (HRZ.out t.r hmr)
          have q4 : W7.cell? ⟨gx, 4, none⟩ = some (.string t.r.n) := blk_cell (j := 4) HV4.out.x rfl
          clear hmr
          go_wp2_with (refine Nsp.law (Nsp.start HA.out) HSZ.out HKN.out (by decide) HTT.out HWW.out rfl rfl rfl rfl ?_; intro a9 n9 c9 w9 HP9)
          go_meet
          case rel => exact ⟨_, _, _, rfl, HP9⟩
        | false =>
          go_wp2_with fail
          go_meet
          case rel => exact ⟨_, _, _, rfl, (Nsp.start HA.out).more (by omega)⟩
      rename World => W8
      obtain ⟨a0, n0, c0, rfl, HN0⟩ := hcut
      clear HKB
      go_wp2_with fail
      go_loopw [10, 11] (fun v vi wx => ∃ (k : Nat) (a1 : Option Addr) (n1 c1 : Nat), k ≤ t.fs.length ∧ v = .slice a1 n1 c1 ∧ vi = .int .i64 (k : Nat) ∧ Hid (Nsp w0 W7 N T g l (.slice a1 n1 c1) (1 + k) wx)) (fun _ vi _ => t.fs.length - (intOf vi).toNat)
      case atStart => exact ⟨0, _, _, _, by omega, rfl, rfl, HN0⟩
      case round =>
        rename World => W9
        obtain ⟨k, a1, n1, c1, hk, rfl, rfl, HN⟩ := hrel
        clear HN0
        have q6 : W9.cell? ⟨gx, 6, none⟩ = some (.slice af t.fs.length cf) := blk_cell (j := 6) (avr_kp HV4.out HN.out.s.k).x rfl
        by_cases hlt2 : k < t.fs.length
        · have g2 : (k : Int) < (t.fs.length : Int) := by omega
          obtain ⟨f, hf⟩ : ∃ f, t.fs[k]? = some f := ⟨t.fs[k], List.getElem?_eq_getElem hlt2⟩
          have hmf : f.r ∈ rfs t := by
            unfold rfs
            rw [List.mem_append, List.mem_append]
            exact .inl (.inr (List.mem_map.2 ⟨f, List.mem_of_getElem? hf, rfl⟩))
          have HKN := hide (HKR.out f.r hmf)
          have HSZ := hide (HRZ.out f.r hmf)
          have HLN : Hid (1 + k ≤ 100000) := by have := HSS.out.1; show _ ≤ _; omega
          obtain ⟨⟨a', c', e', -, hff⟩, -⟩ := (tpi_fs ((avr_kp HV4.out HN.out.s.k).t _ (Kp.refl _ _))).1
          injection e' with e1 e2 e3
          subst e1
          obtain ⟨b2, off2, e4, hcc⟩ := hff.resolve_left (fun h => by rw [h] at hlt2; simp at hlt2)
          subst e4
          obtain ⟨cf', ⟨rfl, -⟩, hcell⟩ := hcc k f hf
          have q7 : W9.cell? ⟨b2, off2 + k * 5 + 2, none⟩ = some (.string f.r.n) := hcell 2 _ rfl
          clear hf hmf hff hcc hcell e2 e3
          go_wp2_with (refine Nsp.law HN.out HSZ.out HKN.out HLN.out HTT.out HWW.out rfl rfl rfl rfl ?_; intro a9 n9 c9 w9 HP9)
          clear q6 q7
          go_wp2_with fail
          go_roundw
          case rel => (repeat (first | exact ⟨⟨k + 1, _, _, _, by omega, rfl, by go_num, HP9⟩, rfl⟩ | exact ⟨k + 1, _, _, _, by omega, rfl, by go_num, HP9⟩ | apply Exists.intro))
          case measure => simp [intOf]; omega
        have g2 : ¬ (k : Int) < (t.fs.length : Int) := by omega
        have HN1 : Hid (Nsp w0 W7 N T g l (.slice a1 n1 c1) (1 + t.fs.length + 0) W9) := HN.out.more (by omega)
        clear HN hlt2 hk
        go_wp2_with fail
        clear g2 q6
        go_loopw [10, 12] (fun v vi wx => ∃ (k : Nat) (a1 : Option Addr) (n1 c1 : Nat), k ≤ t.cs.length ∧ v = .slice a1 n1 c1 ∧ vi = .int .i64 (k : Nat) ∧ Hid (Nsp w0 W7 N T g l (.slice a1 n1 c1) (1 + t.fs.length + k) wx)) (fun _ vi _ => t.cs.length - (intOf vi).toNat)
        case atStart => exact ⟨0, _, _, _, by omega, rfl, rfl, HN1⟩
        case round =>
          rename World => X1
          obtain ⟨k, a2, n2, c2, hk, rfl, rfl, HN⟩ := hrel
          clear HN1
          have q6 : X1.cell? ⟨gx, 7, none⟩ = some (.slice ac t.cs.length cc) := blk_cell (j := 7) (avr_kp HV4.out HN.out.s.k).x rfl
          by_cases hlt2 : k < t.cs.length
          · have g2 : (k : Int) < (t.cs.length : Int) := by omega
            obtain ⟨f, hf⟩ : ∃ f, t.cs[k]? = some f := ⟨t.cs[k], List.getElem?_eq_getElem hlt2⟩
            have hmf : (⟨f.n, false⟩ : Rf) ∈ rfs t := by
              unfold rfs
              rw [List.mem_append]
              exact .inr (List.mem_map.2 ⟨f, List.mem_of_getElem? hf, rfl⟩)
            have HKN : Hid ((fnd l f.n).2 = true) := HKR.out _ hmf
            have HSZ : Hid (f.n.size ≤ 140737488351232) := HRZ.out _ hmf
            have HLN : Hid (1 + t.fs.length + k ≤ 100000) := by have h1 := HSS.out.1; have h2 := HSS.out.2.1; show _ ≤ _; omega
            obtain ⟨⟨a', c', e', -, hff⟩, -⟩ := (tpi_fs ((avr_kp HV4.out HN.out.s.k).t _ (Kp.refl _ _))).2
            injection e' with e1 e2 e3
            subst e1
            obtain ⟨b2, off2, e4, hcc⟩ := hff.resolve_left (fun h => by rw [h] at hlt2; simp at hlt2)
            subst e4
            obtain ⟨cf', ⟨rfl, -⟩, hcell⟩ := hcc k f hf
            have q7 : X1.cell? ⟨b2, off2 + k * 2 + 1, none⟩ = some (.string f.n) := hcell 1 _ rfl
            clear hf hmf hff hcc hcell e2 e3
            go_wp2_with (refine Nsp.law HN.out HSZ.out HKN.out HLN.out HTT.out HWW.out rfl rfl rfl rfl ?_; intro a9 n9 c9 w9 HP9)
            clear q6 q7
            go_wp2_with fail
            go_roundw
            case rel => (repeat (first | exact ⟨⟨k + 1, _, _, _, by omega, rfl, by go_num, HP9⟩, rfl⟩ | exact ⟨k + 1, _, _, _, by omega, rfl, by go_num, HP9⟩ | apply Exists.intro))
            case measure => simp [intOf]; omega
          have g2 : ¬ (k : Int) < (t.cs.length : Int) := by omega
          have HA1 := hide HN.out.s
          obtain ⟨L, hr, hL, hLk⟩ := HN.out.r
          have HLL : Hid (L.length ≤ 100000) := by have h1 := HSS.out.1; have h2 := HSS.out.2.1; show _ ≤ _; omega
          have HLK := hide hLk
          obtain ⟨a9, c9, e5, -⟩ := own_formG hr.o
          have e6 : n2 = L.length := by injection e5
          clear e5
          subst e6
          have HR2 := hide hr
          clear HN hlt2 hk hr hL hLk HKR HRZ HTT HWW HSS
          go_wp2_with fail
          clear g2 q6
          have hLm : L.length ≤ 140737488351232 := by have := HLL.out; omega
          go_loopw [13] (fun vi wx => ∃ (k : Nat), k ≤ L.length ∧ vi = .int .i64 (k : Nat) ∧ Hid (Spk w0 W7 N T g l wx) ∧ Hid (Srw W7.heap.size W7.heap.size (.slice a2 L.length c2) L wx)) (fun vi _ => L.length - (intOf vi).toNat)
          case atStart => exact ⟨0, by omega, rfl, HA1, HR2⟩
          case round =>
            rename World => X2
            obtain ⟨k, hk, rfl, HA, HR⟩ := hrel
            clear HA1 HR2
            by_cases hlt2 : k < L.length
            · have g2 : (k : Int) < (L.length : Int) := by omega
              obtain ⟨s, hs⟩ : ∃ s, L[k]? = some s := ⟨L[k], List.getElem?_eq_getElem hlt2⟩
              have HSZ := hide (HR.out.s s (List.mem_of_getElem? hs))
              have HKN := hide (HLK.out s (List.mem_of_getElem? hs))
              have HBN := hide (base_known HOK.out HKN.out).1
              obtain ⟨b2, off2, ha2⟩ : ∃ b off, a2 = some ⟨b, off, none⟩ := by
                obtain ⟨⟨a, c, e, _, hc⟩, _, _⟩ := HR.out.ssl hLm
                injection e with e1 e2 e3
                obtain ⟨b, off, e4, _⟩ := hc.resolve_left (fun h => by rw [h] at hs; simp at hs)
                exact ⟨b, off, e1.trans e4⟩
              subst ha2
              have HCS : Hid (∀ wy, Srw W7.heap.size W7.heap.size (.slice (some ⟨b2, off2, none⟩) L.length c2) L wy → wy.cell? ⟨b2, off2 + k, none⟩ = some (.string s)) := fun wy hy => by
                obtain ⟨⟨a, c, e, _, hc⟩, _, _⟩ := hy.ssl hLm
                injection e with e1 e2 e3
                obtain ⟨b', off', e4, h⟩ := hc.resolve_left (fun h => by rw [h] at hs; simp at hs)
                have e5 := Option.some.inj (e1.trans e4)
                injection e5 with e6 e7 e8
                subst e6
                subst e7
                exact h k s hs
              clear hs
              have q4 : X2.cell? ⟨b2, off2 + k, none⟩ = some (.string s) := HCS.out _ HR.out
              go_wp2_with fail
              refine (tst_find2 HA.out.t (HO.out.next (keep_below HA.out.b)) HS1.out s HSZ.out).mono ?_
              rintro e u6 ⟨c6, rfl, hP⟩
              rw [HKN.out]
              have hX := Avr.of (Z := #[.string ⟨#[]⟩, .int .i64 0, .int .i64 0, .int .i64 0, .string ⟨#[]⟩, .bool false, .slice none 0 0, .slice none 0 0, .slice none 0 0]) hP.out.2.1 HA.out.lt HA.out.lt hP.out.2.2
              have hbb : Below X2.heap.size X2 ((u6.alloc (.cells #[.string ⟨#[]⟩, .int .i64 0, .int .i64 0, .int .i64 0, .string ⟨#[]⟩, .bool false, .slice none 0 0, .slice none 0 0, .slice none 0 0] 29)).setRow u6.heap.size c6) := hP.out.2.1.trans (hX.2.mono hP.out.2.1.size)
              have HI6 : Hid ((Tryz.prog.info? 29).map (·.size) = some c6.size) := by show _ = _; rw [hP.out.1.size9]; exact infoTp
              have HZ6 : Hid ((#[.string ⟨#[]⟩, .int .i64 0, .int .i64 0, .int .i64 0, .string ⟨#[]⟩, .bool false, .slice none 0 0, .slice none 0 0, .slice none 0 0] : Array Value).size = c6.size) := by show _ = _; rw [hP.out.1.size9]; rfl
              have HZ96 := hide hP.out.1.size9
              have HO6 := hide hP.out.1.all1
              have HM6 := hide (heap_alloc_new u6 (.cells #[.string ⟨#[]⟩, .int .i64 0, .int .i64 0, .int .i64 0, .string ⟨#[]⟩, .bool false, .slice none 0 0, .slice none 0 0, .slice none 0 0] 29))
              replace HA := hide (HA.out.next hbb)
              replace HR := hide (HR.out.next hbb)
              clear hP hX hbb
              clear q4
              have q5 : ((u6.alloc (.cells #[.string ⟨#[]⟩, .int .i64 0, .int .i64 0, .int .i64 0, .string ⟨#[]⟩, .bool false, .slice none 0 0, .slice none 0 0, .slice none 0 0] 29)).setRow u6.heap.size c6).cell? ⟨b2, off2 + k, none⟩ = some (.string s) := HCS.out _ HR.out
              go_wp2_with (refine wpList_storeRow rfl rfl u6.heap.size #[.string ⟨#[]⟩, .int .i64 0, .int .i64 0, .int .i64 0, .string ⟨#[]⟩, .bool false, .slice none 0 0, .slice none 0 0, .slice none 0 0] c6 29 rfl rfl HM6.out HI6.out HZ6.out HO6.out ?_)
              generalize (u6.alloc (.cells #[.string ⟨#[]⟩, .int .i64 0, .int .i64 0, .int .i64 0, .string ⟨#[]⟩, .bool false, .slice none 0 0, .slice none 0 0, .slice none 0 0] 29)).setRow u6.heap.size c6 = X3 at *
              refine (tst_base HA.out.t (HO.out.next (keep_below HA.out.b)) HS1.out HR1.out s HSZ.out).mono ?_
              rintro e u7 ⟨c7, rfl, hP⟩
              rw [HBN.out]
              have hX := Avr.of (Z := #[.string ⟨#[]⟩, .int .i64 0, .int .i64 0, .int .i64 0, .string ⟨#[]⟩, .bool false, .slice none 0 0, .slice none 0 0, .slice none 0 0]) hP.out.2.1 HA.out.lt HA.out.lt hP.out.2.2
              have hbb : Below X3.heap.size X3 ((u7.alloc (.cells #[.string ⟨#[]⟩, .int .i64 0, .int .i64 0, .int .i64 0, .string ⟨#[]⟩, .bool false, .slice none 0 0, .slice none 0 0, .slice none 0 0] 29)).setRow u7.heap.size c7) := hP.out.2.1.trans (hX.2.mono hP.out.2.1.size)
              have HI7 : Hid ((Tryz.prog.info? 29).map (·.size) = some c7.size) := by show _ = _; rw [hP.out.1.size9]; exact infoTp
              have HZ7 : Hid ((#[.string ⟨#[]⟩, .int .i64 0, .int .i64 0, .int .i64 0, .string ⟨#[]⟩, .bool false, .slice none 0 0, .slice none 0 0, .slice none 0 0] : Array Value).size = c7.size) := by show _ = _; rw [hP.out.1.size9]; rfl
              have HZ97 := hide hP.out.1.size9
              have HO7 := hide hP.out.1.all1
              have HM7 := hide (heap_alloc_new u7 (.cells #[.string ⟨#[]⟩, .int .i64 0, .int .i64 0, .int .i64 0, .string ⟨#[]⟩, .bool false, .slice none 0 0, .slice none 0 0, .slice none 0 0] 29))
              replace HA := hide (HA.out.next hbb)
              replace HR := hide (HR.out.next hbb)
              clear hP hX hbb
              clear q5
              go_wp2_with (refine wpList_storeRow rfl rfl u7.heap.size #[.string ⟨#[]⟩, .int .i64 0, .int .i64 0, .int .i64 0, .string ⟨#[]⟩, .bool false, .slice none 0 0, .slice none 0 0, .slice none 0 0] c7 29 rfl rfl HM7.out HI7.out HZ7.out HO7.out ?_)
              generalize (u7.alloc (.cells #[.string ⟨#[]⟩, .int .i64 0, .int .i64 0, .int .i64 0, .string ⟨#[]⟩, .bool false, .slice none 0 0, .slice none 0 0, .slice none 0 0] 29)).setRow u7.heap.size c7 = X4 at *
              clear HI6 HZ6 HO6 HM6 HZ96 HI7 HZ7 HO7 HM7 HZ97 HCS
              go_wp2_with fail
              go_roundw
              case rel => (repeat (first | exact ⟨⟨k + 1, by omega, by go_num, HA, HR⟩, rfl⟩ | exact ⟨k + 1, by omega, by go_num, HA, HR⟩ | apply Exists.intro))
              case measure => simp [intOf]; omega
            have g2 : ¬ (k : Int) < (L.length : Int) := by omega
            have q4 : X2.cell? ⟨b, off + i * 9, none⟩ = some (.string t.n) := HCN.out _ HA.out.b
            clear hlt2 hk HR HLK
            go_wp2_with fail
            clear g2
            refine (tst_filled HA.out.t HO.out HA.out.b H0.out H64.out t.n HTS.out).mono ?_
            rintro e X3 ⟨F, rfl, hP⟩
            have HF := hide hP.out.1
            replace HA := hide (HA.out.ask hP.out.2.2 hP.out.2.1 H0.out)
            clear hP q4
            have q1 : X3.cell? ⟨gx, 1, none⟩ = some (.int .i64 t.k) := blk_cell (j := 1) (avr_kp HV4.out HA.out.k).x rfl
            have HUB : Hid (∀ G, Fls l G → memb G u.n = true → memb F t.n = true) := fun G hG hm => by
              rw [HU.out] at hm
              rw [fls_same HOK.out.gdl HF.out hG]
              exact full_base HOK.out hG HFK.out hm
            have HUZ : Hid (u.n.size ≤ 140737488351232) := (HV5.out.t _ (Kp.refl _ _)).b.n
            by_cases h1 : t.k = 1
            · have g1 : (t.k == 1) = true := beq_iff_eq.2 h1
              have HBS := hide (base_step HOK.out HTM.out h1)
              have HFO : Hid (∀ G, Fls l G → memb F t.n = (t.r.z || memb G t.r.n)) := fun G hG => by
                rw [fls_same HOK.out.gdl HF.out hG]
                exact full_one HOK.out hG HTM.out h1
              have HFZ : Hid (memb F t.n = (t.r.z || memb F t.r.n)) := HFO.out F HF.out
              have HRN : Hid (t.r.n.size ≤ 140737488351232) := HR1.out t HTM.out
              clear h1
              generalize memb F t.n = fb at *
              have q4 : X3.cell? ⟨gx, 4, none⟩ = some (.string t.r.n) := blk_cell (j := 4) (avr_kp HV4.out HA.out.k).x rfl
              go_wp2_with fail
              refine (tst_base HA.out.t (HO.out.next (keep_below HA.out.b)) HS1.out HR1.out t.r.n HRN.out).mono ?_
              rintro e u8 ⟨c8, rfl, hP⟩
              rw [HBS.out, ← HU.out] at hP
              rw [HBS.out, HBK.out]
              have hX := Avr.of (Z := #[.string ⟨#[]⟩, .int .i64 0, .int .i64 0, .int .i64 0, .string ⟨#[]⟩, .bool false, .slice none 0 0, .slice none 0 0, .slice none 0 0]) hP.out.2.1 HA.out.lt HA.out.lt hP.out.2.2
              have hbb : Below X3.heap.size X3 ((u8.alloc (.cells #[.string ⟨#[]⟩, .int .i64 0, .int .i64 0, .int .i64 0, .string ⟨#[]⟩, .bool false, .slice none 0 0, .slice none 0 0, .slice none 0 0] 29)).setRow u8.heap.size c8) := hP.out.2.1.trans (hX.2.mono hP.out.2.1.size)
              have HV8 := hide hX.1
              have HI8 : Hid ((Tryz.prog.info? 29).map (·.size) = some c8.size) := by show _ = _; rw [hP.out.1.size9]; exact infoTp
              have HZ8 : Hid ((#[.string ⟨#[]⟩, .int .i64 0, .int .i64 0, .int .i64 0, .string ⟨#[]⟩, .bool false, .slice none 0 0, .slice none 0 0, .slice none 0 0] : Array Value).size = c8.size) := by show _ = _; rw [hP.out.1.size9]; rfl
              have HZ98 := hide hP.out.1.size9
              have HO8 := hide hP.out.1.all1
              have HC08 := hide (tpi_c0 hP.out.1)
              have HC18 := hide (tpi_c1 hP.out.1)
              have HM8 := hide (heap_alloc_new u8 (.cells #[.string ⟨#[]⟩, .int .i64 0, .int .i64 0, .int .i64 0, .string ⟨#[]⟩, .bool false, .slice none 0 0, .slice none 0 0, .slice none 0 0] 29))
              replace HA := hide (HA.out.next hbb)
              clear hP hX hbb
              clear q4 q1
              have HTC8 : Hid (∀ j u, c8[j]? = some u → ((u8.alloc (.cells #[.string ⟨#[]⟩, .int .i64 0, .int .i64 0, .int .i64 0, .string ⟨#[]⟩, .bool false, .slice none 0 0, .slice none 0 0, .slice none 0 0] 29)).setRow u8.heap.size c8).cell? ⟨u8.heap.size, 0 + j, none⟩ = some u) := fun j u hj => by rw [Nat.zero_add]; exact blk_cell HV8.out.x hj
              have HTC5 : Hid (∀ j u, c5[j]? = some u → ((u8.alloc (.cells #[.string ⟨#[]⟩, .int .i64 0, .int .i64 0, .int .i64 0, .string ⟨#[]⟩, .bool false, .slice none 0 0, .slice none 0 0, .slice none 0 0] 29)).setRow u8.heap.size c8).cell? ⟨gb, 0 + j, none⟩ = some u) := fun j u hj => by rw [Nat.zero_add]; exact blk_cell (avr_kp HV5.out HA.out.k).x hj
              go_wp2_with (first
                | (refine wpList_storeRow rfl rfl u8.heap.size #[.string ⟨#[]⟩, .int .i64 0, .int .i64 0, .int .i64 0, .string ⟨#[]⟩, .bool false, .slice none 0 0, .slice none 0 0, .slice none 0 0] c8 29 rfl rfl HM8.out HI8.out HZ8.out HO8.out ?_)
                | (refine wpList_aggAt rfl rfl HI.out HAG.out u8.heap.size 0 c8 rfl HZ98.out HTC8.out ?_)
                | (refine wpList_aggAt rfl rfl HI.out HAG.out gb 0 c5 rfl HZ95.out HTC5.out ?_))
              generalize (u8.alloc (.cells #[.string ⟨#[]⟩, .int .i64 0, .int .i64 0, .int .i64 0, .string ⟨#[]⟩, .bool false, .slice none 0 0, .slice none 0 0, .slice none 0 0] 29)).setRow u8.heap.size c8 = X4 at *
              refine (eqT_any c8 c5 (HV8.out.t _ (Kp.refl _ _)) ((avr_kp HV5.out HA.out.k).t _ (Kp.refl _ _))).mono ?_
              rintro e X5 ⟨rfl, hb5⟩
              replace HA := hide (HA.out.next hb5)
              clear hb5 HTC8 HTC5 HV8
              have q5 : X5.cell? ⟨gx, 5, none⟩ = some (.bool t.r.z) := blk_cell (j := 5) (avr_kp HV4.out HA.out.k).x rfl
              have q4 : X5.cell? ⟨gx, 4, none⟩ = some (.string t.r.n) := blk_cell (j := 4) (avr_kp HV4.out HA.out.k).x rfl
              cases hz : t.r.z with
              | true =>
                rw [hz] at q5 HFZ
                have hfb : fb = true := HFZ.out
                subst hfb
                clear hz HFO
                have q0 : X5.cell? ⟨gb, 0, none⟩ = some (.string u.n) := blk_cell (avr_kp HV5.out HA.out.k).x HC05.out
                go_wp2_with fail
                refine (tst_filled HA.out.t HO.out HA.out.b H0.out H64.out u.n HUZ.out).mono ?_
                rintro e X9 ⟨G, rfl, hP⟩
                have HG := hide (HUB.out G hP.out.1)
                replace HA := hide (HA.out.ask hP.out.2.2 hP.out.2.1 H0.out)
                have HAE := hide (HA.out.back HK6.out)
                clear hP q0 HA
                generalize memb G u.n = mb at *
                cases mb with
                | false =>
                  go_wp2_with fail
                  go_roundw
                  case rel => (repeat (first | exact ⟨⟨i + 1, by omega, by go_num, HAE⟩, rfl⟩ | exact ⟨i + 1, by omega, by go_num, HAE⟩ | apply Exists.intro))
                  case measure => simp [intOf]; omega
                | true =>
                  go_wp2_with fail
                  go_roundw
                  case rel => (repeat (first | exact ⟨⟨i + 1, by omega, by go_num, HAE⟩, rfl⟩ | exact ⟨i + 1, by omega, by go_num, HAE⟩ | apply Exists.intro))
                  case measure => simp [intOf]; omega
              | false =>
                rw [hz] at q5 HFO
                clear hz
                go_wp2_with fail
                refine (tst_filled HA.out.t HO.out HA.out.b H0.out H64.out t.r.n HRN.out).mono ?_
                rintro e X6 ⟨G, rfl, hP⟩
                have hfb : fb = memb G t.r.n := HFO.out G hP.out.1
                rw [← hfb]
                replace HA := hide (HA.out.ask hP.out.2.2 hP.out.2.1 H0.out)
                have gfb : (fb != fb) = false := by cases fb <;> rfl
                clear hP q4 q5 hfb HFO HFZ
                have q0 : X6.cell? ⟨gb, 0, none⟩ = some (.string u.n) := blk_cell (avr_kp HV5.out HA.out.k).x HC05.out
                go_wp2_with fail
                refine (tst_filled HA.out.t HO.out HA.out.b H0.out H64.out u.n HUZ.out).mono ?_
                rintro e X9 ⟨G, rfl, hP⟩
                have HG := hide (HUB.out G hP.out.1)
                replace HA := hide (HA.out.ask hP.out.2.2 hP.out.2.1 H0.out)
                have HAE := hide (HA.out.back HK6.out)
                clear hP q0 HA
                generalize memb G u.n = mb at *
                cases mb with
                | false =>
                  go_wp2_with fail
                  go_roundw
                  case rel => (repeat (first | exact ⟨⟨i + 1, by omega, by go_num, HAE⟩, rfl⟩ | exact ⟨i + 1, by omega, by go_num, HAE⟩ | apply Exists.intro))
                  case measure => simp [intOf]; omega
                | true =>
                  have hfb := HG.out rfl
                  subst hfb
                  go_wp2_with fail
                  go_roundw
                  case rel => (repeat (first | exact ⟨⟨i + 1, by omega, by go_num, HAE⟩, rfl⟩ | exact ⟨i + 1, by omega, by go_num, HAE⟩ | apply Exists.intro))
                  case measure => simp [intOf]; omega
            have g1 : (t.k == 1) = false := beq_eq_false_iff_ne.2 h1
            clear h1
            generalize memb F t.n = fb at *
            have q0 : X3.cell? ⟨gb, 0, none⟩ = some (.string u.n) := blk_cell (avr_kp HV5.out HA.out.k).x HC05.out
            go_wp2_with fail
            refine (tst_filled HA.out.t HO.out HA.out.b H0.out H64.out u.n HUZ.out).mono ?_
            rintro e X9 ⟨G, rfl, hP⟩
            have HG := hide (HUB.out G hP.out.1)
            replace HA := hide (HA.out.ask hP.out.2.2 hP.out.2.1 H0.out)
            have HAE := hide (HA.out.back HK6.out)
            clear hP q0 HA
            generalize memb G u.n = mb at *
            cases mb with
            | false =>
              go_wp2_with fail
              go_roundw
              case rel => (repeat (first | exact ⟨⟨i + 1, by omega, by go_num, HAE⟩, rfl⟩ | exact ⟨i + 1, by omega, by go_num, HAE⟩ | apply Exists.intro))
              case measure => simp [intOf]; omega
            | true =>
              have hfb := HG.out rfl
              subst hfb
              go_wp2_with fail
              go_roundw
              case rel => (repeat (first | exact ⟨⟨i + 1, by omega, by go_num, HAE⟩, rfl⟩ | exact ⟨i + 1, by omega, by go_num, HAE⟩ | apply Exists.intro))
              case measure => simp [intOf]; omega
    · have g1' : ¬ (i : Int) < (l.length : Int) := by omega
      go_wp2_with fail
      go_ret
      exact ⟨rfl, HA.out⟩
end
end Go.Proofs.YtagkogpjckjobaaGreatDoor

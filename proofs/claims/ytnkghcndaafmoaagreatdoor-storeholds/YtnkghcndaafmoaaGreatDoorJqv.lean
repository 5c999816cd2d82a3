import Derived.Test.YtnkghcndaafmoaaGreatDoorJqu
namespace Go.Proofs.YtnkghcndaafmoaaGreatDoor
section
open Go.RowKit Go
def DrQ (e : Ending) (w w' : World) : Option Dr → Prop
  | none => e = .returned (.tuple #[.agg #[.map none, .int .i64 0, .int .i64 0], .bool true])
  | some s => ∃ Bd, w.heap.size ≤ Bd ∧ e = .returned (.tuple #[.agg #[.map (some Bd), .int .i64 (s.f : Nat), .int .i64 s.g], .bool false]) ∧ Mlb w' Bd s.d
def DrP (w : World) (L X : List Blk) (e : Ending) (w' : World) : Prop := Below w.heap.size w w' ∧ DrQ e w w' (drf L X ⟨[], 0, 0⟩)
theorem DrP.no {w w' : World} {L X : List Blk} (hb : Below w.heap.size w w') (h : drf L X ⟨[], 0, 0⟩ = none) : DrP w L X (.returned (.tuple #[.agg #[.map none, .int .i64 0, .int .i64 0], .bool true])) w' := ⟨hb, by rw [h]; rfl⟩
theorem DrP.yes {w w' : World} {L X : List Blk} (hb : Below w.heap.size w w') {s : Dr} (h : drf L X ⟨[], 0, 0⟩ = some s) (hm : Mlb w' (w.heap.size + 1) s.d) : DrP w L X (.returned (.tuple #[.agg #[.map (some (w.heap.size + 1)), .int .i64 (s.f : Nat), .int .i64 s.g], .bool false])) w' := ⟨hb, by rw [h]; exact ⟨_, Nat.le_succ _, rfl, hm⟩⟩
def dzc : Array Value := #[.map none, .int .i64 0, .int .i64 0]
def dfc (M : Nat) (s : Dr) : Array Value := #[.map (some M), .int .i64 (s.f : Nat), .int .i64 s.g]
structure Dfw (w : World) (L X : List Blk) (wx : World) (i : Nat) (s : Dr) : Prop where
  b : Below w.heap.size w wx
  r : wx.heap[w.heap.size]? = some (.cells dzc 159 (0, 0))
  d : wx.heap[w.heap.size + 2]? = some (.cells (dfc (w.heap.size + 1) s) 159 (0, 0))
  m : Mlb wx (w.heap.size + 1) s.d
  f : drf L X ⟨[], 0, 0⟩ = drf L (X.drop i) s
  n : s.d.length ≤ i
  p : s.f ≤ i
  g : -(i * 67108864 : Int) ≤ s.g ∧ s.g ≤ i * 67108864
theorem Dfw.next {w wx wy : World} {L X : List Blk} {i : Nat} {s : Dr} (h : Dfw w L X wx i s) (hb : Below wx.heap.size wx wy) : Dfw w L X wy i s :=
  ⟨h.b.trans (hb.mono h.b.size), (hb.block _ (blk_lt h.r)).trans h.r, (hb.block _ (blk_lt h.d)).trans h.d, h.m.next hb, h.f, h.n, h.p, h.g⟩
theorem Dfw.skip {w wx : World} {L X : List Blk} {i : Nat} {s : Dr} (h : Dfw w L X wx i s) (hf : drf L X ⟨[], 0, 0⟩ = drf L (X.drop (i + 1)) s) : Dfw w L X wx (i + 1) s :=
  ⟨h.b, h.r, h.d, h.m, hf, Nat.le_succ_of_le h.n, Nat.le_succ_of_le h.p, by have := h.g; omega⟩
theorem drf_same {L r : List Blk} {s : Dr} {x : Blk} {b : List Nat} (h : atB s.d x.1 = some b) (hb : b = x.2) : drf L (x :: r) s = drf L r s := by
  rw [drf, h]
  simp [hb]
theorem drf_unlike {L r : List Blk} {s : Dr} {x : Blk} {b : List Nat} (h : atB s.d x.1 = some b) (hb : b ≠ x.2) : drf L (x :: r) s = none := by
  rw [drf, h]
  simp [hb]
theorem drf_new {L r : List Blk} {s : Dr} {x : Blk} (h : atB s.d x.1 = none) (h2 : atB L x.1 = none) : drf L (x :: r) s = drf L r ⟨x :: s.d, s.f + 1, s.g + x.2.length⟩ := by
  rw [drf, h, h2]
theorem drf_stands {L r : List Blk} {s : Dr} {x : Blk} {b : List Nat} (h : atB s.d x.1 = none) (h2 : atB L x.1 = some b) (hb : b = x.2) : drf L (x :: r) s = drf L r s := by
  rw [drf, h, h2]
  simp [hb]
theorem drf_clash {L r : List Blk} {s : Dr} {x : Blk} {b : List Nat} (h : atB s.d x.1 = none) (h2 : atB L x.1 = some b) (hb : b ≠ x.2) (hd : dholds x.1.h x.1.d b = true) : drf L (x :: r) s = none := by
  rw [drf, h, h2]
  simp [hb, hd]
theorem drf_over {L r : List Blk} {s : Dr} {x : Blk} {b : List Nat} (h : atB s.d x.1 = none) (h2 : atB L x.1 = some b) (hb : b ≠ x.2) (hd : dholds x.1.h x.1.d b = false) : drf L (x :: r) s = drf L r ⟨x :: s.d, s.f, s.g + (x.2.length - b.length)⟩ := by
  rw [drf, h, h2]
  simp [hb, hd]
theorem at_some13 {A : Option (List Nat)} {q : List Nat} (h : A.getD [] = q) (hf : A.isSome = true) : A = some q := by
  obtain ⟨b, rfl⟩ := Option.isSome_iff_exists.1 hf
  rw [← h]
  rfl
theorem qb_of {A : Option (List Nat)} {q : List Nat} (h : A.getD [] = q) (hb : ∀ b, A = some b → ∀ y ∈ b, y < 256) : ∀ y ∈ q, y < 256 := by
  cases A with
  | none => rw [← h]; simp
  | some b => rw [← h]; exact hb b rfl
theorem ql_of {A : Option (List Nat)} {q : List Nat} (h : A.getD [] = q) (hb : ∀ b, A = some b → b.length ≤ 67108864) : q.length ≤ 67108864 := by
  cases A with
  | none => rw [← h]; simp
  | some b => rw [← h]; exact hb b rfl
theorem at_none13 {A : Option (List Nat)} (hf : A.isSome = false) : A = none := by
  cases A with
  | none => rfl
  | some _ => cases hf
structure Dfy (w : World) (wx : World) (s : Dr) (x : Blk) (vb : Value) (p qp : Nat) (q : List Nat) (f : Nat) : Prop where
  b : Below w.heap.size w wx
  r : wx.heap[w.heap.size]? = some (.cells dzc 159 (0, 0))
  d : wx.heap[w.heap.size + 2]? = some (.cells #[.map (some (w.heap.size + 1)), .int .i64 (f : Nat), .int .i64 s.g] 159 (0, 0))
  m : Mlb wx (w.heap.size + 1) s.d
  xb : wx.heap[p]? = some (.cells (bcs x vb) 60 (0, 0))
  qb : wx.heap[qp]? = some (.cells #[.string (nstr q)] 130 (0, 0))
theorem Dfy.next {w wx w5 : World} {s : Dr} {x : Blk} {vb : Value} {p qp : Nat} {q : List Nat} {f : Nat} (h : Dfy w wx s x vb p qp q f) (hb : Below wx.heap.size wx w5) : Dfy w w5 s x vb p qp q f :=
  ⟨h.b.trans (hb.mono h.b.size), (hb.block _ (blk_lt h.r)).trans h.r, (hb.block _ (blk_lt h.d)).trans h.d, h.m.next hb, (hb.block _ (blk_lt h.xb)).trans h.xb, (hb.block _ (blk_lt h.qb)).trans h.qb⟩
theorem ne_of_type {w : World} {a b : Nat} {c c' : Array Value} {t t' : TypeId} (h : w.heap[a]? = some (.cells c t (0, 0))) (h' : w.heap[b]? = some (.cells c' t' (0, 0))) (hne : t ≠ t') : a ≠ b := fun e => by
  rw [e, h'] at h
  injection h with h
  injection h with _ h
  exact hne h.symm
theorem Dfy.fresh {w wx : World} {s : Dr} {x : Blk} {vb : Value} {p qp : Nat} {q : List Nat} {f : Nat} (h : Dfy w wx s x vb p qp q f) : Dfy w (wx.setCell ⟨w.heap.size + 2, 1, none⟩ (.int .i64 ((f + 1 : Nat) : Int))) s x vb p qp q (f + 1) :=
  have hk : Kp (fun q => q = w.heap.size + 2) wx (wx.setCell ⟨w.heap.size + 2, 1, none⟩ (.int .i64 ((f + 1 : Nat) : Int))) := (Kp.refl _ wx).setCell _ _ (fun _ => rfl)
  ⟨h.b.trans (hk.below h.b.size (fun _ e => by omega)), (hk.block _ (blk_lt h.r) (by omega)).trans h.r, blk_set 1 _ h.d, h.m.kp hk (by omega), (hk.block _ (blk_lt h.xb) (ne_of_type h.xb h.d (by decide))).trans h.xb, (hk.block _ (blk_lt h.qb) (ne_of_type h.qb h.d (by decide))).trans h.qb⟩
theorem Dfy.put {w wx w5 : World} {s : Dr} {x : Blk} {vb : Value} {p qp : Nat} {q : List Nat} {f : Nat} (h : Dfy w wx s x vb p qp q f) (hk : Kp (fun y => y = w.heap.size + 1) wx w5) {t : Dr} (ht : Mlb w5 (w.heap.size + 1) t.d) (hg : t.g = s.g) : Dfy w w5 t x vb p qp q f :=
  ⟨h.b.trans (hk.below h.b.size (fun _ e => by omega)), (hk.block _ (blk_lt h.r) (by omega)).trans h.r, by rw [hg]; exact (hk.block _ (blk_lt h.d) (by omega)).trans h.d, ht, (hk.block _ (blk_lt h.xb) (h.m.ne h.xb)).trans h.xb, (hk.block _ (blk_lt h.qb) (h.m.ne h.qb)).trans h.qb⟩
theorem infoDr : (Tryz.prog.info? 159).map (·.size) = some 3 := by kernel_rfl
theorem wpList_zeroD {ops : Array Oper} {rest : List Oper} {o : Oper} {a : Act} {Q : Exit → Act → World → Prop} {w : World} {p x : Operand} (hgd : o.guard = none) (ho : o.op = .store 159 p x) (g : Nat)
    (hp : a.eval p = .pointer (some ⟨g, 0, none⟩)) (hx : a.eval x = .agg dzc) (hg : w.heap[g]? = some (.cells dzc 159 (0, 0))) (h : wpList Tryz.prog ops Q rest (a.put o.dst undef) w) : wpList Tryz.prog ops Q (o :: rest) a w := by
  refine wpList_storeRow hgd ho g dzc dzc 159 hp hx hg infoDr rfl (by kernel_rfl) ?_
  rw [setRow_self w g dzc 159 (0, 0) hg]
  exact h
theorem wpList_lookQ {ops : Array Oper} {rest : List Oper} {o : Oper} {a : Act} {Q : Exit → Act → World → Prop} {w : World} (hgd : Region.wanted o (yielded ops a.tmps) = true) {m x : Operand} (ho : o.op = .lookup 105 m x true) {B : Nat} {L : List Blk} {l : Lk} (hm : a.eval m = .map (some B)) (hx : a.eval x = lkv l) (h : Mlb w B L) (hl : Lkx l) (q : List Nat) (f : Bool) (hq : (atB L l).getD [] = q) (hf : (atB L l).isSome = f)
    (hK : wpList Tryz.prog ops Q rest (a.put o.dst (.tuple #[.agg #[.string (nstr q)], .bool f])) w) : wpList Tryz.prog ops Q (o :: rest) a w := by
  refine wpList_lookB hgd ho hm hx h hl ?_
  rw [hq, hf]
  exact hK
theorem bneS {a b : List Nat} (ha : ∀ x ∈ a, x < 256) (hb : ∀ x ∈ b, x < 256) : ((nstr a).toList == (nstr b).toList) = decide (a = b) := by
  by_cases h : a = b
  · subst h
    simp
  · rw [decide_eq_false h, beq_eq_false_iff_ne]
    exact fun e => h (nstr_inj ha hb e)
set_option maxRecDepth 1000000 in
set_option maxHeartbeats 2000000 in
theorem drafted13_any (w : World) (g B r : Nat) (k z : Int) (L : List Blk) (hg : w.heap[g]? = some (.cells (stc r k B z) 118 (0, 0))) (hM : Mlb w B L) (v : Value) (X : List Blk) (hv : KSl w v X) (hX : ∀ x ∈ X, x.2.length ≤ 67108864) (hn : X.length ≤ 1048576) (hcb : Cb w) :
    Calls Tryz.prog 75 #[.pointer (some ⟨g, 0, none⟩), v, .func (.func 37) #[] #[]] w (DrP w L X) := by
  have hv2 := hv
  obtain ⟨⟨a, cap, rfl, -, -⟩, -⟩ := hv2
  have HV := hide hv
  have HG := hide hg
  have HM := hide hM
  have HX := hide hX
  have HCB := hide hcb
  have HI5 := hide infoBq
  have HAB : Hid (∀ w, (isAgg 60).run Tryz.prog w = .ok true w) := aggBq
  have hnot : ∀ (x : Bool) (w : World), (Op.unary .not (.bool x)).run Tryz.prog w = .ok (.bool (!x)) w := fun _ _ => rfl
  have hmm := @run_makeMap Tryz.prog
  clear hv hcb hg hM hX
  go_enter Tryz.func75, Tryz.ntmps75
  go_upto_region 2 with fail
  rw [show w.heap.size + 1 + 1 = w.heap.size + 2 from rfl]
  have HD0 : Hid (Dfw w L X (((w.alloc (.cells #[.map none, .int .i64 0, .int .i64 0] 159)).alloc (.map #[] 0)).alloc (.cells #[.map (some (w.heap.size + 1)), .int .i64 0, .int .i64 0] 159)) 0 ⟨[], 0, 0⟩) := by
    have e1 : (w.alloc (.cells #[.map none, .int .i64 0, .int .i64 0] 159)).heap.size = w.heap.size + 1 := by simp
    have e2 : ((w.alloc (.cells #[.map none, .int .i64 0, .int .i64 0] 159)).alloc (.map #[] 0)).heap.size = w.heap.size + 2 := by simp
    have b1 := below_alloc4 w (.cells #[.map none, .int .i64 0, .int .i64 0] 159)
    have b2 := below_alloc4 (w.alloc (.cells #[.map none, .int .i64 0, .int .i64 0] 159)) (.map #[] 0)
    have b3 := below_alloc4 ((w.alloc (.cells #[.map none, .int .i64 0, .int .i64 0] 159)).alloc (.map #[] 0)) (.cells #[.map (some (w.heap.size + 1)), .int .i64 0, .int .i64 0] 159)
    have h3 := heap_alloc_new ((w.alloc (.cells #[.map none, .int .i64 0, .int .i64 0] 159)).alloc (.map #[] 0)) (.cells #[.map (some (w.heap.size + 1)), .int .i64 0, .int .i64 0] 159)
    rw [e2] at h3
    have hm := Mlb.made (w.alloc (.cells #[.map none, .int .i64 0, .int .i64 0] 159))
    rw [e1] at hm
    exact ⟨(b1.trans (b2.mono (by rw [e1]; omega))).trans (b3.mono (by rw [e2]; omega)), blk_alloc _ (blk_alloc _ (heap_alloc_new w _)), h3, hm.next b3, rfl, Nat.le_refl _, Nat.le_refl _, by simp⟩
  generalize ((w.alloc (.cells #[.map none, .int .i64 0, .int .i64 0] 159)).alloc (.map #[] 0)).alloc (.cells #[.map (some (w.heap.size + 1)), .int .i64 0, .int .i64 0] 159) = w0 at *
  clear hmm
  go_wp2_with fail
  go_loopw [19] (fun vi wx => ∃ (i : Nat) (s : Dr), i ≤ X.length ∧ vi = .int .i64 (i : Nat) ∧ Hid (Dfw w L X wx i s)) (fun vi _ => X.length - (intOf vi).toNat)
  case atStart => exact ⟨0, _, by omega, rfl, HD0⟩
  case round =>
    clear HD0
    obtain ⟨i, s, hi, rfl, HR⟩ := hrel
    by_cases hlt : i < X.length
    · have g1 : (i : Int) < (X.length : Int) := by omega
      obtain ⟨x, hx⟩ : ∃ x, X[i]? = some x := ⟨_, List.getElem?_eq_getElem hlt⟩
      obtain ⟨b, off, va, n, vc, rfl, hb, hnl, hl, hb2, hcell⟩ := HV.out.at hx
      have HN := hide hnl
      have HL := hide hl
      have HBS := hide hb
      have HBY := hide hb.byte
      have HX6 := hide (HX.out x (List.mem_of_getElem? hx))
      have HDC := hide (drop_cons13 hx)
      have HCL : Hid (∀ j u, (#[.int .i64 x.1.v, .int .u64 (x.1.c : Nat), .int .u64 (x.1.h : Nat), .string (nstr x.1.d), .slice va n vc] : Array Value)[j]? = some u → wr.cell? ⟨b, off + i * 5 + j, none⟩ = some u) := fun j u hj => keep_below HR.out.b _ _ (hcell j u hj)
      have HB1 := hide (below_alloc4 wr (.cells #[.int .i64 x.1.v, .int .u64 (x.1.c : Nat), .int .u64 (x.1.h : Nat), .string (nstr x.1.d), .slice va n vc] 60))
      have HT : Hid ((wr.alloc (.cells #[.int .i64 x.1.v, .int .u64 (x.1.c : Nat), .int .u64 (x.1.h : Nat), .string (nstr x.1.d), .slice va n vc] 60)).heap[wr.heap.size]? = some (.cells (bcs x (.slice va n vc)) 60 (0, 0))) := heap_alloc_new wr _
      have HSZ : Hid ((wr.alloc (.cells #[.int .i64 x.1.v, .int .u64 (x.1.c : Nat), .int .u64 (x.1.h : Nat), .string (nstr x.1.d), .slice va n vc] 60)).heap.size = wr.heap.size + 1) := by show _ = _; simp
      clear hx hnl hl hb hb2 hcell
      go_upto_region 5 with (refine wpList_aggAt rfl rfl HI5.out HAB.out b (off + i * 5) #[.int .i64 x.1.v, .int .u64 (x.1.c : Nat), .int .u64 (x.1.h : Nat), .string (nstr x.1.d), .slice va n vc] rfl rfl HCL.out ?_)
      generalize wr.alloc (.cells #[.int .i64 x.1.v, .int .u64 (x.1.c : Nat), .int .u64 (x.1.h : Nat), .string (nstr x.1.d), .slice va n vc] 60) = w1 at *
      have HW1 := hide (HR.out.next HB1.out)
      have c0 : w1.cell? ⟨wr.heap.size, 0, none⟩ = some (.int .i64 x.1.v) := blk_cell (j := 0) HT.out rfl
      have c1 : w1.cell? ⟨wr.heap.size, 1, none⟩ = some (.int .u64 (x.1.c : Nat)) := blk_cell (j := 1) HT.out rfl
      have c2 : w1.cell? ⟨wr.heap.size, 2, none⟩ = some (.int .u64 (x.1.h : Nat)) := blk_cell (j := 2) HT.out rfl
      have c3 : w1.cell? ⟨wr.heap.size, 3, none⟩ = some (.string (nstr x.1.d)) := blk_cell (j := 3) HT.out rfl
      have q0 : w1.cell? ⟨w.heap.size + 2, 0, none⟩ = some (.map (some (w.heap.size + 1))) := blk_cell (j := 0) HW1.out.d rfl
      clear HCL HB1 HR
      obtain ⟨q, hq⟩ : ∃ q, (atB s.d x.1).getD [] = q := ⟨_, rfl⟩
      obtain ⟨f, hf⟩ : ∃ f, (atB s.d x.1).isSome = f := ⟨_, rfl⟩
      have HQ := hide hq
      have HF := hide hf
      have HB2 := hide (below_alloc4 w1 (.cells #[.string (nstr q)] 130))
      have HA2 : Hid ((w1.alloc (.cells #[.string (nstr q)] 130)).heap[w1.heap.size]? = some (.cells #[.string (nstr q)] 130 (0, 0))) := heap_alloc_new w1 _
      clear hq hf
      go_upto_region 6 with (at_lookup; refine wpList_lookQ rfl rfl rfl rfl HW1.out.m HL.out q f HQ.out HF.out ?_)
      generalize w1.alloc (.cells #[.string (nstr q)] 130) = w2 at *
      have HW2 := hide (HW1.out.next HB2.out)
      have HT2 : Hid (w2.heap[wr.heap.size]? = some (.cells (bcs x (.slice va n vc)) 60 (0, 0))) := (HB2.out.block _ (blk_lt HT.out)).trans HT.out
      have d0 : w2.cell? ⟨w1.heap.size, 0, none⟩ = some (.string (nstr q)) := blk_cell (j := 0) HA2.out rfl
      have d4 : w2.cell? ⟨wr.heap.size, 4, none⟩ = some (.slice va n vc) := blk_cell (j := 4) HT2.out rfl
      have cv2 := (HBS.out.move (keep_below HW2.out.b)).text
      clear c0 c1 c2 c3 q0 HT HB2 HA2
      cases f
      · have HA : Hid (atB s.d x.1 = none) := at_none13 HF.out
        obtain ⟨q2, hq2⟩ : ∃ q, (atB L x.1).getD [] = q := ⟨_, rfl⟩
        obtain ⟨f2, hf2⟩ : ∃ f, (atB L x.1).isSome = f := ⟨_, rfl⟩
        have HQ2 := hide hq2
        have HF2 := hide hf2
        have HM2 : Hid (Mlb w2 B L) := HM.out.kp (Kp.of_below (S := fun _ => False) HW2.out.b) (fun h => h)
        have hlk : (Instr.lookup 105 (.map (some B)) (.agg #[.int .i64 x.1.v, .int .u64 (x.1.c : Nat), .int .u64 (x.1.h : Nat), .string (nstr x.1.d)]) true).run Tryz.prog w2.drew = .ok (.tuple #[.agg #[.string (nstr q2)], .bool f2]) w2.drew := by
          have h := (HM2.out.block (w' := w2.drew) rfl).look HL.out
          rw [hq2, hf2] at h
          exact h
        have c0 : w2.cell? ⟨wr.heap.size, 0, none⟩ = some (.int .i64 x.1.v) := blk_cell (j := 0) HT2.out rfl
        have c1 : w2.cell? ⟨wr.heap.size, 1, none⟩ = some (.int .u64 (x.1.c : Nat)) := blk_cell (j := 1) HT2.out rfl
        have c2 : w2.cell? ⟨wr.heap.size, 2, none⟩ = some (.int .u64 (x.1.h : Nat)) := blk_cell (j := 2) HT2.out rfl
        have c3 : w2.cell? ⟨wr.heap.size, 3, none⟩ = some (.string (nstr x.1.d)) := blk_cell (j := 3) HT2.out rfl
        have s3 : w2.cell? ⟨g, 3, none⟩ = some (.map (some B)) := keep_below HW2.out.b _ _ (blk_cell (j := 3) HG.out rfl)
        have hlk2 : (Instr.lookup 105 (.map (some B)) (.agg #[.int .i64 x.1.v, .int .u64 (x.1.c : Nat), .int .u64 (x.1.h : Nat), .string (nstr x.1.d)]) true).run Tryz.prog (w2.alloc (.cells #[.string ⟨#[]⟩] 130)).drew = .ok (.tuple #[.agg #[.string (nstr q2)], .bool f2]) (w2.alloc (.cells #[.string ⟨#[]⟩] 130)).drew := by
          have h := ((HM2.out.next (below_alloc4 w2 _)).block (w' := (w2.alloc (.cells #[.string ⟨#[]⟩] 130)).drew) rfl).look HL.out
          rw [hq2, hf2] at h
          exact h
        have l1 : wr.heap.size < w2.heap.size := blk_lt HT2.out
        have l2 : g < w2.heap.size := World.block_lt_of_cell? w2 _ s3
        clear hq2 hf2 HQ HF HW1 d0
        go_upto_region 9 with fail
        go_cut [13, 14] (fun a b wx => a = .pointer (some ⟨w2.heap.size, 0, none⟩) ∧ b = .bool f2 ∧ wx = (w2.alloc (.cells #[.string (nstr q2)] 130)).drew)
        case first => as_aux_lemma =>
          go_region
          all_goals (go_wp2_with fail; go_meet; exact ⟨rfl, rfl, rfl⟩)
        case rest =>
          obtain ⟨rfl, rfl, rfl⟩ := hcut
          have HB3 : Hid (Below w2.heap.size w2 (w2.alloc (.cells #[.string (nstr q2)] 130)).drew) := (below_alloc4 w2 _).drew
          have HA3 : Hid ((w2.alloc (.cells #[.string (nstr q2)] 130)).drew.heap[w2.heap.size]? = some (.cells #[.string (nstr q2)] 130 (0, 0))) := heap_alloc_new w2 _
          clear hlk hlk2 cv2 c0 c1 c2 c3 d4 s3
          generalize (w2.alloc (.cells #[.string (nstr q2)] 130)).drew = w3 at *
          have HW3 := hide (HW2.out.next HB3.out)
          have HY3 : Hid (Dfy w w3 s x (.slice va n vc) wr.heap.size w2.heap.size q2 s.f) := ⟨HW3.out.b, HW3.out.r, HW3.out.d, HW3.out.m, (HB3.out.block _ (blk_lt HT2.out)).trans HT2.out, HA3.out⟩
          have HSF := hide HW3.out.p
          have HSG := hide HW3.out.g
          have HQB2 : Hid (∀ y ∈ q2, y < 256) := qb_of HQ2.out (fun b hb => (HM2.out.ok _ (atB_mem hb)).b)
          have HQ6 : Hid (q2.length ≤ 67108864) := ql_of HQ2.out (fun b hb => (HM2.out.ok _ (atB_mem hb)).n)
          clear HB3 HA3 HT2 HW2 HM2 l1 l2
          go_step
          go_step
          go_cut [7] (fun a wx => ∃ f : Nat, Hid (Dfy w wx s x (.slice va n vc) wr.heap.size w2.heap.size q2 f ∧ f ≤ s.f + 1 ∧ q2.length ≤ 67108864 ∧ drf L X ⟨[], 0, 0⟩ = drf L (X.drop (i + 1)) ⟨x :: s.d, f, s.g + (x.2.length - q2.length)⟩))
          case first =>
            have b0 : w3.cell? ⟨w2.heap.size, 0, none⟩ = some (.string (nstr q2)) := blk_cell (j := 0) HY3.out.qb rfl
            cases f2
            · have hS := at_none13 HF2.out
              have HE : Hid (Dfy w (w3.setCell ⟨w.heap.size + 2, 1, none⟩ (.int .i64 ((s.f + 1 : Nat) : Int))) s x (.slice va n vc) wr.heap.size w2.heap.size q2 (s.f + 1) ∧ s.f + 1 ≤ s.f + 1 ∧ q2.length ≤ 67108864 ∧ drf L X ⟨[], 0, 0⟩ = drf L (X.drop (i + 1)) ⟨x :: s.d, s.f + 1, s.g + (x.2.length - q2.length)⟩) := by
                refine ⟨HY3.out.fresh, Nat.le_refl _, HQ6.out, ?_⟩
                have hq0 : q2 = [] := by rw [← HQ2.out, hS]; rfl
                rw [HW3.out.f, HDC.out, drf_new HA.out hS, hq0]
                simp
              have m1 : w3.cell? ⟨w.heap.size + 2, 1, none⟩ = some (.int .i64 (s.f : Nat)) := blk_cell (j := 1) HY3.out.d rfl
              have z1 := blk_frozen 1 HY3.out.d
              have wr3 : IntKind.i64.wrap ((s.f : Int) + 1) = ((s.f + 1 : Nat) : Int) := by have := HSF.out; rw [IntKind.wrap_i64]; omega
              clear hS HY3 HW3 HSF HSG
              go_wp2_with fail
              go_meet
              case rel => exact ⟨_, HE⟩
            · have hS := at_some13 HQ2.out HF2.out
              have HS := hide hS
              have e12 := bneS HQB2.out HBY.out
              have d4 : w3.cell? ⟨wr.heap.size, 4, none⟩ = some (.slice va n vc) := blk_cell (j := 4) HY3.out.xb rfl
              have cv3 := (HBS.out.move (keep_below HY3.out.b)).text
              clear hS
              by_cases hqx : q2 = x.2
              · rw [decide_eq_true hqx] at e12
                have HE : Hid (Dfw w L X w3 (i + 1) s) := HW3.out.skip (by rw [HW3.out.f, HDC.out, drf_stands HA.out HS.out hqx])
                clear hqx HS HY3 HW3
                go_wp2_with fail
                go_roundw
                case rel => exact ⟨i + 1, s, by omega, by go_num, HE⟩
                case measure => simp [intOf]; omega
              · rw [decide_eq_false hqx] at e12
                have HU := hide hqx
                have c0 : w3.cell? ⟨wr.heap.size, 0, none⟩ = some (.int .i64 x.1.v) := blk_cell (j := 0) HY3.out.xb rfl
                have c1 : w3.cell? ⟨wr.heap.size, 1, none⟩ = some (.int .u64 (x.1.c : Nat)) := blk_cell (j := 1) HY3.out.xb rfl
                have c2 : w3.cell? ⟨wr.heap.size, 2, none⟩ = some (.int .u64 (x.1.h : Nat)) := blk_cell (j := 2) HY3.out.xb rfl
                have c3 : w3.cell? ⟨wr.heap.size, 3, none⟩ = some (.string (nstr x.1.d)) := blk_cell (j := 3) HY3.out.xb rfl
                have cvs := conv_sb w3 (nstr q2)
                have HS1 : Hid (BSl (Lib.bytesWorld w3 5 (nstr q2)) (.slice (some ⟨w3.heap.size, 0, none⟩) (nstr q2).size (grownCap w3 (nstr q2).size 0 5)) q2) := by
                  have h := conv_sb_bsl w3 (nstr q2) (by rw [nstr_size HQB2.out]; have := HQ6.out; omega)
                  rw [sl_nstr HQB2.out] at h
                  exact h
                have HY4 := hide (HY3.out.next (conv_sb_below w3 (nstr q2)))
                have HH := hide (holds13_any (Lib.bytesWorld w3 5 (nstr q2)) x.1 HL.out.toLkb _ q2 (HCB.out.below HY4.out.b) HS1.out (by have := HQ6.out; omega))
                simp only [lkv] at HH
                clear hqx
                cases hh : dholds x.1.h x.1.d q2
                · rw [hh] at HH
                  have HEQ : Hid (drf L X ⟨[], 0, 0⟩ = drf L (X.drop (i + 1)) ⟨x :: s.d, s.f, s.g + (x.2.length - q2.length)⟩) := by show _ = _; rw [HW3.out.f, HDC.out, drf_over HA.out HS.out HU.out hh]
                  clear hh HU HY3 HW3
                  go_wp2_with (go_at_call 37; refine HH.out.mono ?_; rintro e w6 ⟨rfl, hb6⟩)
                  have HY6 := hide (HY4.out.next hb6)
                  go_meet
                  case rel => exact ⟨s.f, HY6.out, Nat.le_succ _, HQ6.out, HEQ.out⟩
                · rw [hh] at HH
                  have HEQ : Hid (drf L X ⟨[], 0, 0⟩ = none) := by show _ = _; rw [HW3.out.f, HDC.out, drf_clash HA.out HS.out HU.out hh]
                  clear hh HU HY3 HW3
                  go_upto_region 14 with (go_at_call 37; refine HH.out.mono ?_; rintro e w6 ⟨rfl, hb6⟩)
                  have HY6 := hide (HY4.out.next hb6)
                  go_wp2_with (refine wpList_zeroD rfl rfl w.heap.size rfl rfl HY6.out.r ?_)
                  exact bodyPost_ret (end_c2 rfl Tryz.underlying159 infoDr rfl HY6.out.r rfl rfl) rfl (DrP.no HY6.out.b HEQ.out)
          case rest =>
            obtain ⟨f, HY0⟩ := hcut
            have HY := hide HY0.out.1
            have HEQ := hide HY0.out.2.2.2
            have hf1 := HY0.out.2.1
            have hq6 := HY0.out.2.2.1
            have hsp := HSF.out
            have hsg := HSG.out
            have hx6 := HX6.out
            have HNI := hide HW3.out.n
            clear HY0 HY3 HW3 HSF HSG HX6
            have HG5 : Hid (Bgd (x.1, x.2)) := ⟨HL.out, HBY.out, hx6⟩
            have HLE : Hid (s.d.length < 140737488351232) := by have := HNI.out; show _ < _; omega
            have c0 : wc.cell? ⟨wr.heap.size, 0, none⟩ = some (.int .i64 x.1.v) := blk_cell (j := 0) HY.out.xb rfl
            have c1 : wc.cell? ⟨wr.heap.size, 1, none⟩ = some (.int .u64 (x.1.c : Nat)) := blk_cell (j := 1) HY.out.xb rfl
            have c2 : wc.cell? ⟨wr.heap.size, 2, none⟩ = some (.int .u64 (x.1.h : Nat)) := blk_cell (j := 2) HY.out.xb rfl
            have c3 : wc.cell? ⟨wr.heap.size, 3, none⟩ = some (.string (nstr x.1.d)) := blk_cell (j := 3) HY.out.xb rfl
            have c4 : wc.cell? ⟨wr.heap.size, 4, none⟩ = some (.slice va n vc) := blk_cell (j := 4) HY.out.xb rfl
            have m0 : wc.cell? ⟨w.heap.size + 2, 0, none⟩ = some (.map (some (w.heap.size + 1))) := blk_cell (j := 0) HY.out.d rfl
            have cv4 := (HBS.out.move (keep_below HY.out.b)).text
            go_upto_region 16 with (at_mapUpdate; refine wpList_putB (B := w.heap.size + 1) (L := s.d) (l := x.1) (b := x.2) rfl rfl rfl rfl rfl HY.out.m HG5.out HLE.out ?_; intro w5 hM5 hK5 hz5; go_frame)
            have hpd : putB s.d x.1 x.2 = x :: s.d := by unfold putB; rw [delB_none HA.out]
            rw [hpd] at hM5
            have HY5 : Hid (Dfy w w5 ⟨x :: s.d, f, s.g⟩ x (.slice va n vc) wr.heap.size w2.heap.size q2 f) := HY.out.put hK5 hM5 rfl
            clear hM5 hK5 hz5 hpd c0 c1 c2 c3 c4 m0 cv4 HY HG5
            have d4 : w5.cell? ⟨wr.heap.size, 4, none⟩ = some (.slice va n vc) := blk_cell (j := 4) HY5.out.xb rfl
            have d0 : w5.cell? ⟨w2.heap.size, 0, none⟩ = some (.string (nstr q2)) := blk_cell (j := 0) HY5.out.qb rfl
            have m2 : w5.cell? ⟨w.heap.size + 2, 2, none⟩ = some (.int .i64 s.g) := blk_cell (j := 2) HY5.out.d rfl
            have z2 := blk_frozen 2 HY5.out.d
            obtain ⟨y, hy⟩ : ∃ y : Int, s.g + ((x.2.length : Int) - (q2.length : Int)) = y := ⟨_, rfl⟩
            have hqs : ((nstr q2).size : Int) = (q2.length : Int) := by rw [nstr_size HQB2.out]
            have wr1 : IntKind.i64.wrap ((n : Int) - ((nstr q2).size : Int)) = (x.2.length : Int) - (q2.length : Int) := by have := HN.out; rw [IntKind.wrap_i64, hqs]; omega
            have wr2 : IntKind.i64.wrap (s.g + ((x.2.length : Int) - (q2.length : Int))) = y := by rw [IntKind.wrap_i64]; omega
            have hs6 := blk_set 2 (.int .i64 y) HY5.out.d
            have hk6 : Kp (fun q => q = w.heap.size + 2) w5 (w5.setCell ⟨w.heap.size + 2, 2, none⟩ (.int .i64 y)) := (Kp.refl _ w5).setCell _ _ (fun _ => rfl)
            have HE : Hid (Dfw w L X (w5.setCell ⟨w.heap.size + 2, 2, none⟩ (.int .i64 y)) (i + 1) ⟨x :: s.d, f, s.g + (x.2.length - q2.length)⟩) :=
              ⟨HY5.out.b.trans (hk6.below HY5.out.b.size (fun _ e => by omega)), (hk6.block _ (blk_lt HY5.out.r) (by omega)).trans HY5.out.r, by rw [hy]; exact hs6, HY5.out.m.kp hk6 (by omega), HEQ.out, Nat.succ_le_succ HNI.out, (by show f ≤ i + 1; omega), by constructor <;> (simp only; omega)⟩
            clear HEQ HY5 hy hs6 hk6 hsp hsg hx6 hf1 hq6 hqs HNI
            go_wp2_with fail
            go_roundw
            case rel => exact ⟨i + 1, _, by omega, by go_num, HE⟩
            case measure => simp [intOf]; omega
      · have hA := at_some13 HQ.out HF.out
        have HQB : Hid (∀ y ∈ q, y < 256) := (HW1.out.m.ok _ (atB_mem hA)).b
        have e7 := bneS HQB.out HBY.out
        have HR2 := hide HW2.out.r
        by_cases hqx : q = x.2
        · rw [decide_eq_true hqx] at e7
          have HE : Hid (Dfw w L X w2 (i + 1) s) := HW2.out.skip (by rw [HW2.out.f, HDC.out, drf_same hA hqx])
          clear hqx hA HW1 HW2 HT2 HQB HQ HF
          go_wp2_with fail
          go_roundw
          case rel => exact ⟨i + 1, s, by omega, by go_num, HE⟩
          case measure => simp [intOf]; omega
        · rw [decide_eq_false hqx] at e7
          have HE : Hid (drf L X ⟨[], 0, 0⟩ = none) := by show _ = _; rw [HW2.out.f, HDC.out, drf_unlike hA hqx]
          have HBE := hide HW2.out.b
          clear hqx hA HW1 HW2 HT2 HQB HQ HF
          go_wp2_with (refine wpList_zeroD rfl rfl w.heap.size rfl rfl HR2.out ?_)
          exact bodyPost_ret (end_c2 rfl Tryz.underlying159 infoDr rfl HR2.out rfl rfl) rfl (DrP.no HBE.out HE.out)
    · have g1 : ¬ (i : Int) < (X.length : Int) := by omega
      have HE : Hid (drf L X ⟨[], 0, 0⟩ = some s) := by show _ = _; rw [HR.out.f, List.drop_eq_nil_of_le (by omega), drf]
      have HB9 := hide HR.out.b
      have HM9 := hide HR.out.m
      have HR9 := hide HR.out.r
      have hne : w.heap.size + 1 ≠ w.heap.size := by omega
      have HA9 : Hid ((dfc (w.heap.size + 1) s).all (·.oneCell') = true) := by show _ = _; simp [dfc, Value.oneCell']
      have q0 : wr.cell? ⟨w.heap.size + 2, 0, none⟩ = some (.map (some (w.heap.size + 1))) := blk_cell (j := 0) HR.out.d rfl
      have q1 : wr.cell? ⟨w.heap.size + 2, 1, none⟩ = some (.int .i64 (s.f : Nat)) := blk_cell (j := 1) HR.out.d rfl
      have q2 : wr.cell? ⟨w.heap.size + 2, 2, none⟩ = some (.int .i64 s.g) := blk_cell (j := 2) HR.out.d rfl
      clear HR
      go_wp2_with (refine wpList_storeRow rfl rfl w.heap.size dzc (dfc (w.heap.size + 1) s) 159 rfl rfl HR9.out infoDr rfl HA9.out ?_)
      have hk := row_kp wr w.heap.size (dfc (w.heap.size + 1) s)
      have HP : DrP w L X (.returned (.tuple #[.agg (dfc (w.heap.size + 1) s), .bool false])) (wr.setRow w.heap.size (dfc (w.heap.size + 1) s)) := DrP.yes (HB9.out.trans (hk.below HB9.out.size (fun q e => by omega))) HE.out (HM9.out.kp hk hne)
      refine bodyPost_ret (v := .tuple #[.agg (dfc (w.heap.size + 1) s), .bool false]) (end_c2 (cs := dfc (w.heap.size + 1) s) rfl Tryz.underlying159 infoDr rfl (row_same HR9.out) rfl rfl) rfl ?_
      exact HP
end
end Go.Proofs.YtnkghcndaafmoaaGreatDoor

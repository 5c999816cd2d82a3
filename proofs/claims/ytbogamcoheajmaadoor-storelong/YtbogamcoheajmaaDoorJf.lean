import Derived.Test.YtbogamcoheajmaaDoorJe
import Derived.Test.YtbogamcoheajmaaDoorJa
import Derived.Defers
import Derived.Laws.Pointers
import Derived.Laws.LoneSync
import Derived.RegionCalls
import Derived.Laws.NewBlocks
import Derived.Test.YtbogamcoheajmaaDoorJd
namespace Go.Proofs.YtbogamcoheajmaaDoor
section
open Go.RowKit Go
/-! ### drafted -/
def DrQ (e : Ending) (w w' : World) : Option Dr → Prop
  | none => e = .returned (.tuple #[.agg #[.map none, .int .i64 0, .int .i64 0], .bool true])
  | some s => ∃ Bd, w.heap.size ≤ Bd ∧ e = .returned (.tuple #[.agg #[.map (some Bd), .int .i64 (s.f : Nat), .int .i64 s.g], .bool false]) ∧ Mlb w' Bd s.d
def DrP (w : World) (L X : List Blk) (e : Ending) (w' : World) : Prop := Below w.heap.size w w' ∧ DrQ e w w' (drf L X ⟨[], 0, 0⟩)
theorem DrP.no {w w' : World} {L X : List Blk} (hb : Below w.heap.size w w') (h : drf L X ⟨[], 0, 0⟩ = none) : DrP w L X (.returned (.tuple #[.agg #[.map none, .int .i64 0, .int .i64 0], .bool true])) w' := ⟨hb, by rw [h]; rfl⟩
theorem DrP.yes {w w' : World} {L X : List Blk} (hb : Below w.heap.size w w') {s : Dr} (h : drf L X ⟨[], 0, 0⟩ = some s) (hm : Mlb w' (w.heap.size + 1) s.d) : DrP w L X (.returned (.tuple #[.agg #[.map (some (w.heap.size + 1)), .int .i64 (s.f : Nat), .int .i64 s.g], .bool false])) w' := ⟨hb, by rw [h]; exact ⟨_, Nat.le_succ _, rfl, hm⟩⟩
def dzc : Array Value := #[.map none, .int .i64 0, .int .i64 0]
def dfc (M : Nat) (s : Dr) : Array Value := #[.map (some M), .int .i64 (s.f : Nat), .int .i64 s.g]
/-- What the loop of drafted stands on. -/
structure Dfw (w : World) (L X : List Blk) (wx : World) (i : Nat) (s : Dr) : Prop where
  b : Below w.heap.size w wx
  r : wx.heap[w.heap.size]? = some (.cells dzc 83 (0, 0))
  d : wx.heap[w.heap.size + 2]? = some (.cells (dfc (w.heap.size + 1) s) 83 (0, 0))
  m : Mlb wx (w.heap.size + 1) s.d
  f : drf L X ⟨[], 0, 0⟩ = drf L (X.drop i) s
  n : s.d.length ≤ i
  p : s.f ≤ i
  g : -(i * 67108864 : Int) ≤ s.g ∧ s.g ≤ i * 67108864
theorem Dfw.next {w wx wy : World} {L X : List Blk} {i : Nat} {s : Dr} (h : Dfw w L X wx i s) (hb : Below wx.heap.size wx wy) : Dfw w L X wy i s :=
  ⟨h.b.trans (hb.mono h.b.size), (hb.block _ (blk_lt h.r)).trans h.r, (hb.block _ (blk_lt h.d)).trans h.d, h.m.next hb, h.f, h.n, h.p, h.g⟩
theorem Dfw.skip {w wx : World} {L X : List Blk} {i : Nat} {s : Dr} (h : Dfw w L X wx i s) (hf : drf L X ⟨[], 0, 0⟩ = drf L (X.drop (i + 1)) s) : Dfw w L X wx (i + 1) s :=
  ⟨h.b, h.r, h.d, h.m, hf, Nat.le_succ_of_le h.n, Nat.le_succ_of_le h.p, by have := h.g; omega⟩
theorem drf_same {L r : List Blk} {s : Dr} {x : Blk} {b : List Nat} (h : atB s.d x.1 = some b) (hb : b = x.2) : drf L (x :: r) s = drf L r s := by
  rw [drf, h]
  simp [hb]
theorem drf_unlike {L r : List Blk} {s : Dr} {x : Blk} {b : List Nat} (h : atB s.d x.1 = some b) (hb : b ≠ x.2) : drf L (x :: r) s = none := by
  rw [drf, h]
  simp [hb]
theorem drf_new {L r : List Blk} {s : Dr} {x : Blk} (h : atB s.d x.1 = none) (h2 : atB L x.1 = none) : drf L (x :: r) s = drf L r ⟨x :: s.d, s.f + 1, s.g + x.2.length⟩ := by
  rw [drf, h, h2]
theorem drf_stands {L r : List Blk} {s : Dr} {x : Blk} {b : List Nat} (h : atB s.d x.1 = none) (h2 : atB L x.1 = some b) (hb : b = x.2) : drf L (x :: r) s = drf L r s := by
  rw [drf, h, h2]
  simp [hb]
theorem drf_clash {L r : List Blk} {s : Dr} {x : Blk} {b : List Nat} (h : atB s.d x.1 = none) (h2 : atB L x.1 = some b) (hb : b ≠ x.2) (hd : dholds x.1.h x.1.d b = true) : drf L (x :: r) s = none := by
  rw [drf, h, h2]
  simp [hb, hd]
theorem drf_over {L r : List Blk} {s : Dr} {x : Blk} {b : List Nat} (h : atB s.d x.1 = none) (h2 : atB L x.1 = some b) (hb : b ≠ x.2) (hd : dholds x.1.h x.1.d b = false) : drf L (x :: r) s = drf L r ⟨x :: s.d, s.f, s.g + (x.2.length - b.length)⟩ := by
  rw [drf, h, h2]
  simp [hb, hd]
theorem at_some13 {A : Option (List Nat)} {q : List Nat} (h : A.getD [] = q) (hf : A.isSome = true) : A = some q := by
  obtain ⟨b, rfl⟩ := Option.isSome_iff_exists.1 hf
  rw [← h]
  rfl
theorem qb_of {A : Option (List Nat)} {q : List Nat} (h : A.getD [] = q) (hb : ∀ b, A = some b → ∀ y ∈ b, y < 256) : ∀ y ∈ q, y < 256 := by
  cases A with
  | none => rw [← h]; simp
  | some b => rw [← h]; exact hb b rfl
theorem ql_of {A : Option (List Nat)} {q : List Nat} (h : A.getD [] = q) (hb : ∀ b, A = some b → b.length ≤ 67108864) : q.length ≤ 67108864 := by
  cases A with
  | none => rw [← h]; simp
  | some b => rw [← h]; exact hb b rfl
theorem at_none13 {A : Option (List Nat)} (hf : A.isSome = false) : A = none := by
  cases A with
  | none => rfl
  | some _ => cases hf
/-- A block of the list is to be laid. -/
structure Dfy (w : World) (wx : World) (s : Dr) (x : Blk) (vb : Value) (p qp : Nat) (q : List Nat) (f : Nat) : Prop where
  b : Below w.heap.size w wx
  r : wx.heap[w.heap.size]? = some (.cells dzc 83 (0, 0))
  d : wx.heap[w.heap.size + 2]? = some (.cells #[.map (some (w.heap.size + 1)), .int .i64 (f : Nat), .int .i64 s.g] 83 (0, 0))
  m : Mlb wx (w.heap.size + 1) s.d
  xb : wx.heap[p]? = some (.cells (bcs x vb) 41 (0, 0))
  qb : wx.heap[qp]? = some (.cells #[.string (nstr q)] 63 (0, 0))
theorem Dfy.next {w wx w5 : World} {s : Dr} {x : Blk} {vb : Value} {p qp : Nat} {q : List Nat} {f : Nat} (h : Dfy w wx s x vb p qp q f) (hb : Below wx.heap.size wx w5) : Dfy w w5 s x vb p qp q f :=
  ⟨h.b.trans (hb.mono h.b.size), (hb.block _ (blk_lt h.r)).trans h.r, (hb.block _ (blk_lt h.d)).trans h.d, h.m.next hb, (hb.block _ (blk_lt h.xb)).trans h.xb, (hb.block _ (blk_lt h.qb)).trans h.qb⟩
theorem ne_of_type {w : World} {a b : Nat} {c c' : Array Value} {t t' : TypeId} (h : w.heap[a]? = some (.cells c t (0, 0))) (h' : w.heap[b]? = some (.cells c' t' (0, 0))) (hne : t ≠ t') : a ≠ b := fun e => by
  rw [e, h'] at h
  injection h with h
  injection h with _ h
  exact hne h.symm
theorem Dfy.fresh {w wx : World} {s : Dr} {x : Blk} {vb : Value} {p qp : Nat} {q : List Nat} {f : Nat} (h : Dfy w wx s x vb p qp q f) : Dfy w (wx.setCell ⟨w.heap.size + 2, 1, none⟩ (.int .i64 ((f + 1 : Nat) : Int))) s x vb p qp q (f + 1) :=
  have hk : Kp (fun q => q = w.heap.size + 2) wx (wx.setCell ⟨w.heap.size + 2, 1, none⟩ (.int .i64 ((f + 1 : Nat) : Int))) := (Kp.refl _ wx).setCell _ _ (fun _ => rfl)
  ⟨h.b.trans (hk.below h.b.size (fun _ e => by omega)), (hk.block _ (blk_lt h.r) (by omega)).trans h.r, blk_set 1 _ h.d, h.m.kp hk (by omega), (hk.block _ (blk_lt h.xb) (ne_of_type h.xb h.d (by decide))).trans h.xb, (hk.block _ (blk_lt h.qb) (ne_of_type h.qb h.d (by decide))).trans h.qb⟩
theorem Dfy.put {w wx w5 : World} {s : Dr} {x : Blk} {vb : Value} {p qp : Nat} {q : List Nat} {f : Nat} (h : Dfy w wx s x vb p qp q f) (hk : Kp (fun y => y = w.heap.size + 1) wx w5) {t : Dr} (ht : Mlb w5 (w.heap.size + 1) t.d) (hg : t.g = s.g) : Dfy w w5 t x vb p qp q f :=
  ⟨h.b.trans (hk.below h.b.size (fun _ e => by omega)), (hk.block _ (blk_lt h.r) (by omega)).trans h.r, by rw [hg]; exact (hk.block _ (blk_lt h.d) (by omega)).trans h.d, ht, (hk.block _ (blk_lt h.xb) (h.m.ne h.xb)).trans h.xb, (hk.block _ (blk_lt h.qb) (h.m.ne h.qb)).trans h.qb⟩
theorem infoDr : (Tryd.prog.info? 83).map (·.size) = some 3 := by kernel_rfl
theorem wpList_zeroD {ops : Array Oper} {rest : List Oper} {o : Oper} {a : Act} {Q : Exit → Act → World → Prop} {w : World} {p x : Operand} (hgd : o.guard = none) (ho : o.op = .store 83 p x) (g : Nat)
    (hp : a.eval p = .pointer (some ⟨g, 0, none⟩)) (hx : a.eval x = .agg dzc) (hg : w.heap[g]? = some (.cells dzc 83 (0, 0))) (h : wpList Tryd.prog ops Q rest (a.put o.dst undef) w) : wpList Tryd.prog ops Q (o :: rest) a w := by
  refine wpList_storeRow hgd ho g dzc dzc 83 hp hx hg infoDr rfl (by kernel_rfl) ?_
  rw [setRow_self w g dzc 83 (0, 0) hg]
  exact h
theorem wpList_lookQ {ops : Array Oper} {rest : List Oper} {o : Oper} {a : Act} {Q : Exit → Act → World → Prop} {w : World} (hgd : Region.wanted o (yielded ops a.tmps) = true) {m x : Operand} (ho : o.op = .lookup 43 m x true) {B : Nat} {L : List Blk} {l : Lk} (hm : a.eval m = .map (some B)) (hx : a.eval x = lkv l) (h : Mlb w B L) (hl : Lkx l) (q : List Nat) (f : Bool) (hq : (atB L l).getD [] = q) (hf : (atB L l).isSome = f)
    (hK : wpList Tryd.prog ops Q rest (a.put o.dst (.tuple #[.agg #[.string (nstr q)], .bool f])) w) : wpList Tryd.prog ops Q (o :: rest) a w := by
  refine wpList_lookB hgd ho hm hx h hl ?_
  rw [hq, hf]
  exact hK
theorem bneS {a b : List Nat} (ha : ∀ x ∈ a, x < 256) (hb : ∀ x ∈ b, x < 256) : ((nstr a).toList == (nstr b).toList) = decide (a = b) := by
  by_cases h : a = b
  · subst h
    simp
  · rw [decide_eq_false h, beq_eq_false_iff_ne]
    exact fun e => h (nstr_inj ha hb e)
set_option maxRecDepth 1000000 in
set_option maxHeartbeats 2000000 in
theorem drafted13_any (w : World) (g B r : Nat) (k z : Int) (L : List Blk) (hg : w.heap[g]? = some (.cells (stc r k B z) 56 (0, 0))) (hM : Mlb w B L) (v : Value) (X : List Blk) (hv : KSl w v X) (hX : ∀ x ∈ X, x.2.length ≤ 67108864) (hn : X.length ≤ 1048576) (hcb : Cb w) :
    Calls Tryd.prog 36 #[.pointer (some ⟨g, 0, none⟩), v, .func (.func 25) #[] #[]] w (DrP w L X) := by
  have hv2 := hv
  obtain ⟨⟨a, cap, rfl, -, -⟩, -⟩ := hv2
  have HV := hide hv
  have HG := hide hg
  have HM := hide hM
  have HX := hide hX
  have HCB := hide hcb
  have HI5 := hide infoBk
  have HAB : Hid (∀ w, (isAgg 41).run Tryd.prog w = .ok true w) := aggBk
  have hnot : ∀ (x : Bool) (w : World), (Op.unary .not (.bool x)).run Tryd.prog w = .ok (.bool (!x)) w := fun _ _ => rfl
  have hmm := @run_makeMap Tryd.prog
  clear hv hcb hg hM hX
  go_enter Tryd.func36, Tryd.ntmps36
  go_upto_region 2 with fail
  rw [show w.heap.size + 1 + 1 = w.heap.size + 2 from rfl]
  have HD0 : Hid (Dfw w L X (((w.alloc (.cells #[.map none, .int .i64 0, .int .i64 0] 83)).alloc (.map #[] 0)).alloc (.cells #[.map (some (w.heap.size + 1)), .int .i64 0, .int .i64 0] 83)) 0 ⟨[], 0, 0⟩) := by
    have e1 : (w.alloc (.cells #[.map none, .int .i64 0, .int .i64 0] 83)).heap.size = w.heap.size + 1 := by simp
    have e2 : ((w.alloc (.cells #[.map none, .int .i64 0, .int .i64 0] 83)).alloc (.map #[] 0)).heap.size = w.heap.size + 2 := by simp
    have b1 := below_alloc4 w (.cells #[.map none, .int .i64 0, .int .i64 0] 83)
    have b2 := below_alloc4 (w.alloc (.cells #[.map none, .int .i64 0, .int .i64 0] 83)) (.map #[] 0)
    have b3 := below_alloc4 ((w.alloc (.cells #[.map none, .int .i64 0, .int .i64 0] 83)).alloc (.map #[] 0)) (.cells #[.map (some (w.heap.size + 1)), .int .i64 0, .int .i64 0] 83)
    have h3 := heap_alloc_new ((w.alloc (.cells #[.map none, .int .i64 0, .int .i64 0] 83)).alloc (.map #[] 0)) (.cells #[.map (some (w.heap.size + 1)), .int .i64 0, .int .i64 0] 83)
    rw [e2] at h3
    have hm := Mlb.made (w.alloc (.cells #[.map none, .int .i64 0, .int .i64 0] 83))
    rw [e1] at hm
    exact ⟨(b1.trans (b2.mono (by rw [e1]; omega))).trans (b3.mono (by rw [e2]; omega)), blk_alloc _ (blk_alloc _ (heap_alloc_new w _)), h3, hm.next b3, rfl, Nat.le_refl _, Nat.le_refl _, by simp⟩
  generalize ((w.alloc (.cells #[.map none, .int .i64 0, .int .i64 0] 83)).alloc (.map #[] 0)).alloc (.cells #[.map (some (w.heap.size + 1)), .int .i64 0, .int .i64 0] 83) = w0 at *
  clear hmm
  go_wp2_with fail
  go_loopw [19] (fun vi wx => ∃ (i : Nat) (s : Dr), i ≤ X.length ∧ vi = .int .i64 (i : Nat) ∧ Hid (Dfw w L X wx i s)) (fun vi _ => X.length - (intOf vi).toNat)
  case atStart => exact ⟨0, _, by omega, rfl, HD0⟩
  case round =>
    clear HD0
    obtain ⟨i, s, hi, rfl, HR⟩ := hrel
    by_cases hlt : i < X.length
    · have g1 : (i : Int) < (X.length : Int) := by omega
      obtain ⟨x, hx⟩ : ∃ x, X[i]? = some x := ⟨_, List.getElem?_eq_getElem hlt⟩
      obtain ⟨b, off, va, n, vc, rfl, hb, hnl, hl, hb2, hcell⟩ := HV.out.at hx
      have HN := hide hnl
      have HL := hide hl
      have HBS := hide hb
      have HBY := hide hb.byte
      have HX6 := hide (HX.out x (List.mem_of_getElem? hx))
      have HDC := hide (drop_cons13 hx)
      have HCL : Hid (∀ j u, (#[.int .i64 x.1.v, .int .u64 (x.1.c : Nat), .int .u64 (x.1.h : Nat), .string (nstr x.1.d), .slice va n vc] : Array Value)[j]? = some u → wr.cell? ⟨b, off + i * 5 + j, none⟩ = some u) := fun j u hj => keep_below HR.out.b _ _ (hcell j u hj)
      have HB1 := hide (below_alloc4 wr (.cells #[.int .i64 x.1.v, .int .u64 (x.1.c : Nat), .int .u64 (x.1.h : Nat), .string (nstr x.1.d), .slice va n vc] 41))
      have HT : Hid ((wr.alloc (.cells #[.int .i64 x.1.v, .int .u64 (x.1.c : Nat), .int .u64 (x.1.h : Nat), .string (nstr x.1.d), .slice va n vc] 41)).heap[wr.heap.size]? = some (.cells (bcs x (.slice va n vc)) 41 (0, 0))) := heap_alloc_new wr _
      have HSZ : Hid ((wr.alloc (.cells #[.int .i64 x.1.v, .int .u64 (x.1.c : Nat), .int .u64 (x.1.h : Nat), .string (nstr x.1.d), .slice va n vc] 41)).heap.size = wr.heap.size + 1) := by show _ = _; simp
      clear hx hnl hl hb hb2 hcell
      go_upto_region 5 with (refine wpList_aggAt rfl rfl HI5.out HAB.out b (off + i * 5) #[.int .i64 x.1.v, .int .u64 (x.1.c : Nat), .int .u64 (x.1.h : Nat), .string (nstr x.1.d), .slice va n vc] rfl rfl HCL.out ?_)
      generalize wr.alloc (.cells #[.int .i64 x.1.v, .int .u64 (x.1.c : Nat), .int .u64 (x.1.h : Nat), .string (nstr x.1.d), .slice va n vc] 41) = w1 at *
      have HW1 := hide (HR.out.next HB1.out)
      have c0 : w1.cell? ⟨wr.heap.size, 0, none⟩ = some (.int .i64 x.1.v) := blk_cell (j := 0) HT.out rfl
      have c1 : w1.cell? ⟨wr.heap.size, 1, none⟩ = some (.int .u64 (x.1.c : Nat)) := blk_cell (j := 1) HT.out rfl
      have c2 : w1.cell? ⟨wr.heap.size, 2, none⟩ = some (.int .u64 (x.1.h : Nat)) := blk_cell (j := 2) HT.out rfl
      have c3 : w1.cell? ⟨wr.heap.size, 3, none⟩ = some (.string (nstr x.1.d)) := blk_cell (j := 3) HT.out rfl
      have q0 : w1.cell? ⟨w.heap.size + 2, 0, none⟩ = some (.map (some (w.heap.size + 1))) := blk_cell (j := 0) HW1.out.d rfl
      clear HCL HB1 HR
      obtain ⟨q, hq⟩ : ∃ q, (atB s.d x.1).getD [] = q := ⟨_, rfl⟩
      obtain ⟨f, hf⟩ : ∃ f, (atB s.d x.1).isSome = f := ⟨_, rfl⟩
      have HQ := hide hq
      have HF := hide hf
      have HB2 := hide (below_alloc4 w1 (.cells #[.string (nstr q)] 63))
      have HA2 : Hid ((w1.alloc (.cells #[.string (nstr q)] 63)).heap[w1.heap.size]? = some (.cells #[.string (nstr q)] 63 (0, 0))) := heap_alloc_new w1 _
      clear hq hf
      go_upto_region 6 with (at_lookup; refine wpList_lookQ rfl rfl rfl rfl HW1.out.m HL.out q f HQ.out HF.out ?_)
      generalize w1.alloc (.cells #[.string (nstr q)] 63) = w2 at *
      have HW2 := hide (HW1.out.next HB2.out)
      have HT2 : Hid (w2.heap[wr.heap.size]? = some (.cells (bcs x (.slice va n vc)) 41 (0, 0))) := (HB2.out.block _ (blk_lt HT.out)).trans HT.out
      have d0 : w2.cell? ⟨w1.heap.size, 0, none⟩ = some (.string (nstr q)) := blk_cell (j := 0) HA2.out rfl
      have d4 : w2.cell? ⟨wr.heap.size, 4, none⟩ = some (.slice va n vc) := blk_cell (j := 4) HT2.out rfl
      have cv2 := (HBS.out.move (keep_below HW2.out.b)).text
      clear c0 c1 c2 c3 q0 HT HB2 HA2
      cases f
      · have HA : Hid (atB s.d x.1 = none) := at_none13 HF.out
        obtain ⟨q2, hq2⟩ : ∃ q, (atB L x.1).getD [] = q := ⟨_, rfl⟩
        obtain ⟨f2, hf2⟩ : ∃ f, (atB L x.1).isSome = f := ⟨_, rfl⟩
        have HQ2 := hide hq2
        have HF2 := hide hf2
        have HM2 : Hid (Mlb w2 B L) := HM.out.kp (Kp.of_below (S := fun _ => False) HW2.out.b) (fun h => h)
        have hlk : (Instr.lookup 43 (.map (some B)) (.agg #[.int .i64 x.1.v, .int .u64 (x.1.c : Nat), .int .u64 (x.1.h : Nat), .string (nstr x.1.d)]) true).run Tryd.prog w2.drew = .ok (.tuple #[.agg #[.string (nstr q2)], .bool f2]) w2.drew := by
          have h := (HM2.out.block (w' := w2.drew) rfl).look HL.out
          rw [hq2, hf2] at h
          exact h
        have c0 : w2.cell? ⟨wr.heap.size, 0, none⟩ = some (.int .i64 x.1.v) := blk_cell (j := 0) HT2.out rfl
        have c1 : w2.cell? ⟨wr.heap.size, 1, none⟩ = some (.int .u64 (x.1.c : Nat)) := blk_cell (j := 1) HT2.out rfl
        have c2 : w2.cell? ⟨wr.heap.size, 2, none⟩ = some (.int .u64 (x.1.h : Nat)) := blk_cell (j := 2) HT2.out rfl
        have c3 : w2.cell? ⟨wr.heap.size, 3, none⟩ = some (.string (nstr x.1.d)) := blk_cell (j := 3) HT2.out rfl
        have s3 : w2.cell? ⟨g, 3, none⟩ = some (.map (some B)) := keep_below HW2.out.b _ _ (blk_cell (j := 3) HG.out rfl)
        have hlk2 : (Instr.lookup 43 (.map (some B)) (.agg #[.int .i64 x.1.v, .int .u64 (x.1.c : Nat), .int .u64 (x.1.h : Nat), .string (nstr x.1.d)]) true).run Tryd.prog (w2.alloc (.cells #[.string ⟨#[]⟩] 63)).drew = .ok (.tuple #[.agg #[.string (nstr q2)], .bool f2]) (w2.alloc (.cells #[.string ⟨#[]⟩] 63)).drew := by
          have h := ((HM2.out.next (below_alloc4 w2 _)).block (w' := (w2.alloc (.cells #[.string ⟨#[]⟩] 63)).drew) rfl).look HL.out
          rw [hq2, hf2] at h
          exact h
        have l1 : wr.heap.size < w2.heap.size := blk_lt HT2.out
        have l2 : g < w2.heap.size := World.block_lt_of_cell? w2 _ s3
        clear hq2 hf2 HQ HF HW1 d0
        go_upto_region 9 with fail
        go_cut [13, 14] (fun a b wx => a = .pointer (some ⟨w2.heap.size, 0, none⟩) ∧ b = .bool f2 ∧ wx = (w2.alloc (.cells #[.string (nstr q2)] 63)).drew)
        case first => as_aux_lemma =>
          go_region
          all_goals (go_wp2_with fail; go_meet; exact ⟨rfl, rfl, rfl⟩)
        case rest =>
          obtain ⟨rfl, rfl, rfl⟩ := hcut
          have HB3 : Hid (Below w2.heap.size w2 (w2.alloc (.cells #[.string (nstr q2)] 63)).drew) := (below_alloc4 w2 _).drew
          have HA3 : Hid ((w2.alloc (.cells #[.string (nstr q2)] 63)).drew.heap[w2.heap.size]? = some (.cells #[.string (nstr q2)] 63 (0, 0))) := heap_alloc_new w2 _
          clear hlk hlk2 cv2 c0 c1 c2 c3 d4 s3
          generalize (w2.alloc (.cells #[.string (nstr q2)] 63)).drew = w3 at *
          have HW3 := hide (HW2.out.next HB3.out)
          have HY3 : Hid (Dfy w w3 s x (.slice va n vc) wr.heap.size w2.heap.size q2 s.f) := ⟨HW3.out.b, HW3.out.r, HW3.out.d, HW3.out.m, (HB3.out.block _ (blk_lt HT2.out)).trans HT2.out, HA3.out⟩
          have HSF := hide HW3.out.p
          have HSG := hide HW3.out.g
          have HQB2 : Hid (∀ y ∈ q2, y < 256) := qb_of HQ2.out (fun b hb => (HM2.out.ok _ (atB_mem hb)).b)
          have HQ6 : Hid (q2.length ≤ 67108864) := ql_of HQ2.out (fun b hb => (HM2.out.ok _ (atB_mem hb)).n)
          clear HB3 HA3 HT2 HW2 HM2 l1 l2
          go_step
          go_step
          go_cut [7] (fun a wx => ∃ f : Nat, Hid (Dfy w wx s x (.slice va n vc) wr.heap.size w2.heap.size q2 f ∧ f ≤ s.f + 1 ∧ q2.length ≤ 67108864 ∧ drf L X ⟨[], 0, 0⟩ = drf L (X.drop (i + 1)) ⟨x :: s.d, f, s.g + (x.2.length - q2.length)⟩))
          case first =>
            have b0 : w3.cell? ⟨w2.heap.size, 0, none⟩ = some (.string (nstr q2)) := blk_cell (j := 0) HY3.out.qb rfl
            cases f2
            · have hS := at_none13 HF2.out
              have HE : Hid (Dfy w (w3.setCell ⟨w.heap.size + 2, 1, none⟩ (.int .i64 ((s.f + 1 : Nat) : Int))) s x (.slice va n vc) wr.heap.size w2.heap.size q2 (s.f + 1) ∧ s.f + 1 ≤ s.f + 1 ∧ q2.length ≤ 67108864 ∧ drf L X ⟨[], 0, 0⟩ = drf L (X.drop (i + 1)) ⟨x :: s.d, s.f + 1, s.g + (x.2.length - q2.length)⟩) := by
                refine ⟨HY3.out.fresh, Nat.le_refl _, HQ6.out, ?_⟩
                have hq0 : q2 = [] := by rw [← HQ2.out, hS]; rfl
                rw [HW3.out.f, HDC.out, drf_new HA.out hS, hq0]
                simp
              have m1 : w3.cell? ⟨w.heap.size + 2, 1, none⟩ = some (.int .i64 (s.f : Nat)) := blk_cell (j := 1) HY3.out.d rfl
              have z1 := blk_frozen 1 HY3.out.d
              have wr3 : IntKind.i64.wrap ((s.f : Int) + 1) = ((s.f + 1 : Nat) : Int) := by have := HSF.out; rw [IntKind.wrap_i64]; omega
              clear hS HY3 HW3 HSF HSG
              go_wp2_with fail
              go_meet
              case rel => exact ⟨_, HE⟩
            · have hS := at_some13 HQ2.out HF2.out
              have HS := hide hS
              have e12 := bneS HQB2.out HBY.out
              have d4 : w3.cell? ⟨wr.heap.size, 4, none⟩ = some (.slice va n vc) := blk_cell (j := 4) HY3.out.xb rfl
              have cv3 := (HBS.out.move (keep_below HY3.out.b)).text
              clear hS
              by_cases hqx : q2 = x.2
              · rw [decide_eq_true hqx] at e12
                have HE : Hid (Dfw w L X w3 (i + 1) s) := HW3.out.skip (by rw [HW3.out.f, HDC.out, drf_stands HA.out HS.out hqx])
                clear hqx HS HY3 HW3
                go_wp2_with fail
                go_roundw
                case rel => exact ⟨i + 1, s, by omega, by go_num, HE⟩
                case measure => simp [intOf]; omega
              · rw [decide_eq_false hqx] at e12
                have HU := hide hqx
                have c0 : w3.cell? ⟨wr.heap.size, 0, none⟩ = some (.int .i64 x.1.v) := blk_cell (j := 0) HY3.out.xb rfl
                have c1 : w3.cell? ⟨wr.heap.size, 1, none⟩ = some (.int .u64 (x.1.c : Nat)) := blk_cell (j := 1) HY3.out.xb rfl
                have c2 : w3.cell? ⟨wr.heap.size, 2, none⟩ = some (.int .u64 (x.1.h : Nat)) := blk_cell (j := 2) HY3.out.xb rfl
                have c3 : w3.cell? ⟨wr.heap.size, 3, none⟩ = some (.string (nstr x.1.d)) := blk_cell (j := 3) HY3.out.xb rfl
                have cvs := conv_sb w3 (nstr q2)
                have HS1 : Hid (BSl (Lib.bytesWorld w3 5 (nstr q2)) (.slice (some ⟨w3.heap.size, 0, none⟩) (nstr q2).size (grownCap w3 (nstr q2).size 0 5)) q2) := by
                  have h := conv_sb_bsl w3 (nstr q2) (by rw [nstr_size HQB2.out]; have := HQ6.out; omega)
                  rw [sl_nstr HQB2.out] at h
                  exact h
                have HY4 := hide (HY3.out.next (conv_sb_below w3 (nstr q2)))
                have HH := hide (holds13_any (Lib.bytesWorld w3 5 (nstr q2)) x.1 HL.out.toLkb _ q2 (HCB.out.below HY4.out.b) HS1.out (by have := HQ6.out; omega))
                simp only [lkv] at HH
                clear hqx
                cases hh : dholds x.1.h x.1.d q2
                · rw [hh] at HH
                  have HEQ : Hid (drf L X ⟨[], 0, 0⟩ = drf L (X.drop (i + 1)) ⟨x :: s.d, s.f, s.g + (x.2.length - q2.length)⟩) := by show _ = _; rw [HW3.out.f, HDC.out, drf_over HA.out HS.out HU.out hh]
                  clear hh HU HY3 HW3
                  go_wp2_with (go_at_call 25; refine HH.out.mono ?_; rintro e w6 ⟨rfl, hb6⟩)
                  have HY6 := hide (HY4.out.next hb6)
                  go_meet
                  case rel => exact ⟨s.f, HY6.out, Nat.le_succ _, HQ6.out, HEQ.out⟩
                · rw [hh] at HH
                  have HEQ : Hid (drf L X ⟨[], 0, 0⟩ = none) := by show _ = _; rw [HW3.out.f, HDC.out, drf_clash HA.out HS.out HU.out hh]
                  clear hh HU HY3 HW3
                  go_upto_region 14 with (go_at_call 25; refine HH.out.mono ?_; rintro e w6 ⟨rfl, hb6⟩)
                  have HY6 := hide (HY4.out.next hb6)
                  go_wp2_with (refine wpList_zeroD rfl rfl w.heap.size rfl rfl HY6.out.r ?_)
                  exact bodyPost_ret (end_c2 rfl Tryd.underlying83 infoDr rfl HY6.out.r rfl rfl) rfl (DrP.no HY6.out.b HEQ.out)
          case rest =>
            obtain ⟨f, HY0⟩ := hcut
            have HY := hide HY0.out.1
            have HEQ := hide HY0.out.2.2.2
            have hf1 := HY0.out.2.1
            have hq6 := HY0.out.2.2.1
            have hsp := HSF.out
            have hsg := HSG.out
            have hx6 := HX6.out
            have HNI := hide HW3.out.n
            clear HY0 HY3 HW3 HSF HSG HX6
            have HG5 : Hid (Bgd (x.1, x.2)) := ⟨HL.out, HBY.out, hx6⟩
            have HLE : Hid (s.d.length < 140737488351232) := by have := HNI.out; show _ < _; omega
            have c0 : wc.cell? ⟨wr.heap.size, 0, none⟩ = some (.int .i64 x.1.v) := blk_cell (j := 0) HY.out.xb rfl
            have c1 : wc.cell? ⟨wr.heap.size, 1, none⟩ = some (.int .u64 (x.1.c : Nat)) := blk_cell (j := 1) HY.out.xb rfl
            have c2 : wc.cell? ⟨wr.heap.size, 2, none⟩ = some (.int .u64 (x.1.h : Nat)) := blk_cell (j := 2) HY.out.xb rfl
            have c3 : wc.cell? ⟨wr.heap.size, 3, none⟩ = some (.string (nstr x.1.d)) := blk_cell (j := 3) HY.out.xb rfl
            have c4 : wc.cell? ⟨wr.heap.size, 4, none⟩ = some (.slice va n vc) := blk_cell (j := 4) HY.out.xb rfl
            have m0 : wc.cell? ⟨w.heap.size + 2, 0, none⟩ = some (.map (some (w.heap.size + 1))) := blk_cell (j := 0) HY.out.d rfl
            have cv4 := (HBS.out.move (keep_below HY.out.b)).text
            go_upto_region 16 with (at_mapUpdate; refine wpList_putB (B := w.heap.size + 1) (L := s.d) (l := x.1) (b := x.2) rfl rfl rfl rfl rfl HY.out.m HG5.out HLE.out ?_; intro w5 hM5 hK5 hz5; go_frame)
            have hpd : putB s.d x.1 x.2 = x :: s.d := by unfold putB; rw [delB_none HA.out]
            rw [hpd] at hM5
            have HY5 : Hid (Dfy w w5 ⟨x :: s.d, f, s.g⟩ x (.slice va n vc) wr.heap.size w2.heap.size q2 f) := HY.out.put hK5 hM5 rfl
            clear hM5 hK5 hz5 hpd c0 c1 c2 c3 c4 m0 cv4 HY HG5
            have d4 : w5.cell? ⟨wr.heap.size, 4, none⟩ = some (.slice va n vc) := blk_cell (j := 4) HY5.out.xb rfl
            have d0 : w5.cell? ⟨w2.heap.size, 0, none⟩ = some (.string (nstr q2)) := blk_cell (j := 0) HY5.out.qb rfl
            have m2 : w5.cell? ⟨w.heap.size + 2, 2, none⟩ = some (.int .i64 s.g) := blk_cell (j := 2) HY5.out.d rfl
            have z2 := blk_frozen 2 HY5.out.d
            obtain ⟨y, hy⟩ : ∃ y : Int, s.g + ((x.2.length : Int) - (q2.length : Int)) = y := ⟨_, rfl⟩
            have hqs : ((nstr q2).size : Int) = (q2.length : Int) := by rw [nstr_size HQB2.out]
            have wr1 : IntKind.i64.wrap ((n : Int) - ((nstr q2).size : Int)) = (x.2.length : Int) - (q2.length : Int) := by have := HN.out; rw [IntKind.wrap_i64, hqs]; omega
            have wr2 : IntKind.i64.wrap (s.g + ((x.2.length : Int) - (q2.length : Int))) = y := by rw [IntKind.wrap_i64]; omega
            have hs6 := blk_set 2 (.int .i64 y) HY5.out.d
            have hk6 : Kp (fun q => q = w.heap.size + 2) w5 (w5.setCell ⟨w.heap.size + 2, 2, none⟩ (.int .i64 y)) := (Kp.refl _ w5).setCell _ _ (fun _ => rfl)
            have HE : Hid (Dfw w L X (w5.setCell ⟨w.heap.size + 2, 2, none⟩ (.int .i64 y)) (i + 1) ⟨x :: s.d, f, s.g + (x.2.length - q2.length)⟩) :=
              ⟨HY5.out.b.trans (hk6.below HY5.out.b.size (fun _ e => by omega)), (hk6.block _ (blk_lt HY5.out.r) (by omega)).trans HY5.out.r, by rw [hy]; exact hs6, HY5.out.m.kp hk6 (by omega), HEQ.out, Nat.succ_le_succ HNI.out, (by show f ≤ i + 1; omega), by constructor <;> (simp only; omega)⟩
            clear HEQ HY5 hy hs6 hk6 hsp hsg hx6 hf1 hq6 hqs HNI
            go_wp2_with fail
            go_roundw
            case rel => exact ⟨i + 1, _, by omega, by go_num, HE⟩
            case measure => simp [intOf]; omega
      · have hA := at_some13 HQ.out HF.out
        have HQB : Hid (∀ y ∈ q, y < 256) := (HW1.out.m.ok _ (atB_mem hA)).b
        have e7 := bneS HQB.out HBY.out
        have HR2 := hide HW2.out.r
        by_cases hqx : q = x.2
        · rw [decide_eq_true hqx] at e7
          have HE : Hid (Dfw w L X w2 (i + 1) s) := HW2.out.skip (by rw [HW2.out.f, HDC.out, drf_same hA hqx])
          clear hqx hA HW1 HW2 HT2 HQB HQ HF
          go_wp2_with fail
          go_roundw
          case rel => exact ⟨i + 1, s, by omega, by go_num, HE⟩
          case measure => simp [intOf]; omega
        · rw [decide_eq_false hqx] at e7
          have HE : Hid (drf L X ⟨[], 0, 0⟩ = none) := by show _ = _; rw [HW2.out.f, HDC.out, drf_unlike hA hqx]
          have HBE := hide HW2.out.b
          clear hqx hA HW1 HW2 HT2 HQB HQ HF
          go_wp2_with (refine wpList_zeroD rfl rfl w.heap.size rfl rfl HR2.out ?_)
          exact bodyPost_ret (end_c2 rfl Tryd.underlying83 infoDr rfl HR2.out rfl rfl) rfl (DrP.no HBE.out HE.out)
    · have g1 : ¬ (i : Int) < (X.length : Int) := by omega
      have HE : Hid (drf L X ⟨[], 0, 0⟩ = some s) := by show _ = _; rw [HR.out.f, List.drop_eq_nil_of_le (by omega), drf]
      have HB9 := hide HR.out.b
      have HM9 := hide HR.out.m
      have HR9 := hide HR.out.r
      have hne : w.heap.size + 1 ≠ w.heap.size := by omega
      have HA9 : Hid ((dfc (w.heap.size + 1) s).all (·.oneCell') = true) := by show _ = _; simp [dfc, Value.oneCell']
      have q0 : wr.cell? ⟨w.heap.size + 2, 0, none⟩ = some (.map (some (w.heap.size + 1))) := blk_cell (j := 0) HR.out.d rfl
      have q1 : wr.cell? ⟨w.heap.size + 2, 1, none⟩ = some (.int .i64 (s.f : Nat)) := blk_cell (j := 1) HR.out.d rfl
      have q2 : wr.cell? ⟨w.heap.size + 2, 2, none⟩ = some (.int .i64 s.g) := blk_cell (j := 2) HR.out.d rfl
      clear HR
      go_wp2_with (refine wpList_storeRow rfl rfl w.heap.size dzc (dfc (w.heap.size + 1) s) 83 rfl rfl HR9.out infoDr rfl HA9.out ?_)
      have hk := row_kp wr w.heap.size (dfc (w.heap.size + 1) s)
      have HP : DrP w L X (.returned (.tuple #[.agg (dfc (w.heap.size + 1) s), .bool false])) (wr.setRow w.heap.size (dfc (w.heap.size + 1) s)) := DrP.yes (HB9.out.trans (hk.below HB9.out.size (fun q e => by omega))) HE.out (HM9.out.kp hk hne)
      refine bodyPost_ret (v := .tuple #[.agg (dfc (w.heap.size + 1) s), .bool false]) (end_c2 (cs := dfc (w.heap.size + 1) s) rfl Tryd.underlying83 infoDr rfl (row_same HR9.out) rfl rfl) rfl ?_
      exact HP
end
section
open Go.RowKit Go
/-! ### A lock, one goroutine -/
theorem raceOff (w : World) : (callFunc 49 #[]).run Tryd.prog w = .ok (.value (.tuple #[])) w := run_call_mark0 Tryd.func49 (by kernel_rfl) (by kernel_rfl) (by kernel_rfl) .disable (by kernel_rfl) w
theorem raceOn (w : World) : (callFunc 51 #[]).run Tryd.prog w = .ok (.value (.tuple #[])) w := run_call_mark0 Tryd.func51 (by kernel_rfl) (by kernel_rfl) (by kernel_rfl) .enable (by kernel_rfl) w
theorem raceGet (a : Addr) (w : World) : (callFunc 52 #[.pointer (some a)]).run Tryd.prog w = .ok (.value (.tuple #[])) w := run_call_marked Tryd.func52 (by kernel_rfl) (by kernel_rfl) (by kernel_rfl) .acquire (by kernel_rfl) a w
theorem racePut (a : Addr) (w : World) : (callFunc 54 #[.pointer (some a)]).run Tryd.prog w = .ok (.value (.tuple #[])) w := run_call_marked Tryd.func54 (by kernel_rfl) (by kernel_rfl) (by kernel_rfl) .releaseMerge (by kernel_rfl) a w
set_option maxRecDepth 1000000 in
theorem lockFree (a : Addr) (w : World) (hc : w.cell? a = some (.int .i32 0)) (hz : w.frozen? a = false) : Calls Tryd.prog 19 #[.pointer (some a)] w fun e w' => e = .returned (.tuple #[]) ∧ w' = w.setCell a (.int .i32 1) := by
  have hd := raceOff
  have he := raceOn
  have ha := raceGet
  have hcas := run_call_cas_hit (P := Tryd.prog) Tryd.func50 (by kernel_rfl) (by kernel_rfl) (by kernel_rfl) .i32 (by kernel_rfl) (y := 1) hc hz
  have hc' : (w.setCell a (.int .i32 1)).cell? a = some (.int .i32 1) := World.cell?_setCell_same w a _ hc
  have hcv := run_convert_to_unsafe (P := Tryd.prog) (src := 100) (dst := 104) Tryd.underlying100 Tryd.underlying104 (by kernel_rfl) hc'
  go_enter Tryd.func19, Tryd.ntmps19
  go_wp2
  first | go_end0 | (simp only [Exit.inBlock, Exit.then]; refine bodyPost_ret (results_none rfl _ _ _) rfl ?_) | refine bodyPost_ret (results_none rfl _ _ _) rfl ?_
  go_wp2
  go_end0
  exact ⟨rfl, rfl⟩
set_option maxRecDepth 1000000 in
theorem unlockLate (a : Addr) (u : FrameMode) (w : World) (hc : w.cell? a = some (.int .i32 1)) (hz : w.frozen? a = false) : CallsD Tryd.prog 20 #[.pointer (some a)] u w fun e u' w' => u' = u ∧ (e = .returned (.tuple #[]) ∧ w' = w.setCell a (.int .i32 0)) := by
  have hd := raceOff
  have he := raceOn
  have hr := racePut
  have hadd := run_call_add (P := Tryd.prog) Tryd.func55 (by kernel_rfl) (by kernel_rfl) (by kernel_rfl) .i32 (by kernel_rfl) (y := -1) (s := 0) hc hz (by simp [go_sem]; rfl)
  have hcv := run_convert_to_unsafe (P := Tryd.prog) (src := 100) (dst := 104) Tryd.underlying100 Tryd.underlying104 (by kernel_rfl) hc
  go_enter_d Tryd.func20, Tryd.ntmps20
  go_wp2
  go_end0
  go_wp2
  go_end0
  exact ⟨rfl, rfl⟩
end
section
open Go.RowKit Go
/-! ### What a draft comes to -/
theorem drf_drw {L : List Blk} (hL : ndB L) : ∀ (X : List Blk) (s t : Dr), drf L X s = some t → Drw L s → Drw L t
  | [], s, t, h, hs => by
    rw [drf] at h
    rw [← Option.some.inj h]
    exact hs
  | x :: r, s, t, h, hs => by
    cases h1 : atB s.d x.1 with
    | some b =>
      by_cases hb : b = x.2
      · rw [drf_same h1 hb] at h
        exact drf_drw hL r s t h hs
      · rw [drf_unlike h1 hb] at h
        cases h
    | none =>
      have hst := hs.step hL (x := x) h1
      cases h2 : atB L x.1 with
      | none =>
        rw [drf_new h1 h2] at h
        rw [h2] at hst
        simp only [Option.isSome_none, Bool.false_eq_true, if_false, Option.getD_none, List.length_nil] at hst
        rw [show ((x.2.length : Int) - ((0 : Nat) : Int)) = x.2.length by omega] at hst
        exact drf_drw hL r _ t h hst
      | some b =>
        rw [h2] at hst
        simp only [Option.isSome_some, if_true, Option.getD_some, Nat.add_zero] at hst
        by_cases hb : b = x.2
        · rw [drf_stands h1 h2 hb] at h
          exact drf_drw hL r s t h hs
        · cases hd : dholds x.1.h x.1.d b with
          | true =>
            rw [drf_clash h1 h2 hb hd] at h
            cases h
          | false =>
            rw [drf_over h1 h2 hb hd] at h
            exact drf_drw hL r _ t h hst
theorem sz_le {L : List Blk} (h : ∀ p ∈ L, p.2.length ≤ 67108864) : szB L ≤ L.length * 67108864 := by
  induction L with
  | nil => simp [szB]
  | cons p L ih =>
    have h1 := ih (fun q hq => h q (List.mem_cons_of_mem _ hq))
    have h2 := h p List.mem_cons_self
    simp only [szB, List.map_cons, List.sum_cons, List.length_cons] at h1 ⊢
    omega
/-- What lay answers, and what stands then. -/
def layr (r : Nat) (L X : List Blk) (fault : Nat) : (Nat × Nat) × List Blk :=
  match drf L X ⟨[], 0, 0⟩ with
  | none => ((0, 134), L)
  | some s => if fault = 0 then if r < L.length + s.f then ((0, 135), L) else ((s.d.length, 0), mrg L s.d) else ((0, fault), L)
structure LayP (w : World) (g B r : Nat) (R : (Nat × Nat) × List Blk) (e : Ending) (w' : World) : Prop where
  e : e = .returned (.tuple #[.int .i64 (R.1.1 : Nat), .int .i64 (R.1.2 : Nat)])
  s : Sto w' g B r R.2
  k : Kp (fun q => q = g ∨ q = B) w w'
/-! ### Atomic numbers -/
set_option maxRecDepth 1000000 in
theorem add64_any (a : Addr) (x y : Int) (w : World) (hc : w.cell? a = some (.int .i64 x)) (hz : w.frozen? a = false) (hs : -9223372036854775808 ≤ x + y ∧ x + y ≤ 9223372036854775807) : Calls Tryd.prog 21 #[.pointer (some a), .int .i64 y] w fun e w' => e = .returned (.int .i64 (x + y)) ∧ w' = w.setCell a (.int .i64 (x + y)) := by
  have hadd := run_call_add (P := Tryd.prog) Tryd.func34 (by kernel_rfl) (by kernel_rfl) (by kernel_rfl) .i64 (by kernel_rfl) (y := y) (s := x + y) hc hz (by simp [go_sem]; rw [IntKind.wrap_i64]; omega)
  obtain ⟨g, o, m⟩ := a
  go_enter Tryd.func21, Tryd.ntmps21
  go_wp2
  go_ret
  exact ⟨rfl, rfl⟩
set_option maxRecDepth 1000000 in
theorem load64_any (a : Addr) (x : Int) (w : World) (hc : w.cell? a = some (.int .i64 x)) : Calls Tryd.prog 23 #[.pointer (some a)] w fun e w' => e = .returned (.int .i64 x) ∧ w' = w := by
  have hl := run_call_load (P := Tryd.prog) Tryd.func35 (by kernel_rfl) (by kernel_rfl) (by kernel_rfl) .i64 (by kernel_rfl) (w := w) (a := a) (x := x) hc
  go_enter Tryd.func23, Tryd.ntmps23
  go_wp2
  go_ret
  exact ⟨rfl, rfl⟩
end
section
open Go.RowKit Go
theorem stc_set1 (r : Nat) (k k' : Int) (B : Nat) (z : Int) : (stc r k B z).setIfInBounds 1 (.int .i32 k') = stc r k' B z := rfl
theorem stc_set4 (r : Nat) (k : Int) (B : Nat) (z z' : Int) : (stc r k B z).setIfInBounds 4 (.int .i64 z') = stc r k B z' := rfl
/-- A store with the lock held. -/
structure Stl (w : World) (g B r : Nat) (z : Int) (L : List Blk) : Prop where
  c : w.heap[g]? = some (.cells (stc r 1 B z) 56 (0, 0))
  m : Mlb w B L
theorem Sto.lock {w : World} {g B r : Nat} {L : List Blk} (h : Sto w g B r L) : Stl (w.setCell ⟨g, 1, none⟩ (.int .i32 1)) g B r (szB L) L ∧ Kp (fun q => q = g) w (w.setCell ⟨g, 1, none⟩ (.int .i32 1)) := by
  have hk : Kp (fun q => q = g) w (w.setCell ⟨g, 1, none⟩ (.int .i32 1)) := (Kp.refl _ w).setCell _ _ (fun _ => rfl)
  refine ⟨⟨?_, h.m.kp hk (fun e => (h.m.ne h.c) e.symm)⟩, hk⟩
  have := blk_set 1 (.int .i32 1) h.c
  rw [stc_set1] at this
  exact this
theorem Stl.unlock {w : World} {g B r : Nat} {z : Int} {L : List Blk} (h : Stl w g B r z L) (hz : z = szB L) (hr : 1 ≤ r ∧ r ≤ 65536) (hn : L.length ≤ r) : Sto (w.setCell ⟨g, 1, none⟩ (.int .i32 0)) g B r L ∧ Kp (fun q => q = g) w (w.setCell ⟨g, 1, none⟩ (.int .i32 0)) := by
  have hk : Kp (fun q => q = g) w (w.setCell ⟨g, 1, none⟩ (.int .i32 0)) := (Kp.refl _ w).setCell _ _ (fun _ => rfl)
  refine ⟨⟨?_, h.m.kp hk (fun e => (h.m.ne h.c) e.symm), hr, hn⟩, hk⟩
  have := blk_set 1 (.int .i32 0) h.c
  rw [stc_set1, hz] at this
  exact this
theorem Stl.next {w wx : World} {g B r : Nat} {z : Int} {L : List Blk} (h : Stl w g B r z L) (hb : Below w.heap.size w wx) : Stl wx g B r z L := ⟨(hb.block _ (blk_lt h.c)).trans h.c, h.m.next hb⟩
theorem drf_len (L : List Blk) : ∀ (X : List Blk) (s t : Dr), drf L X s = some t → t.d.length ≤ s.d.length + X.length
  | [], s, t, h => by
    rw [drf] at h
    rw [← Option.some.inj h]
    exact Nat.le_refl _
  | x :: r, s, t, h => by
    have key : ∀ u : Dr, u.d.length ≤ s.d.length + 1 → drf L r u = some t → t.d.length ≤ s.d.length + (x :: r).length := fun u hu hd => by
      have := drf_len L r u t hd
      simp only [List.length_cons]
      omega
    cases h1 : atB s.d x.1 with
    | some b =>
      by_cases hb : b = x.2
      · rw [drf_same h1 hb] at h
        exact key _ (Nat.le_succ _) h
      · rw [drf_unlike h1 hb] at h
        cases h
    | none =>
      cases h2 : atB L x.1 with
      | none =>
        rw [drf_new h1 h2] at h
        exact key _ (Nat.le_refl _) h
      | some b =>
        by_cases hb : b = x.2
        · rw [drf_stands h1 h2 hb] at h
          exact key _ (Nat.le_succ _) h
        · cases hd : dholds x.1.h x.1.d b with
          | true =>
            rw [drf_clash h1 h2 hb hd] at h
            cases h
          | false =>
            rw [drf_over h1 h2 hb hd] at h
            exact key _ (Nat.le_refl _) h
set_option maxRecDepth 1000000 in
set_option maxHeartbeats 2000000 in
theorem lay13_any (w : World) (g B r : Nat) (L : List Blk) (hS : Sto w g B r L) (v : Value) (X : List Blk) (hX : ∀ wy, Kp (fun q => q = g) w wy → KSl wy v X) (hX6 : ∀ x ∈ X, x.2.length ≤ 67108864) (hn : X.length ≤ 1048576) (hcb : ∀ wy, Kp (fun q => q = g) w wy → Cb wy) (fault : Nat) :
    Calls Tryd.prog 24 #[.pointer (some ⟨g, 0, none⟩), v, .int .i64 (fault : Nat), .func (.func 25) #[] #[]] w (LayP w g B r (layr r L X fault)) := by
  have hlk := hS.lock
  have HST := hide hlk.1
  have HK1 := hide hlk.2
  have HS := hide hS
  have c1 : w.cell? ⟨g, 1, none⟩ = some (.int .i32 0) := blk_cell (j := 1) hS.c rfl
  have f1 := blk_frozen 1 hS.c
  have HD := hide (drafted13_any _ g B r 1 (szB L) L hlk.1.c hlk.1.m v X (hX _ hlk.2) hX6 hn (hcb _ hlk.2))
  clear hlk hS hX hX6 hcb
  go_enter_defers Tryd.func24, Tryd.ntmps24
  go_upto_region 3 with (go_at_call 19; refine (lockFree ⟨g, 1, none⟩ _ c1 f1).mono ?_; rintro e w' ⟨rfl, rfl⟩)
  generalize w.setCell ⟨g, 1, none⟩ (.int .i32 1) = w1 at *
  clear c1 f1
  have HDW := hide (drf_drw HS.out.m.nd X ⟨[], 0, 0⟩)
  cases hd : drf L X ⟨[], 0, 0⟩ with
  | none =>
    have HL : Hid (layr r L X fault = ((0, 134), L)) := by show _ = _; unfold layr; rw [hd]
    unfold DrP at HD
    rw [hd] at HD
    clear hd
    go_wp2_with (go_at_call 36; refine HD.out.mono ?_; rintro e w2 ⟨hb2, rfl⟩)
    have hb3 := hb2.trans ((below_alloc4 w2 (.cells #[.map none, .int .i64 0, .int .i64 0] 83)).mono hb2.size)
    have HE := hide (HST.out.next hb3)
    have HNE := hide HS.out.n
    have HKE : Hid (Kp (fun q => q = g ∨ q = B) w (w2.alloc (.cells #[.map none, .int .i64 0, .int .i64 0] 83))) := (HK1.out.mono (fun _ _ e => .inl e)).trans (Kp.of_below (S := fun _ => False) hb3) (fun _ _ h => h.elim)
    refine leaves_cons (f := 20) (args := #[.pointer (some ⟨g, 1, none⟩)]) (by simp) (by simp [go_sem]) ?_
    refine (unlockLate ⟨g, 1, none⟩ .returning _ (blk_cell (j := 1) HE.out.c rfl) (blk_frozen 1 HE.out.c)).mono ?_
    rintro e u' w'' ⟨rfl, rfl, rfl⟩
    have hu := HE.out.unlock rfl HS.out.h HNE.out
    exact ⟨_, results_tmp2 rfl _ _ _, by rw [HL.out]; rfl, by rw [HL.out]; exact hu.1, HKE.out.trans hu.2 (fun _ _ e => .inl e)⟩
  | some s =>
    unfold DrP at HD
    rw [hd] at HD
    have HW := hide (HDW.out s hd (Drw.start L))
    have HDL : Hid (s.d.length ≤ 1048576) := by have h := drf_len L X _ s hd; simp only [List.length_nil] at h; show _ ≤ _; omega
    go_upto_region 4 with (go_at_call 36; refine HD.out.mono ?_; rintro e w2 ⟨hb2, Bd, hBd, rfl, hMd⟩)
    have hb3 := hb2.trans ((below_alloc4 w2 (.cells #[.map (some Bd), .int .i64 (s.f : Nat), .int .i64 s.g] 83)).mono hb2.size)
    have HE := hide (HST.out.next hb3)
    have HT : Hid ((w2.alloc (.cells #[.map (some Bd), .int .i64 (s.f : Nat), .int .i64 s.g] 83)).heap[w2.heap.size]? = some (.cells #[.map (some Bd), .int .i64 (s.f : Nat), .int .i64 s.g] 83 (0, 0))) := heap_alloc_new w2 _
    have HMd := hide (hMd.next (below_alloc4 w2 (.cells #[.map (some Bd), .int .i64 (s.f : Nat), .int .i64 s.g] 83)))
    have HKE : Hid (Kp (fun q => q = g ∨ q = B) w (w2.alloc (.cells #[.map (some Bd), .int .i64 (s.f : Nat), .int .i64 s.g] 83))) := (HK1.out.mono (fun _ _ e => .inl e)).trans (Kp.of_below (S := fun _ => False) hb3) (fun _ _ h => h.elim)
    generalize w2.alloc (.cells #[.map (some Bd), .int .i64 (s.f : Nat), .int .i64 s.g] 83) = w3 at *
    have HBd : Hid (w1.heap.size ≤ Bd) := hBd
    have HLA : Hid (layr r L X fault = if fault = 0 then if r < L.length + s.f then ((0, 135), L) else ((s.d.length, 0), mrg L s.d) else ((0, fault), L)) := by show _ = _; unfold layr; rw [hd]
    clear hd HD HDW hb2 hBd hMd hb3
    by_cases hf0 : fault = 0
    · have g2 : (((fault : Nat) : Int) != 0) = false := by rw [hf0]; rfl
      have HLB : Hid (layr r L X fault = if r < L.length + s.f then ((0, 135), L) else ((s.d.length, 0), mrg L s.d)) := by show _ = _; rw [HLA.out, if_pos hf0]
      clear hf0 HLA
      go_upto_region 8 with fail
      have hsf : s.f ≤ 1048576 := by have h1 := HW.out.len; have h2 := len_mrg L s.d; have h3 := HDL.out; omega
      have hlr := HS.out.n
      have hr6 := HS.out.h.2
      have s0 : ∀ t : Ext w3, t.w'.cell? ⟨g, 0, none⟩ = some (.int .i64 (r : Nat)) := fun t => Ext.cell (blk_cell (j := 0) HE.out.c rfl) t
      have s3 : ∀ t : Ext w3, t.w'.cell? ⟨g, 3, none⟩ = some (.map (some B)) := fun t => Ext.cell (blk_cell (j := 3) HE.out.c rfl) t
      have t1 : ∀ t : Ext w3, t.w'.cell? ⟨w2.heap.size, 1, none⟩ = some (.int .i64 (s.f : Nat)) := fun t => Ext.cell (blk_cell (j := 1) HT.out rfl) t
      have hln : ∀ (t : Ext w3) ty, (Builtin.len_ #[43] ty #[.map (some B)]).run Tryd.prog t.w' = .ok (.int .i64 (L.length : Nat)) t.w' := fun t ty => (HE.out.m.next t.h).len ty
      have hwr : IntKind.i64.wrap ((L.length : Int) + (s.f : Int)) = (L.length : Int) + (s.f : Int) := by rw [IntKind.wrap_i64]; omega
      refine region_ext (by kernel_rfl) (by kernel_rfl) ?_
      repeat (
        refine wpQuiet_step (fun K hK => ?_)
        go_simp
        refine hK _ ?_
        clear hK K)
      refine wpQuiet_nil ?_
      rintro _ ⟨t4, rfl⟩
      have HE4 : Hid (Stl t4.w' g B r (szB L) L) := HE.out.next t4.h
      have HT4 : Hid (t4.w'.heap[w2.heap.size]? = some (.cells #[.map (some Bd), .int .i64 (s.f : Nat), .int .i64 s.g] 83 (0, 0))) := (t4.h.block _ (blk_lt HT.out)).trans HT.out
      have HM4 : Hid (Mlb t4.w' Bd s.d) := HMd.out.next t4.h
      have HK4 : Hid (Kp (fun q => q = g ∨ q = B) w t4.w') := HKE.out.trans (Kp.of_below (S := fun _ => False) t4.h) (fun _ _ h => h.elim)
      clear HE HT HMd HKE s0 s3 t1 hln
      generalize t4.w' = w4 at *
      by_cases hfull : r < L.length + s.f
      · have HL : Hid (layr r L X fault = ((0, 135), L)) := by show _ = _; rw [HLB.out, if_pos hfull]
        have g5 : ((r : Nat) : Int) < (L.length : Int) + (s.f : Int) := by omega
        have HE := HE4
        have HKE := HK4
        have HNE := hide HS.out.n
        clear hfull HLB
        go_wp2_with fail
        refine leaves_cons (f := 20) (args := #[.pointer (some ⟨g, 1, none⟩)]) (by simp) (by simp [go_sem]) ?_
        refine (unlockLate ⟨g, 1, none⟩ .returning _ (blk_cell (j := 1) HE.out.c rfl) (blk_frozen 1 HE.out.c)).mono ?_
        rintro e u' w'' ⟨rfl, rfl, rfl⟩
        have hu := HE.out.unlock rfl HS.out.h HNE.out
        exact ⟨_, results_tmp2 rfl _ _ _, by rw [HL.out]; rfl, by rw [HL.out]; exact hu.1, HKE.out.trans hu.2 (fun _ _ e => .inl e)⟩
      · have HL : Hid (layr r L X fault = ((s.d.length, 0), mrg L s.d)) := by show _ = _; rw [HLB.out, if_neg hfull]
        have g5 : ¬ ((r : Nat) : Int) < (L.length : Int) + (s.f : Int) := by omega
        have HNE : Hid ((mrg L s.d).length ≤ r) := by have := HW.out.len; show _ ≤ _; omega
        clear hfull HLB
        go_upto_region 10 with fail
        have HBB : Hid (B ≠ Bd) := by
          have h1 := HS.out.m.lt
          have h2 := HK1.out.size
          have h3 := HBd.out
          show _ ≠ _
          omega
        have s3 : ∀ t : Ext w4, t.w'.cell? ⟨g, 3, none⟩ = some (.map (some B)) := fun t => Ext.cell (blk_cell (j := 3) HE4.out.c rfl) t
        have t0 : ∀ t : Ext w4, t.w'.cell? ⟨w2.heap.size, 0, none⟩ = some (.map (some Bd)) := fun t => Ext.cell (blk_cell (j := 0) HT4.out rfl) t
        refine region_ext_tail 6 (by kernel_rfl) (by kernel_rfl) ?_
        simp only [List.take_succ_cons, List.take_zero, List.drop_succ_cons, List.drop_zero]
        repeat (
          refine wpQuiet_step (fun K hK => ?_)
          go_simp
          refine hK _ ?_
          clear hK K)
        refine wpQuiet_nil ?_
        rintro _ ⟨t5, rfl⟩
        have HC := hide (copy13_any t5.w' B Bd L s.d (HE4.out.m.next t5.h) (HM4.out.next t5.h) HBB.out (by have := HDL.out; omega))
        have HT5 : Hid (t5.w'.heap[w2.heap.size]? = some (.cells #[.map (some Bd), .int .i64 (s.f : Nat), .int .i64 s.g] 83 (0, 0))) := (t5.h.block _ (blk_lt HT4.out)).trans HT4.out
        have HG5 : Hid (t5.w'.heap[g]? = some (.cells (stc r 1 B (szB L)) 56 (0, 0))) := (t5.h.block _ (blk_lt HE4.out.c)).trans HE4.out.c
        have HK5 : Hid (Kp (fun q => q = g ∨ q = B) w t5.w') := HK4.out.trans (Kp.of_below (S := fun _ => False) t5.h) (fun _ _ h => h.elim)
        have HM5 := hide (HM4.out.next t5.h)
        have HB5 := hide (HE4.out.m.next t5.h)
        generalize t5.w' = w5 at *
        clear s3 t0 HE4 HT4 HM4 HK4
        go_upto_region 11 with (go_at_call 37; refine HC.out.mono ?_; rintro e w6 ⟨rfl, hP6⟩)
        have HM6 := hide hP6.out.1
        have hk6 := hP6.out.2
        have HT6 : Hid (w6.heap[w2.heap.size]? = some (.cells #[.map (some Bd), .int .i64 (s.f : Nat), .int .i64 s.g] 83 (0, 0))) := (hk6.block _ (blk_lt HT5.out) (HB5.out.ne HT5.out)).trans HT5.out
        have HG6 : Hid (w6.heap[g]? = some (.cells (stc r 1 B (szB L)) 56 (0, 0))) := (hk6.block _ (blk_lt HG5.out) (HB5.out.ne HG5.out)).trans HG5.out
        have HK6 : Hid (Kp (fun q => q = g ∨ q = B) w w6) := HK5.out.trans hk6 (fun _ _ e => .inr e)
        have HD6 : Hid (Mlb w6 Bd s.d) := HM5.out.kp hk6 (fun e => HBB.out e.symm)
        clear hP6 hk6 HC HT5 HG5 HK5 HM5 HB5
        have t2 : ∀ t : Ext w6, t.w'.cell? ⟨w2.heap.size, 2, none⟩ = some (.int .i64 s.g) := fun t => Ext.cell (blk_cell (j := 2) HT6.out rfl) t
        refine region_ext_tail 5 (by kernel_rfl) (by kernel_rfl) ?_
        simp only [List.take_succ_cons, List.take_zero, List.drop_succ_cons, List.drop_zero]
        repeat (
          refine wpQuiet_step (fun K hK => ?_)
          go_simp
          refine hK _ ?_
          clear hK K)
        refine wpQuiet_nil ?_
        rintro _ ⟨t7, rfl⟩
        have HT7 : Hid (t7.w'.heap[w2.heap.size]? = some (.cells #[.map (some Bd), .int .i64 (s.f : Nat), .int .i64 s.g] 83 (0, 0))) := (t7.h.block _ (blk_lt HT6.out)).trans HT6.out
        have HG7 : Hid (t7.w'.heap[g]? = some (.cells (stc r 1 B (szB L)) 56 (0, 0))) := (t7.h.block _ (blk_lt HG6.out)).trans HG6.out
        have HK7 : Hid (Kp (fun q => q = g ∨ q = B) w t7.w') := HK6.out.trans (Kp.of_below (S := fun _ => False) t7.h) (fun _ _ h => h.elim)
        have HM7 := hide (HM6.out.next t7.h)
        have HD7 := hide (HD6.out.next t7.h)
        generalize t7.w' = w7 at *
        clear t2 HM6 HT6 HG6 HK6 HD6
        have HSZ : Hid (((szB L : Nat) : Int) + s.g = szB (mrg L s.d)) := HW.out.sz.symm
        have HSB : Hid (-9223372036854775808 ≤ ((szB L : Nat) : Int) + s.g ∧ ((szB L : Nat) : Int) + s.g ≤ 9223372036854775807) := by
          have h1 := sz_le (fun p hp => (HM7.out.ok p hp).n)
          have h2 := HSZ.out
          have h3 := HNE.out
          show _ ∧ _
          rw [h2]
          omega
        have HAD := hide (add64_any ⟨g, 4, none⟩ (szB L) s.g w7 (blk_cell (j := 4) HG7.out rfl) (blk_frozen 4 HG7.out) HSB.out)
        go_upto_region 12 with (go_at_call 21; refine HAD.out.mono ?_; rintro e w8 ⟨rfl, rfl⟩)
        have hk8 : Kp (fun q => q = g) w7 (w7.setCell ⟨g, 4, none⟩ (.int .i64 ((szB L : Nat) + s.g))) := (Kp.refl _ w7).setCell _ _ (fun _ => rfl)
        have HE : Hid (Stl (w7.setCell ⟨g, 4, none⟩ (.int .i64 ((szB L : Nat) + s.g))) g B r ((szB L : Nat) + s.g) (mrg L s.d)) := ⟨by have := blk_set 4 (.int .i64 ((szB L : Nat) + s.g)) HG7.out; rw [stc_set4] at this; exact this, HM7.out.kp hk8 (fun e => HM7.out.ne HG7.out e.symm)⟩
        have HKE : Hid (Kp (fun q => q = g ∨ q = B) w (w7.setCell ⟨g, 4, none⟩ (.int .i64 ((szB L : Nat) + s.g)))) := HK7.out.trans hk8 (fun _ _ e => .inl e)
        have HD8 : Hid (Mlb (w7.setCell ⟨g, 4, none⟩ (.int .i64 ((szB L : Nat) + s.g))) Bd s.d) := HD7.out.kp hk8 (fun e => HD7.out.ne HG7.out e.symm)
        have t9 : (w7.setCell ⟨g, 4, none⟩ (.int .i64 ((szB L : Nat) + s.g))).cell? ⟨w2.heap.size, 0, none⟩ = some (.map (some Bd)) := blk_cell (j := 0) ((hk8.block _ (blk_lt HT7.out) (ne_of_type HT7.out HG7.out (by decide))).trans HT7.out) rfl
        generalize w7.setCell ⟨g, 4, none⟩ (.int .i64 ((szB L : Nat) + s.g)) = w8 at *
        clear hk8 HG7 HT7 HK7 HM7 HD7 HAD
        go_wp2_with (refine wpList_lenB (B := Bd) (L := s.d) rfl rfl rfl HD8.out ?_)
        refine leaves_cons (f := 20) (args := #[.pointer (some ⟨g, 1, none⟩)]) (by simp) (by simp [go_sem]) ?_
        refine (unlockLate ⟨g, 1, none⟩ .returning _ (blk_cell (j := 1) HE.out.c rfl) (blk_frozen 1 HE.out.c)).mono ?_
        rintro e u' w'' ⟨rfl, rfl, rfl⟩
        have hu := HE.out.unlock HSZ.out HS.out.h HNE.out
        have HP : LayP w g B r (layr r L X fault) (.returned (.tuple #[.int .i64 (s.d.length : Nat), .int .i64 0])) (w8.setCell ⟨g, 1, none⟩ (.int .i32 0)) := by
          rw [HL.out]
          exact ⟨rfl, hu.1, HKE.out.trans hu.2 (fun _ _ e => .inl e)⟩
        refine ⟨.tuple #[.int .i64 (s.d.length : Nat), .int .i64 0], (results_tmp2 (t := 8) (u := 9) rfl _ _ _).trans ?_, HP⟩
        rfl
    · have HL : Hid (layr r L X fault = ((0, fault), L)) := by show _ = _; rw [HLA.out, if_neg hf0]
      have HNE := hide HS.out.n
      have g2 : (((fault : Nat) : Int) != 0) = true := by rw [bne_iff_ne]; omega
      clear hf0 HLA
      go_wp2_with fail
      refine leaves_cons (f := 20) (args := #[.pointer (some ⟨g, 1, none⟩)]) (by simp) (by simp [go_sem]) ?_
      refine (unlockLate ⟨g, 1, none⟩ .returning _ (blk_cell (j := 1) HE.out.c rfl) (blk_frozen 1 HE.out.c)).mono ?_
      rintro e u' w'' ⟨rfl, rfl, rfl⟩
      have hu := HE.out.unlock rfl HS.out.h HNE.out
      exact ⟨_, results_tmp2 rfl _ _ _, by rw [HL.out]; rfl, by rw [HL.out]; exact hu.1, HKE.out.trans hu.2 (fun _ _ e => .inl e)⟩
end
section
open Go.RowKit Go
theorem lof_lkb {c : Nat} (b : List Nat) (hc : c < 18446744073709551616) : Lkb (lof c b).1 := by
  unfold lof
  split
  · exact ⟨hc, by simp, sha_byte b, by simp only [sha_len]; decide⟩
  · exact ⟨by simp [Lk.none], by simp [Lk.none], by simp [Lk.none], by simp [Lk.none]⟩
set_option maxRecDepth 1000000 in
set_option maxHeartbeats 1000000 in
theorem of_any (w : World) (c : Nat) (vb : Value) (b : List Nat) (hcb : Cb w) (hb : BSl w vb b) (hbl : b.length ≤ 140737488351232) :
    Calls Tryd.prog 6 #[.int .u64 (c : Nat), vb] w fun e w' => e = .returned (.tuple #[lkv (lof c b).1, .int .i64 ((lof c b).2 : Nat)]) ∧ Below w.heap.size w w' := by
  have HB := hide hb
  have HBL := hide hbl
  have HCB := hide hcb
  obtain ⟨⟨a, cap, rfl, hn, hc⟩, hmax, hby⟩ := hb
  clear hn hc hby hbl hcb
  have HR0 : Hid ((w.alloc (.cells #[.int .i64 0, .int .u64 0, .int .u64 0, .string ⟨#[]⟩] 29)).heap[w.heap.size]? = some (.cells zlk 29 (0, 0))) := heap_alloc_new w _
  have HB0 := hide (below_alloc4 w (.cells #[.int .i64 0, .int .u64 0, .int .u64 0, .string ⟨#[]⟩] 29))
  generalize hn : (c : Int) = n at *
  have HN := hide hn
  clear hn
  by_cases hc63 : n < 9223372036854775808
  · have HP : Hid (lof c b = (⟨1, c, 18, sha b⟩, 0)) := by show _ = _; unfold lof; rw [if_pos (by have := HN.out; omega)]
    rw [HP.out]
    have hc64 : ¬ (9223372036854775808 : Int) ≤ n := by omega
    clear HP
    go_enter Tryd.func6, Tryd.ntmps6
    go_wp2_with fail
    generalize w.alloc (.cells #[.int .i64 0, .int .u64 0, .int .u64 0, .string ⟨#[]⟩] 29) = w0 at *
    refine (sum_any w0 _ b (HCB.out.below HB0.out) (HB.out.move (keep_below HB0.out)) HBL.out).mono ?_
    rintro e w1 ⟨rfl, hb1⟩
    have HI := hide (info32d b)
    have HON := hide (one32 b)
    have HSL := hide (sha_len b)
    have HSB := hide (sha_byte b)
    have hb2 := hb1.trans ((below_alloc4 w1 (.cells (bv (sha b)).toArray 57)).mono hb1.size)
    have HR2 : Hid ((w1.alloc (.cells (bv (sha b)).toArray 57)).heap[w.heap.size]? = some (.cells zlk 29 (0, 0))) := (hb2.block _ (blk_lt HR0.out)).trans HR0.out
    have HB2 : Hid (Below w.heap.size w (w1.alloc (.cells (bv (sha b)).toArray 57))) := HB0.out.trans (hb2.mono HB0.out.size)
    have HBD := hide (bsl_block (heap_alloc_new w1 (.cells (bv (sha b)).toArray 57)) HSB.out (by rw [HSL.out]; decide))
    rw [HSL.out] at HBD
    clear hb1 hb2 HR0 HB0
    generalize hD : sha b = D at HI HON HSL HSB HR2 HB2 HBD ⊢
    have HDE := hide hD
    clear hD
    have cv := HBD.out.text
    have HAG : Hid (lcs ⟨1, c, 18, D⟩ = #[.int .i64 1, .int .u64 n, .int .u64 18, .string (nstr D)]) := by show _ = _; rw [← HN.out]; rfl
    go_wp2_with (first
      | (refine wpList_storeRow rfl rfl w1.heap.size _ (bv D).toArray 57 rfl rfl (heap_alloc_new w1 _) HI.out (by simp [bv_len, HSL.out]) HON.out ?_; rw [World.setRow_alloc_new])
      | (refine wpList_storeLk rfl rfl w.heap.size zlk ⟨1, c, 18, D⟩ rfl (by rw [HAG.out]; rfl) rfl HR2.out ?_))
    exact bodyPost_ret (end_c2 rfl Tryd.underlying29 info61 rfl (row_same HR2.out) rfl rfl) rfl ⟨by rw [HDE.out]; rfl, HB2.out.trans ((row_kp _ _ _).below HB2.out.size (fun q e => by omega))⟩
  · have HP : Hid (lof c b = (Lk.none, 40)) := by show _ = _; unfold lof; rw [if_neg (by have := HN.out; omega)]
    rw [HP.out]
    have hc64 : (9223372036854775808 : Int) ≤ n := by omega
    clear HP hc63
    go_enter Tryd.func6, Tryd.ntmps6
    go_wp2_with (refine wpList_zero rfl rfl w.heap.size rfl rfl HR0.out ?_)
    exact bodyPost_ret (end_c2 rfl Tryd.underlying29 info61 rfl HR0.out rfl rfl) rfl ⟨rfl, HB0.out⟩
end
section
open Go.RowKit Go
/-! ### Put -/
/-- What Put answers, and what stands then. -/
def putr13 (r : Nat) (L : List Blk) (c : Nat) (b : List Nat) : (Lk × Nat) × List Blk :=
  if c < 9223372036854775808 then
    if 67108864 < b.length then ((Lk.none, 133), L)
    else if (layr r L [((lof c b).1, b)] 0).1.2 = 0 then (((lof c b).1, 0), (layr r L [((lof c b).1, b)] 0).2) else ((Lk.none, (layr r L [((lof c b).1, b)] 0).1.2), (layr r L [((lof c b).1, b)] 0).2)
  else ((Lk.none, 131), L)
structure PutP (w : World) (g B r : Nat) (R : (Lk × Nat) × List Blk) (e : Ending) (w' : World) : Prop where
  e : e = .returned (.tuple #[lkv R.1.1, .int .i64 (R.1.2 : Nat)])
  s : Sto w' g B r R.2
  k : Kp (fun q => q = g ∨ q = B) w w'
theorem layr_le (r : Nat) (L X : List Blk) : (layr r L X 0).1.2 ≤ 135 := by
  unfold layr
  split
  · simp
  · split
    · split <;> simp
    · simp
theorem Sto.next {w wx : World} {g B r : Nat} {L : List Blk} (h : Sto w g B r L) (hb : Below w.heap.size w wx) : Sto wx g B r L := ⟨(hb.block _ (blk_lt h.c)).trans h.c, h.m.next hb, h.h, h.n⟩
set_option maxRecDepth 1000000 in
set_option maxHeartbeats 1000000 in
theorem put13_any (w : World) (g B r : Nat) (L : List Blk) (hS : Sto w g B r L) (c : Nat) (hc : c < 18446744073709551616) (vb : Value) (b : List Nat) (hb : ∀ wy, Kp (fun q => q = g) w wy → BSl wy vb b) (hbl : b.length ≤ 140737488351232) (hcb : ∀ wy, Kp (fun q => q = g) w wy → Cb wy) :
    Calls Tryd.prog 13 #[.pointer (some ⟨g, 0, none⟩), .int .u64 (c : Nat), vb] w (PutP w g B r (putr13 r L c b)) := by
  have hb0 := hb w (Kp.refl _ _)
  have hcb0 := hcb w (Kp.refl _ _)
  have HS := hide hS
  have HBH := hide hb
  have HCB := hide hcb
  have HC0 := hide hcb0
  have HB0 := hide hb0
  have HBL := hide hbl
  have HC := hide hc
  obtain ⟨⟨a, cap, rfl, -, -⟩, -, hby⟩ := hb0
  have HBY := hide hby
  have HR0 : Hid ((w.alloc (.cells #[.int .i64 0, .int .u64 0, .int .u64 0, .string ⟨#[]⟩] 29)).heap[w.heap.size]? = some (.cells zlk 29 (0, 0))) := heap_alloc_new w _
  have HB1 := hide (below_alloc4 w (.cells #[.int .i64 0, .int .u64 0, .int .u64 0, .string ⟨#[]⟩] 29))
  clear hS hb hcb hcb0 hbl hc hby
  generalize hn : (c : Int) = n at *
  have HN := hide hn
  clear hn
  go_enter Tryd.func13, Tryd.ntmps13
  go_upto_region 1 with fail
  generalize w.alloc (.cells #[.int .i64 0, .int .u64 0, .int .u64 0, .string ⟨#[]⟩] 29) = w1 at *
  have HS1 := hide (HS.out.next HB1.out)
  have HK1 : Hid (Kp (fun q => q = g ∨ q = B) w w1) := Kp.of_below HB1.out
  by_cases hc63 : n < 9223372036854775808
  · have hc64 : ¬ (9223372036854775808 : Int) ≤ n := by omega
    have HCC : Hid (c < 9223372036854775808) := by have := HN.out; show _ < _; omega
    clear hc63
    by_cases hbl : 67108864 < b.length
    · have g3 : (67108864 : Int) < b.length := by omega
      have HPR : Hid (putr13 r L c b = ((Lk.none, 133), L)) := by show _ = _; unfold putr13; rw [if_pos HCC.out, if_pos hbl]
      clear hbl
      go_wp2_with (refine wpList_zero rfl rfl w.heap.size rfl rfl HR0.out ?_)
      have HP : PutP w g B r (putr13 r L c b) (.returned (.tuple #[lkv Lk.none, .int .i64 133])) w1 := by rw [HPR.out]; exact ⟨rfl, HS1.out, HK1.out⟩
      exact bodyPost_ret (end_c2 rfl Tryd.underlying29 info61 rfl HR0.out rfl rfl) rfl HP
    · have g3 : ¬ (67108864 : Int) < b.length := by omega
      have HB6 : Hid (b.length ≤ 67108864) := by show _ ≤ _; omega
      have HPR : Hid (putr13 r L c b = if (layr r L [((lof c b).1, b)] 0).1.2 = 0 then (((lof c b).1, 0), (layr r L [((lof c b).1, b)] 0).2) else ((Lk.none, (layr r L [((lof c b).1, b)] 0).1.2), (layr r L [((lof c b).1, b)] 0).2)) := by show _ = _; unfold putr13; rw [if_pos HCC.out, if_neg hbl]
      clear hbl
      have HOF := hide (of_any w1 c (.slice a b.length cap) b (HC0.out.below HB1.out) (HB0.out.move (keep_below HB1.out)) HBL.out)
      rw [HN.out] at HOF
      have HLB := hide (lof_lkb b HC.out)
      have HLV : Hid ((lof c b).1.v = 1) := by show _ = _; unfold lof; rw [if_pos HCC.out]
      obtain ⟨l, hl⟩ : ∃ l, (lof c b).1 = l := ⟨_, rfl⟩
      rw [hl] at HOF HLB HLV HPR
      clear hl
      simp only [lkv] at HOF
      go_upto_region 6 with (go_at_call 6; refine HOF.out.mono ?_; rintro e w2 ⟨rfl, hb2⟩)
      have HB3 : Hid (Below w.heap.size w (w2.alloc (.cells #[.int .i64 l.v, .int .u64 (l.c : Nat), .int .u64 (l.h : Nat), .string (nstr l.d)] 29))) := (HB1.out.trans (hb2.mono HB1.out.size)).trans ((below_alloc4 w2 _).mono (HB1.out.trans (hb2.mono HB1.out.size)).size)
      have HR3 : Hid ((w2.alloc (.cells #[.int .i64 l.v, .int .u64 (l.c : Nat), .int .u64 (l.h : Nat), .string (nstr l.d)] 29)).heap[w.heap.size]? = some (.cells zlk 29 (0, 0))) := blk_alloc _ ((hb2.block _ (blk_lt HR0.out)).trans HR0.out)
      have HT3 : Hid ((w2.alloc (.cells #[.int .i64 l.v, .int .u64 (l.c : Nat), .int .u64 (l.h : Nat), .string (nstr l.d)] 29)).heap[w2.heap.size]? = some (.cells (lcs l) 29 (0, 0))) := heap_alloc_new w2 _
      have HLZ : Hid (w.heap.size < w2.heap.size) := Nat.lt_of_lt_of_le (blk_lt HR0.out) hb2.size
      clear HOF hb2 HR0 HS1 HK1
      generalize w2.alloc (.cells #[.int .i64 l.v, .int .u64 (l.c : Nat), .int .u64 (l.h : Nat), .string (nstr l.d)] 29) = w3 at *
      have c0 : w3.cell? ⟨w2.heap.size, 0, none⟩ = some (.int .i64 l.v) := blk_cell (j := 0) HT3.out rfl
      have c1 : w3.cell? ⟨w2.heap.size, 1, none⟩ = some (.int .u64 (l.c : Nat)) := blk_cell (j := 1) HT3.out rfl
      have c2 : w3.cell? ⟨w2.heap.size, 2, none⟩ = some (.int .u64 (l.h : Nat)) := blk_cell (j := 2) HT3.out rfl
      have c3 : w3.cell? ⟨w2.heap.size, 3, none⟩ = some (.string (nstr l.d)) := blk_cell (j := 3) HT3.out rfl
      have HB4 : Hid (Below w.heap.size w (w3.alloc (.cells #[.int .i64 l.v, .int .u64 (l.c : Nat), .int .u64 (l.h : Nat), .string (nstr l.d), .slice a b.length cap] 41))) := HB3.out.trans ((below_alloc4 w3 _).mono HB3.out.size)
      have HS4 : Hid (Sto (w3.alloc (.cells #[.int .i64 l.v, .int .u64 (l.c : Nat), .int .u64 (l.h : Nat), .string (nstr l.d), .slice a b.length cap] 41)) g B r L) := HS.out.next HB4.out
      have hgz : g < w.heap.size := blk_lt HS.out.c
      have hBz : B < w.heap.size := HS.out.m.lt
      have hz3 : w.heap.size ≤ w3.heap.size := HB3.out.size
      have HT4 : Hid ((w3.alloc (.cells #[.int .i64 l.v, .int .u64 (l.c : Nat), .int .u64 (l.h : Nat), .string (nstr l.d), .slice a b.length cap] 41)).heap[w3.heap.size]? = some (.cells (bcs (l, b) (.slice a b.length cap)) 41 (0, 0))) := heap_alloc_new w3 _
      have HKS : Hid (∀ wy, Kp (fun q => q = g) (w3.alloc (.cells #[.int .i64 l.v, .int .u64 (l.c : Nat), .int .u64 (l.h : Nat), .string (nstr l.d), .slice a b.length cap] 41)) wy → KSl wy (.slice (some ⟨w3.heap.size, 0, none⟩) 1 1) [(l, b)]) := fun wy hy => by
        refine ⟨⟨_, 1, rfl, ⟨Nat.le_refl _, fun h => by cases h⟩, .inr ⟨w3.heap.size, 0, rfl, fun i x hx => ?_⟩⟩, by simp⟩
        rcases i with _ | i
        · obtain rfl : (l, b) = x := by simpa using hx
          have hbk := (hy.block _ (blk_lt HT4.out) (by omega)).trans HT4.out
          refine ⟨bcs (l, b) (.slice a b.length cap), ⟨⟨_, rfl, HBH.out wy ((Kp.of_below HB4.out).trans hy (fun _ _ e => e))⟩, ⟨HLB.out, by rw [HLV.out]; decide⟩, HBL.out⟩, fun j u hj => ?_⟩
          rw [show 0 + 0 * 5 + j = j by omega]
          exact blk_cell hbk hj
        · simp at hx
      have HLY := hide (lay13_any (w3.alloc (.cells #[.int .i64 l.v, .int .u64 (l.c : Nat), .int .u64 (l.h : Nat), .string (nstr l.d), .slice a b.length cap] 41)) g B r L HS4.out (.slice (some ⟨w3.heap.size, 0, none⟩) 1 1) [(l, b)] HKS.out (fun x hx => by obtain rfl : x = (l, b) := (by simpa using hx); exact HB6.out) (by simp) (fun wy hy => HCB.out wy ((Kp.of_below HB4.out).trans hy (fun _ _ e => e))) 0)
      have HR4 : Hid ((w3.alloc (.cells #[.int .i64 l.v, .int .u64 (l.c : Nat), .int .u64 (l.h : Nat), .string (nstr l.d), .slice a b.length cap] 41)).heap[w.heap.size]? = some (.cells zlk 29 (0, 0))) := blk_alloc _ HR3.out
      have HT5 : Hid ((w3.alloc (.cells #[.int .i64 l.v, .int .u64 (l.c : Nat), .int .u64 (l.h : Nat), .string (nstr l.d), .slice a b.length cap] 41)).heap[w2.heap.size]? = some (.cells (lcs l) 29 (0, 0))) := blk_alloc _ HT3.out
      have HE := hide (layr_le r L [(l, b)])
      obtain ⟨R, hR⟩ : ∃ R, layr r L [(l, b)] 0 = R := ⟨_, rfl⟩
      rw [hR] at HLY HPR HE
      clear hR HKS HT4 HR3 HT3 HS4
      go_upto_region 7 with (go_at_call 24; refine HLY.out.mono ?_; rintro e w5 ⟨rfl, hs5, hk5⟩)
      generalize w3.alloc (.cells #[.int .i64 l.v, .int .u64 (l.c : Nat), .int .u64 (l.h : Nat), .string (nstr l.d), .slice a b.length cap] 41) = w4 at *
      have HS5 := hide hs5
      have HR5 : Hid (w5.heap[w.heap.size]? = some (.cells zlk 29 (0, 0))) := (hk5.block _ (blk_lt HR4.out) (by omega)).trans HR4.out
      have hzz := HLZ.out
      have HT6 : Hid (w5.heap[w2.heap.size]? = some (.cells (lcs l) 29 (0, 0))) := (hk5.block _ (blk_lt HT5.out) (by omega)).trans HT5.out
      have HK5 : Hid (Kp (fun q => q = g ∨ q = B) w w5) := (Kp.of_below HB4.out).trans hk5 (fun _ _ e => e)
      obtain ⟨⟨n1, er⟩, L2⟩ := R
      simp only at HPR HE HS5
      clear hs5 hk5 HLY HB4 HT5 HR4 HB3 c0 c1 c2 c3
      by_cases he0 : er = 0
      · subst he0
        have HQ : Hid (putr13 r L c b = ((l, 0), L2)) := by show _ = _; rw [HPR.out]; simp
        have d0 : w5.cell? ⟨w2.heap.size, 0, none⟩ = some (.int .i64 l.v) := blk_cell (j := 0) HT6.out rfl
        have d1 : w5.cell? ⟨w2.heap.size, 1, none⟩ = some (.int .u64 (l.c : Nat)) := blk_cell (j := 1) HT6.out rfl
        have d2 : w5.cell? ⟨w2.heap.size, 2, none⟩ = some (.int .u64 (l.h : Nat)) := blk_cell (j := 2) HT6.out rfl
        have d3 : w5.cell? ⟨w2.heap.size, 3, none⟩ = some (.string (nstr l.d)) := blk_cell (j := 3) HT6.out rfl
        go_wp2_with (refine wpList_storeLk rfl rfl w.heap.size zlk l rfl rfl rfl HR5.out ?_)
        have hk6 := row_kp w5 w.heap.size (lcs l)
        have HP : PutP w g B r (putr13 r L c b) (.returned (.tuple #[lkv l, .int .i64 0])) (w5.setRow w.heap.size (lcs l)) := by
          rw [HQ.out]
          exact ⟨rfl, ⟨(hk6.block _ (blk_lt HS5.out.c) (by omega)).trans HS5.out.c, HS5.out.m.kp hk6 (by omega), HS5.out.h, HS5.out.n⟩, HK5.out.trans hk6 (fun q hq e => by omega)⟩
        exact bodyPost_ret (end_c2 rfl Tryd.underlying29 info61 rfl (row_same HR5.out) rfl rfl) rfl HP
      · have g7 : (((er : Nat) : Int) != 0) = true := by rw [bne_iff_ne]; omega
        have HQ : Hid (putr13 r L c b = ((Lk.none, er), L2)) := by show _ = _; rw [HPR.out, if_neg he0]
        clear he0
        go_wp2_with (refine wpList_zero rfl rfl w.heap.size rfl rfl HR5.out ?_)
        have HP : PutP w g B r (putr13 r L c b) (.returned (.tuple #[lkv Lk.none, .int .i64 (er : Nat)])) w5 := by rw [HQ.out]; exact ⟨rfl, HS5.out, HK5.out⟩
        exact bodyPost_ret (end_c2 rfl Tryd.underlying29 info61 rfl HR5.out rfl rfl) rfl HP
  · have hc64 : (9223372036854775808 : Int) ≤ n := by omega
    have HPR : Hid (putr13 r L c b = ((Lk.none, 131), L)) := by show _ = _; unfold putr13; rw [if_neg (by have := HN.out; omega)]
    clear hc63
    go_wp2_with (refine wpList_zero rfl rfl w.heap.size rfl rfl HR0.out ?_)
    have HP : PutP w g B r (putr13 r L c b) (.returned (.tuple #[lkv Lk.none, .int .i64 131])) w1 := by rw [HPR.out]; exact ⟨rfl, HS1.out, HK1.out⟩
    exact bodyPost_ret (end_c2 rfl Tryd.underlying29 info61 rfl HR0.out rfl rfl) rfl HP
end
section
open Go.RowKit Go
/-! ### Len, Size, under, Has -/
theorem infoSb : (Tryd.prog.info? 63).map (·.size) = some 1 := by kernel_rfl
set_option maxRecDepth 1000000 in
theorem size13_any (w : World) (g B r : Nat) (L : List Blk) (hS : Sto w g B r L) : Calls Tryd.prog 12 #[.pointer (some ⟨g, 0, none⟩)] w fun e w' => e = .returned (.int .i64 (szB L : Nat)) ∧ w' = w := by
  have HL := hide (load64_any ⟨g, 4, none⟩ (szB L) w (blk_cell (j := 4) hS.c rfl))
  clear hS
  go_enter Tryd.func12, Tryd.ntmps12
  go_wp2_with (go_at_call 23; refine HL.out.mono ?_; rintro e w1 ⟨rfl, rfl⟩)
  go_ret
  exact ⟨rfl, rfl⟩
structure SamP (w : World) (g B r : Nat) (L : List Blk) (v : Value) (e : Ending) (w' : World) : Prop where
  e : e = .returned v
  s : Sto w' g B r L
  k : Kp (fun q => q = g) w w'
set_option maxRecDepth 1000000 in
set_option maxHeartbeats 1000000 in
theorem len13_any (w : World) (g B r : Nat) (L : List Blk) (hS : Sto w g B r L) : Calls Tryd.prog 11 #[.pointer (some ⟨g, 0, none⟩)] w (SamP w g B r L (.int .i64 (L.length : Nat))) := by
  have hlk := hS.lock
  have HE := hide hlk.1
  have HK1 := hide hlk.2
  have HS := hide hS
  have c1 : w.cell? ⟨g, 1, none⟩ = some (.int .i32 0) := blk_cell (j := 1) hS.c rfl
  have f1 := blk_frozen 1 hS.c
  clear hlk hS
  go_enter_defers Tryd.func11, Tryd.ntmps11
  go_upto_region 3 with (go_at_call 19; refine (lockFree ⟨g, 1, none⟩ _ c1 f1).mono ?_; rintro e w' ⟨rfl, rfl⟩)
  generalize w.setCell ⟨g, 1, none⟩ (.int .i32 1) = w1 at *
  clear c1 f1
  have s3 : w1.cell? ⟨g, 3, none⟩ = some (.map (some B)) := blk_cell (j := 3) HE.out.c rfl
  go_wp2_with (refine wpList_lenB (B := B) (L := L) rfl rfl rfl HE.out.m ?_)
  refine leaves_cons (f := 20) (args := #[.pointer (some ⟨g, 1, none⟩)]) (by simp) (by simp [go_sem]) ?_
  refine (unlockLate ⟨g, 1, none⟩ .returning _ (blk_cell (j := 1) HE.out.c rfl) (blk_frozen 1 HE.out.c)).mono ?_
  rintro e u' w'' ⟨rfl, rfl, rfl⟩
  have hu := HE.out.unlock rfl HS.out.h HS.out.n
  refine ⟨.int .i64 (L.length : Nat), (results_tmp (t := 2) rfl _ _ _).trans ?_, ⟨rfl, hu.1, HK1.out.trans hu.2 (fun _ _ e => e)⟩⟩
  rfl
set_option maxRecDepth 1000000 in
set_option maxHeartbeats 1000000 in
theorem under13_any (w : World) (g B r : Nat) (L : List Blk) (hS : Sto w g B r L) (l : Lk) (hl : Lkx l) : Calls Tryd.prog 22 #[.pointer (some ⟨g, 0, none⟩), lkv l] w (SamP w g B r L (.tuple #[bval ((atB L l).getD []), .bool (atB L l).isSome])) := by
  have hlk := hS.lock
  have HS := hide hS
  have HLK := hide hl
  obtain ⟨q, hq⟩ : ∃ q, (atB L l).getD [] = q := ⟨_, rfl⟩
  obtain ⟨f, hf⟩ : ∃ f, (atB L l).isSome = f := ⟨_, rfl⟩
  rw [hq, hf]
  have HQ := hide hq
  have HF := hide hf
  have HT : Hid (((w.alloc (.cells #[.int .i64 l.v, .int .u64 (l.c : Nat), .int .u64 (l.h : Nat), .string (nstr l.d)] 29)).alloc (.cells #[.string ⟨#[]⟩] 63)).heap[w.heap.size]? = some (.cells (lcs l) 29 (0, 0))) := blk_alloc _ (heap_alloc_new w _)
  have HT2 : Hid (((w.alloc (.cells #[.int .i64 l.v, .int .u64 (l.c : Nat), .int .u64 (l.h : Nat), .string (nstr l.d)] 29)).alloc (.cells #[.string ⟨#[]⟩] 63)).heap[w.heap.size + 1]? = some (.cells #[.string ⟨#[]⟩] 63 (0, 0))) := by
    have h := heap_alloc_new (w.alloc (.cells #[.int .i64 l.v, .int .u64 (l.c : Nat), .int .u64 (l.h : Nat), .string (nstr l.d)] 29)) (.cells #[.string ⟨#[]⟩] 63)
    rw [show (w.alloc (.cells #[.int .i64 l.v, .int .u64 (l.c : Nat), .int .u64 (l.h : Nat), .string (nstr l.d)] 29)).heap.size = w.heap.size + 1 by simp] at h
    exact h
  have HB0 : Hid (Below w.heap.size w ((w.alloc (.cells #[.int .i64 l.v, .int .u64 (l.c : Nat), .int .u64 (l.h : Nat), .string (nstr l.d)] 29)).alloc (.cells #[.string ⟨#[]⟩] 63))) := (below_alloc4 w _).trans ((below_alloc4 _ _).mono (by simp))
  clear hlk hq hf hl hS
  simp only [lkv]
  go_enter_defers Tryd.func22, Tryd.ntmps22
  go_upto_region 1 with fail
  generalize (w.alloc (.cells #[.int .i64 l.v, .int .u64 (l.c : Nat), .int .u64 (l.h : Nat), .string (nstr l.d)] 29)).alloc (.cells #[.string ⟨#[]⟩] 63) = w0 at *
  have HS0 := hide (HS.out.next HB0.out)
  have hlk := HS0.out.lock
  have HE := hide hlk.1
  have HK1 := hide hlk.2
  have c1 : w0.cell? ⟨g, 1, none⟩ = some (.int .i32 0) := blk_cell (j := 1) HS0.out.c rfl
  have f1 := blk_frozen 1 HS0.out.c
  clear hlk
  go_upto_region 3 with (go_at_call 19; refine (lockFree ⟨g, 1, none⟩ _ c1 f1).mono ?_; rintro e w' ⟨rfl, rfl⟩)
  generalize w0.setCell ⟨g, 1, none⟩ (.int .i32 1) = w1 at *
  clear c1 f1
  have hgz : g < w.heap.size := blk_lt HS.out.c
  have HT1 : Hid (w1.heap[w.heap.size]? = some (.cells (lcs l) 29 (0, 0))) := (HK1.out.block _ (blk_lt HT.out) (by omega)).trans HT.out
  have HU1 : Hid (w1.heap[w.heap.size + 1]? = some (.cells #[.string ⟨#[]⟩] 63 (0, 0))) := (HK1.out.block _ (blk_lt HT2.out) (by omega)).trans HT2.out
  have hlk : (Instr.lookup 43 (.map (some B)) (.agg #[.int .i64 l.v, .int .u64 (l.c : Nat), .int .u64 (l.h : Nat), .string (nstr l.d)]) true).run Tryd.prog w1.drew = .ok (.tuple #[.agg #[.string (nstr q)], .bool f]) w1.drew := by
    have h := (HE.out.m.block (w' := w1.drew) rfl).look HLK.out
    rw [HQ.out, HF.out] at h
    exact h
  have hlk2 : (Instr.lookup 43 (.map (some B)) (.agg #[.int .i64 l.v, .int .u64 (l.c : Nat), .int .u64 (l.h : Nat), .string (nstr l.d)]) true).run Tryd.prog (w1.alloc (.cells #[.string ⟨#[]⟩] 63)).drew = .ok (.tuple #[.agg #[.string (nstr q)], .bool f]) (w1.alloc (.cells #[.string ⟨#[]⟩] 63)).drew := by
    have h := ((HE.out.m.next (below_alloc4 w1 _)).block (w' := (w1.alloc (.cells #[.string ⟨#[]⟩] 63)).drew) rfl).look HLK.out
    rw [HQ.out, HF.out] at h
    exact h
  have d0 : w1.cell? ⟨w.heap.size, 0, none⟩ = some (.int .i64 l.v) := blk_cell (j := 0) HT1.out rfl
  have d1 : w1.cell? ⟨w.heap.size, 1, none⟩ = some (.int .u64 (l.c : Nat)) := blk_cell (j := 1) HT1.out rfl
  have d2 : w1.cell? ⟨w.heap.size, 2, none⟩ = some (.int .u64 (l.h : Nat)) := blk_cell (j := 2) HT1.out rfl
  have d3 : w1.cell? ⟨w.heap.size, 3, none⟩ = some (.string (nstr l.d)) := blk_cell (j := 3) HT1.out rfl
  have s3 : w1.cell? ⟨g, 3, none⟩ = some (.map (some B)) := blk_cell (j := 3) HE.out.c rfl
  have l1 : w.heap.size < w1.heap.size := blk_lt HT1.out
  have l2 : g < w1.heap.size := blk_lt HE.out.c
  go_cut [6, 7] from 15 to 25 (fun a b wx => a = .pointer (some ⟨w1.heap.size, 0, none⟩) ∧ b = .bool f ∧ wx = (w1.alloc (.cells #[.string (nstr q)] 63)).drew)
  case first => as_aux_lemma =>
    go_region
    all_goals (go_wp2_with fail; go_meet; exact ⟨rfl, rfl, rfl⟩)
  case rest =>
    obtain ⟨rfl, rfl, rfl⟩ := hcut
    have HB3 : Hid (Below w1.heap.size w1 (w1.alloc (.cells #[.string (nstr q)] 63)).drew) := (below_alloc4 w1 _).drew
    have a0 : (w1.alloc (.cells #[.string (nstr q)] 63)).drew.cell? ⟨w1.heap.size, 0, none⟩ = some (.string (nstr q)) := blk_cell (j := 0) (heap_alloc_new w1 _) rfl
    clear hlk hlk2 d0 d1 d2 d3 s3
    generalize (w1.alloc (.cells #[.string (nstr q)] 63)).drew = w2 at *
    have HE2 := hide (HE.out.next HB3.out)
    have HU2 : Hid (w2.heap[w.heap.size + 1]? = some (.cells #[.string ⟨#[]⟩] 63 (0, 0))) := (HB3.out.block _ (blk_lt HU1.out)).trans HU1.out
    have u0 : w2.cell? ⟨w.heap.size + 1, 0, none⟩ = some (.string ⟨#[]⟩) := blk_cell (j := 0) HU2.out rfl
    have z0 := blk_frozen 0 HU2.out
    have HU3 := hide (blk_set 0 (.string (nstr q)) HU2.out)
    have hk3 : Kp (fun y => y = w.heap.size + 1) w2 (w2.setCell ⟨w.heap.size + 1, 0, none⟩ (.string (nstr q))) := (Kp.refl _ w2).setCell _ _ (fun _ => rfl)
    have hBz : B < w.heap.size := HS.out.m.lt
    have HE3 : Hid (Stl (w2.setCell ⟨w.heap.size + 1, 0, none⟩ (.string (nstr q))) g B r (szB L) L) := ⟨(hk3.block _ (blk_lt HE2.out.c) (by omega)).trans HE2.out.c, HE2.out.m.kp hk3 (by omega)⟩
    have HK3 : Hid (Kp (fun y => y = g) w (w2.setCell ⟨w.heap.size + 1, 0, none⟩ (.string (nstr q)))) := (((Kp.of_below HB0.out).trans HK1.out (fun _ _ e => e)).trans (Kp.of_below (S := fun _ => False) HB3.out) (fun _ _ h => h.elim)).trans hk3 (fun y hy e => by omega)
    clear hk3
    go_wp2_with fail
    generalize w2.setCell ⟨w.heap.size + 1, 0, none⟩ (.string (nstr q)) = w3 at *
    refine leaves_cons (f := 20) (args := #[.pointer (some ⟨g, 1, none⟩)]) (by simp) (by simp [go_sem]) ?_
    refine (unlockLate ⟨g, 1, none⟩ .returning _ (blk_cell (j := 1) HE3.out.c rfl) (blk_frozen 1 HE3.out.c)).mono ?_
    rintro e u' w'' ⟨rfl, rfl, rfl⟩
    have hu := HE3.out.unlock rfl HS.out.h HS.out.n
    have hU4 := (hu.2.block _ (blk_lt HU3.out) (by omega)).trans HU3.out
    exact ⟨_, end_c2 rfl Tryd.underlying63 infoSb rfl hU4 rfl rfl, ⟨rfl, hu.1, HK3.out.trans hu.2 (fun _ _ e => e)⟩⟩
set_option maxRecDepth 1000000 in
set_option maxHeartbeats 1000000 in
theorem has13_any (w : World) (g B r : Nat) (L : List Blk) (hS : Sto w g B r L) (l : Lk) (hl : Lkx l) : Calls Tryd.prog 10 #[.pointer (some ⟨g, 0, none⟩), lkv l] w (SamP w g B r L (.bool (atB L l).isSome)) := by
  have HS := hide hS
  have HLK := hide hl
  obtain ⟨q, hq⟩ : ∃ q, (atB L l).getD [] = q := ⟨_, rfl⟩
  obtain ⟨f, hf⟩ : ∃ f, (atB L l).isSome = f := ⟨_, rfl⟩
  rw [hf]
  have HQ := hide hq
  have HF := hide hf
  clear hq hf
  have HT : Hid ((w.alloc (.cells #[.int .i64 l.v, .int .u64 (l.c : Nat), .int .u64 (l.h : Nat), .string (nstr l.d)] 29)).heap[w.heap.size]? = some (.cells (lcs l) 29 (0, 0))) := heap_alloc_new w _
  have HB0 := hide (below_alloc4 w (.cells #[.int .i64 l.v, .int .u64 (l.c : Nat), .int .u64 (l.h : Nat), .string (nstr l.d)] 29))
  clear hS hl
  simp only [lkv]
  go_enter Tryd.func10, Tryd.ntmps10
  go_upto_region 1 with fail
  generalize w.alloc (.cells #[.int .i64 l.v, .int .u64 (l.c : Nat), .int .u64 (l.h : Nat), .string (nstr l.d)] 29) = w0 at *
  have HU := hide (under13_any w0 g B r L (HS.out.next HB0.out) l HLK.out)
  rw [HQ.out, HF.out] at HU
  simp only [lkv, bval] at HU
  have d0 : w0.cell? ⟨w.heap.size, 0, none⟩ = some (.int .i64 l.v) := blk_cell (j := 0) HT.out rfl
  have d1 : w0.cell? ⟨w.heap.size, 1, none⟩ = some (.int .u64 (l.c : Nat)) := blk_cell (j := 1) HT.out rfl
  have d2 : w0.cell? ⟨w.heap.size, 2, none⟩ = some (.int .u64 (l.h : Nat)) := blk_cell (j := 2) HT.out rfl
  have d3 : w0.cell? ⟨w.heap.size, 3, none⟩ = some (.string (nstr l.d)) := blk_cell (j := 3) HT.out rfl
  go_wp2_with (go_at_call 22; refine HU.out.mono ?_; rintro e w1 ⟨rfl, hs1, hk1⟩)
  have hb2 := below_alloc4 w1 (.cells #[.string (nstr q)] 63)
  have HP : SamP w g B r L (.bool f) (.returned (.bool f)) (w1.alloc (.cells #[.string (nstr q)] 63)) := ⟨rfl, hs1.next hb2, ((Kp.of_below HB0.out).trans hk1 (fun _ _ e => e)).trans (Kp.of_below (S := fun _ => False) hb2) (fun _ _ h => h.elim)⟩
  go_ret
  exact HP
end
end Go.Proofs.YtbogamcoheajmaaDoor

import Derived.Test.YtnkghcndaafmoaaGreatDoorJql
import Derived.Test.YtnkghcndaafmoaaGreatDoorJqaa
import Derived.Shelf.AbstractIn
import Derived.RangeFuncSeq
import Derived.RangeFuncGives
import Derived.Sort.MapsRangeIn
import Derived.WalkKit
import Derived.OwnWalkIn
import Derived.TacticsInMore
import Derived.RegionIn
import Derived.LoopNIn
import Derived.LoopIn
import Derived.Test.YtnkghcndaafmoaaGreatDoorJqy
import Derived.RangeFuncCalls
import Derived.RangeFuncLeaves
import Derived.Maps.AppendAt
namespace Go.Proofs.YtnkghcndaafmoaaGreatDoor
section
open Go.RowKit Go.Maps Go.Sort Go
set_option maxRecDepth 1000000 in
set_option maxHeartbeats 1000000 in
theorem keysL_in (F : Fence) (n : Nat) (h10 : F.fn 185) (hro : F.round = none) (hn : 1 ≤ n) (l Bm b nn : Nat) (D0 : DataW Unit) (J : List Lk → World → Prop)
    (hY : ∀ pre x W, Lkx x → J pre W → pre.length < Maps.size D0 → YieldAt F (n - 1) Tryz.prog l #[lkv x] W fun e W' => e = .returned (.bool true) ∧ J (pre ++ [x]) W' ∧ KeepsWalks W W')
    (W : World) (hJ : AbidesFrom W.heap.size J) (hm : W.cell? ⟨Bm, 0, none⟩ = some (.map (some b))) (hown : W.ownsMap Tryz.prog 41 blkElem b nn D0) (h0 : J [] W) :
    CallsIn F n Tryz.prog 185 #[.func (.yield l) #[] #[], .pointer (some ⟨Bm, 0, none⟩)] W fun e W' => (∃ v, e = .returned v) ∧ ∃ (left : Lit → Bool) (ss : List Lk), (∀ kl, left kl = false) ∧ LCol D0 left ss ∧ J ss W' := by
  refine callsIn_of_wp Tryz.func185 rfl h10 ?_ hro
  simp only [Tryz.ntmps185, List.size_toArray, List.length_cons, List.length_nil, Nat.reduceAdd, Nat.reduceSub, Array.replicate_succ, Array.replicate_zero, List.push_toArray, List.append_toArray, List.nil_append, List.cons_append]
  gi_wp2_with (first
    | (gi_at_range; refine wpListIn_range_own _ rfl _ 105 rfl 41 130 lawK Tryz.underlying105 blkElem b nn _ rfl hown ?_; intro w0 hrg0 hg0 hs0)
    | gi_in)
  go_frame
  gi_loopw [3] (fun _ wr => ∃ (left : Lit → Bool) (cnt : Nat) (ss : List Lk), wr.ranges Tryz.prog 41 blkElem b W.heap.size nn D0 left cnt ∧ ss.length + cnt ≤ Maps.size D0 ∧ LCol D0 left ss ∧ J ss wr)
    (fun _ wr => wr.rangeLeft b W.heap.size)
  case atStart =>
    exact ⟨_, _, [], hrg0, by simp, LCol.start D0, hJ [] W w0 none h0 hg0 (fun r e => by cases e)⟩
  case round =>
    obtain ⟨left, cnt, ss, hrg, hcs, hC, hJs⟩ := hrel
    gi_wp2_with (first
      | (gi_at_next; refine wpListIn_next_ranges _ rfl _ rfl 41 lawK blkElem (fun x : {x : Lk // Lkx x} => .agg #[.int .i64 x.1.v, .int .u64 (x.1.c : Nat), .int .u64 (x.1.h : Nat), .string (nstr x.1.d)]) bval (fun key kl hk => by obtain ⟨x, hx, h1⟩ := keyInv hk; exact ⟨⟨x, h1⟩, hx⟩) (fun v _ h => by obtain ⟨c, hc, _⟩ := blkElem_inv h; exact ⟨c, hc⟩) b W.heap.size nn _ _ _ rfl hrg ?_ ?_)
      | gi_in)
    · -- nothing is left
      intro hc0 hl0
      gi_wp2
      go_end0
      exact ⟨⟨_, rfl⟩, left, ss, hl0, hC, hJs⟩
    · -- a link has come
      intro x hx c kl yd yp w2 cnt2 hkey hlk hv hat hrg2 hlt hg2 hs2 hen
      obtain rfl : kll x = kl := Option.some.inj ((keyL hx).symm.trans hkey)
      clear hkey
      have hJ2 : J ss w2 := hJ ss wr w2 (some W.heap.size) hJs hg2 (fun r e => by cases e; exact ⟨Nat.le_refl _, hrg.iter_walk⟩)
      clear hs2
      have hz2 := heap_alloc_new w2 (.cells #[.int .i64 0, .int .u64 0, .int .u64 0, .string ⟨#[]⟩] 41)
      have hst := row_store (cs := #[.int .i64 x.v, .int .u64 (x.c : Nat), .int .u64 (x.h : Nat), .string (nstr x.d)]) hz2 rfl (by simp [Value.oneCell'])
      have hg3 : w2.grownBy (w2.alloc (.cells #[.int .i64 x.v, .int .u64 (x.c : Nat), .int .u64 (x.h : Nat), .string (nstr x.d)] 41)) none := ⟨rfl, rfl, rfl, by simp, fun k hk _ => Below.heap_alloc w2 _ k hk⟩
      have hJ3 := hJ ss w2 _ none hJ2 hg3 (fun r e => by cases e)
      have hrg3 := hrg2.of_walks (KeepsWalks.alloc w2 (.cells #[.int .i64 x.v, .int .u64 (x.c : Nat), .int .u64 (x.h : Nat), .string (nstr x.d)] 41))
      obtain ⟨fn, tmps, assign, body, hy, hR⟩ := hY ss x _ hx hJ3 (by omega)
      unfold lkv at hy
      gi_wp2
      refine hR.mono ?_
      rintro e W3 ⟨rfl, hJ4, hk3⟩
      gi_wp2
      have hrg4 := hrg3.of_walks hk3
      go_roundw
      case rel => exact ⟨_, cnt2, ss ++ [x], hrg4, by simp; omega, hC.step hx hlk hat, hJ4⟩
      case measure => rw [hrg4.left_eq, hrg.left_eq]; exact hlt
end
section
open Go.RowKit Go.Maps Go.Sort Go
def apA9 : Code := Code.region 2
  #[{ dst := some 5, op := Op.alloc 41, type := 0, pos := "iter.go:51", after := #[], guard := none },
    { dst := none, op := Op.store 41 (Operand.tmp 5) (Operand.tmp 7), type := 0, pos := "iter.go:51", after := #[{ on := 0, ground := Ground.data }, { on := 0, ground := Ground.phase }], guard := none }]
  false
def apB9 : Code := Code.block 1 (Code.region 3
  #[{ dst := some 8, op := Op.load 45 (Operand.tmp 2), type := 45, pos := "iter.go:52", after := #[], guard := none },
    { dst := some 9, op := Op.load 41 (Operand.tmp 5), type := 41, pos := "iter.go:52", after := #[], guard := none },
    { dst := some 10, op := Op.buildSlice 45 1 #[(0, Operand.tmp 9)], type := 45, pos := "iter.go:52", after := #[{ on := 1, ground := Ground.data }], guard := none },
    { dst := some 11, op := Op.call { callee := Callee.builtin Builtin.append, args := #[Operand.tmp 8, Operand.tmp 10], argTypes := #[45, 45] }, type := 45, pos := "iter.go:52", after := #[{ on := 0, ground := Ground.data }, { on := 2, ground := Ground.data }], guard := none },
    { dst := none, op := Op.store 45 (Operand.tmp 2) (Operand.tmp 11), type := 0, pos := "iter.go:52", after := #[{ on := 3, ground := Ground.data }, { on := 3, ground := Ground.chain }, { on := 0, ground := Ground.phase }, { on := 1, ground := Ground.phase }, { on := 2, ground := Ground.phase }, { on := 3, ground := Ground.phase }], guard := none }]
  false)
def apR9 (fn : FuncId) (sv : Value) (Bs D : Nat) (st : LoopState) : Loop :=
  { state := st, pending := none, fn, tmps := #[.slice none 0 0, sv, .pointer (some ⟨Bs, 0, none⟩), undef, .slice none 0 0, undef, sv, undef, undef, undef, undef, undef, undef], params := #[7], assign := apA9, body := apB9, defers := D }
def lfl (ss : List Lk) : List Value := gfl (ss.map lcs)
structure ApL (w0 : World) (fn : FuncId) (sv : Value) (Bs l D : Nat) (ss : List Lk) (W : World) : Prop where
  box : ∃ v, W.heap[Bs]? = some (.cells #[v] 45 (0, 0)) ∧ W.ownsRow w0.heap.size 41 4 v ss.length (lfl ss)
  L : W.heap[l]? = some (.loop (apR9 fn sv Bs D .ready))
  K : W.heap[D]? = some (.deferred (some []))
  below : Below w0.heap.size w0 W
theorem own_abides9 {W W' : World} {row : Option Nat} {base : Nat} {e : TypeId} {size : Nat} {v : Value} {k : Nat} {xs : List Value} (h : W.ownsRow base e size v k xs) (hg : W.grownBy W' row)
    (hrow : ∀ r, row = some r → ∃ o : Obj, W.heap[r]? = some o ∧ o.isWalk = true) : W'.ownsRow base e size v k xs := by
  refine h.kept hg ?_
  rcases h.2 with ⟨rfl, _⟩ | ⟨g, cap, cur, rfl, _, hgb, _⟩
  · exact .inl rfl
  · refine .inr fun e' => ?_
    obtain ⟨o, ho, hw⟩ := hrow g (by simpa [Value.ownBlock] using e'.symm)
    rw [hgb] at ho
    cases ho
    cases hw
theorem ap_abides9 (w0 : World) (fn : FuncId) (sv : Value) (Bs l D B : Nat) (hB : w0.heap.size ≤ B) : AbidesFrom B (ApL w0 fn sv Bs l D) := fun s W W' row h hg hrow => by
  have hrow' : ∀ r, row = some r → ∃ o : Obj, W.heap[r]? = some o ∧ o.isWalk = true := fun r e => (hrow r e).2
  obtain ⟨v, hv, hr⟩ := h.box
  exact ⟨⟨v, (grownBy_keeps hg hrow' hv rfl).trans hv, own_abides9 hr hg hrow'⟩, (grownBy_keeps hg hrow' h.L rfl).trans h.L, (grownBy_keeps hg hrow' h.K rfl).trans h.K, h.below.grown hg h.below.size (fun k e => Nat.le_trans hB (hrow k e).1)⟩
theorem grown_put9 (W : World) (l : Nat) (o : Obj) : W.grownBy (W.putObj l o) (some l) :=
  ⟨rfl, rfl, rfl, by simp, fun k _ hk => World.putObj_heap_other (fun e => hk (by rw [e]))⟩
theorem grown_set9 (W : World) (b : Nat) (v : Value) : W.grownBy (W.setCell ⟨b, 0, none⟩ v) (some b) :=
  ⟨rfl, rfl, rfl, (KeepsWalks.setCell W _ v).size, fun k _ hk => Below.heap_setCell _ _ _ k (fun e => hk (by rw [e]))⟩
theorem grown_new9 (W : World) (o : Obj) : W.grownBy (W.alloc o) none := ⟨rfl, rfl, rfl, by simp, fun k hk _ => Below.heap_alloc W o k hk⟩
theorem own_ne9 {W : World} {base : Nat} {e : TypeId} {size : Nat} {v : Value} {k : Nat} {xs : List Value} (h : W.ownsRow base e size v k xs) {j : Nat} {o : Obj} (hj : W.heap[j]? = some o) (hno : ∀ cur, o ≠ .cells cur e (0, 0)) : v.ownBlock = none ∨ v.ownBlock ≠ some j := by
  rcases h.2 with ⟨rfl, _⟩ | ⟨g, cap, cur, rfl, _, hgb, _⟩
  · exact .inl rfl
  · refine .inr fun e' => ?_
    have : g = j := by simpa [Value.ownBlock] using e'
    subst this
    rw [hgb] at hj
    cases hj
    exact hno cur rfl
theorem own_walk9 {W : World} {base : Nat} {e : TypeId} {size : Nat} {v : Value} {k : Nat} {xs : List Value} (h : W.ownsRow base e size v k xs) : ∀ (j : Nat) (o : Obj), v.ownBlock = some j → W.heap[j]? = some o → o.isWalk = false := by
  intro j o hj ho
  rcases h.2 with ⟨rfl, _⟩ | ⟨g, cap, cur, rfl, _, hgb, _⟩
  · simp [Value.ownBlock] at hj
  · have : g = j := by simpa [Value.ownBlock] using hj
    subst this
    rw [hgb] at ho
    cases ho
    rfl
theorem link_ne9 : (45 : Nat) ≠ 41 := by decide
theorem infoLk3 : (Tryz.prog.info? 41).map (fun i => (i.zero, i.size, i.bytes)) = some (some (.agg #[.int .i64 0, .int .u64 0, .int .u64 0, .string ⟨#[]⟩]), 4, 40) := by kernel_rfl
set_option maxRecDepth 1000000 in
set_option maxHeartbeats 2000000 in
theorem apY9 (F : Fence) (m : Nat) (w0 : World) (fn : FuncId) (hfn : F.fn fn) (sv : Value) (Bs l D : Nat) (hBl : Bs ≠ l) (hDl : D ≠ l) (hDB : D ≠ Bs) (h0B : w0.heap.size ≤ Bs) (h0l : w0.heap.size ≤ l)
    (N : Nat) (hN : N ≤ 1000000) (ss : List Lk) (x : Lk) (W : World) (h : ApL w0 fn sv Bs l D ss W) (hlen : ss.length < N) :
    YieldAt F m Tryz.prog l #[lkv x] W fun e W' => e = .returned (.bool true) ∧ ApL w0 fn sv Bs l D (ss ++ [x]) W' ∧ KeepsWalks W W' := by
  have hne := link_ne9
  obtain ⟨i0, hi, hz0, hz1, hz2⟩ := info_ex infoLk3
  obtain ⟨v, hv, hrow⟩ := h.box
  unfold lkv
  refine ⟨fn, #[.slice none 0 0, sv, .pointer (some ⟨Bs, 0, none⟩), undef, .slice none 0 0, undef, sv, .agg #[.int .i64 x.v, .int .u64 (x.c : Nat), .int .u64 (x.h : Nat), .string (nstr x.d)], undef, undef, undef, undef, undef], apA9, apB9, by simpa [apR9] using run_yield (P := Tryz.prog) (args := #[.agg #[.int .i64 x.v, .int .u64 (x.c : Nat), .int .u64 (x.h : Nat), .string (nstr x.d)]]) h.L rfl, roundIn_of_wpIn hfn ?_⟩
  obtain ⟨Wa, hWa⟩ : ∃ Wa, Wa = W.alloc (.cells (lcs x) 41) := ⟨_, rfl⟩
  have hga : W.grownBy Wa none := by rw [hWa]; exact grown_new9 _ _
  have hka : KeepsWalks W Wa := by rw [hWa]; exact KeepsWalks.alloc _ _
  have hL := (hga.block l (blk_lt h.L) (by simp)).trans h.L
  have hva := (hga.block Bs (blk_lt hv) (by simp)).trans hv
  have hKa := (hga.block D (blk_lt h.K) (by simp)).trans h.K
  have hxa : Wa.heap[W.heap.size]? = some (.cells (lcs x) 41 (0, 0)) := by rw [hWa]; exact heap_alloc_new _ _
  have hrowa := hrow.kept hga (Classical.em _)
  have hba : Below w0.heap.size w0 Wa := h.below.grown hga h.below.size (fun k e => by cases e)
  have hbr := run_beginRound (P := Tryz.prog) hL rfl
  obtain ⟨W2, hW2⟩ : ∃ W2, Wa.putObj l (.loop (apR9 fn sv Bs D .busy)) = W2 := ⟨_, rfl⟩
  change Sem.run Tryz.prog (Instr.beginRound l) Wa = Result.ok () (Wa.putObj l (.loop (apR9 fn sv Bs D .busy))) at hbr
  rw [hW2] at hbr
  have hz2 := heap_alloc_new W (.cells #[.int .i64 0, .int .u64 0, .int .u64 0, .string ⟨#[]⟩] 41)
  have hst := row_store (cs := #[.int .i64 x.v, .int .u64 (x.c : Nat), .int .u64 (x.h : Nat), .string (nstr x.d)]) hz2 rfl (by simp [Value.oneCell'])
  unfold lcs at hWa
  unfold apA9
  gi_wp2_with (rw [Oper.semAt_eq _ _ _ (fun c h => by cases h)]; go_simp; try go_bits)
  rw [← hWa]
  refine ⟨W2, hbr, ?_⟩
  have hg2 : Wa.grownBy W2 (some l) := by rw [← hW2]; exact grown_put9 _ _ _
  have hk2 : KeepsWalks W W2 := hka.trans (by rw [← hW2]; exact KeepsWalks.putObj _ hL rfl)
  have hv2 : W2.heap[Bs]? = some (.cells #[v] 45 (0, 0)) := by rw [← hW2]; exact (World.putObj_heap_other hBl).trans hva
  have hK2 : W2.heap[D]? = some (.deferred (some [])) := by rw [← hW2]; exact (World.putObj_heap_other hDl).trans hKa
  have hL2 : W2.heap[l]? = some (.loop (apR9 fn sv Bs D .busy)) := by rw [← hW2]; exact World.putObj_heap_same (blk_lt hL)
  have hxl : W.heap.size ≠ l := by have := blk_lt h.L; omega
  have hx2 : W2.heap[W.heap.size]? = some (.cells (lcs x) 41 (0, 0)) := by rw [← hW2]; exact (World.putObj_heap_other hxl).trans hxa
  have hrow2 := hrowa.kept hg2 (own_ne9 hrowa hL (fun cur e => by cases e))
  have hb2 : Below w0.heap.size w0 W2 := hba.grown hg2 hba.size (fun k e => by cases e; exact h0l)
  have c2 : W2.cell? ⟨Bs, 0, none⟩ = some v := blk_cell (j := 0) hv2 rfl
  have cx0 : W2.cell? ⟨W.heap.size, 0, none⟩ = some (.int .i64 x.v) := blk_cell (j := 0) hx2 rfl
  have cx1 : W2.cell? ⟨W.heap.size, 1, none⟩ = some (.int .u64 (x.c : Nat)) := blk_cell (j := 1) hx2 rfl
  have cx2 : W2.cell? ⟨W.heap.size, 2, none⟩ = some (.int .u64 (x.h : Nat)) := blk_cell (j := 2) hx2 rfl
  have cx3 : W2.cell? ⟨W.heap.size, 3, none⟩ = some (.string (nstr x.d)) := blk_cell (j := 3) hx2 rfl
  clear hW2 hWa hst hz2 hbr
  have ne_of : ∀ {j : Nat} {o : Obj}, W2.heap[j]? = some o → (∀ cur, o ≠ .cells cur 41 (0, 0)) → some j ≠ v.ownBlock := fun hj hno => by
    rcases own_ne9 hrow2 hj hno with e | e
    · rw [e]; simp
    · exact fun e' => e e'.symm
  have nB := ne_of hv2 (fun cur e => hne (Obj.cells.inj e).2.1)
  have nL := ne_of hL2 (fun cur e => by cases e)
  have nK := ne_of hK2 (fun cur e => by cases e)
  have HNW : Hid (∀ j u, ([.int .i64 x.v, .int .u64 (x.c : Nat), .int .u64 (x.h : Nat), .string (nstr x.d)] : List Value)[j]? = some u → (W2.alloc (.cells #[.int .i64 x.v, .int .u64 (x.c : Nat), .int .u64 (x.h : Nat), .string (nstr x.d)] 41)).cell? ((⟨W2.heap.size, 0, none⟩ : Addr).add j) = some u) := fun j u hu => by
    rw [addr0]
    exact blk_cell (heap_alloc_new _ _) (by simpa using hu)
  have HON : Hid (∀ u ∈ ([.int .i64 x.v, .int .u64 (x.c : Nat), .int .u64 (x.h : Nat), .string (nstr x.d)] : List Value), u.oneCell' = true) := by
    intro u hu
    simp at hu
    rcases hu with rfl | rfl | rfl | rfl <;> rfl
  have HB1 : Hid (ss.length + 1 ≤ maxLen ∧ (ss.length + 1) * 40 ≤ 140737488355328) := by show _ ∧ _; unfold maxLen; omega
  have HB2 : Hid (w0.heap.size ≤ (W2.alloc (.cells #[.int .i64 x.v, .int .u64 (x.c : Nat), .int .u64 (x.h : Nat), .string (nstr x.d)] 41)).heap.size) := by have := hb2.size; show _ ≤ _; simp; omega
  have HRW := hide (hrow2.alloc (.cells #[.int .i64 x.v, .int .u64 (x.c : Nat), .int .u64 (x.h : Nat), .string (nstr x.d)] 41))
  have hBlt := blk_lt hv2
  have hLlt := blk_lt hL2
  have hKlt := blk_lt hK2
  unfold apB9
  gi_wp2_with (first
    | (gi_at_builtin; refine wpListIn_append_own _ rfl _ _ 45 rfl w0.heap.size 41 i0 (.agg #[.int .i64 0, .int .u64 0, .int .u64 0, .string ⟨#[]⟩]) 4 40 Tryz.underlying45 hi hz0 hz1 hz2 rfl (by decide) _ _ _ rfl HRW.out ⟨W2.heap.size, 0, none⟩ 1 1 [.int .i64 x.v, .int .u64 (x.c : Nat), .int .u64 (x.h : Nat), .string (nstr x.d)] rfl rfl HNW.out HON.out HB1.out.1 HB1.out.2 HB2.out ?_; intro v' w3 hown' hg3 hnil3
       have hv3 : w3.heap[Bs]? = some (.cells #[v] 45 (0, 0)) := (hg3.block Bs (by simp; omega) nB).trans ((Below.heap_alloc _ _ Bs hBlt).trans hv2)
       have hc3 := blk_cell (j := 0) (v := v) hv3 rfl
       have hf3 := blk_frozen 0 hv3
       obtain ⟨a', cap', hv', -⟩ := own_formG hown'
       subst hv'
       go_frame)
    | (rw [Oper.semAt_eq _ _ _ (fun c h => by cases h)]; go_simp; try go_bits))
  have hg3' : (W2.alloc (.cells #[.int .i64 x.v, .int .u64 (x.c : Nat), .int .u64 (x.h : Nat), .string (nstr x.d)] 41)).grownBy w3 v.ownBlock := hg3
  have hL3 := (hg3'.block l (by simp; omega) nL).trans ((Below.heap_alloc _ _ l hLlt).trans hL2)
  have hK3 := (hg3'.block D (by simp; omega) nK).trans ((Below.heap_alloc _ _ D hKlt).trans hK2)
  obtain ⟨w4, hw4⟩ : ∃ w4, w3.setCell ⟨Bs, 0, none⟩ (.slice a' (ss.length + 1) cap') = w4 := ⟨_, rfl⟩
  rw [hw4]
  have hg4 : w3.grownBy w4 (some Bs) := by rw [← hw4]; exact grown_set9 _ _ _
  have hv4 : w4.heap[Bs]? = some (.cells #[.slice a' (ss.length + 1) cap'] 45 (0, 0)) := by rw [← hw4]; exact blk_set 0 _ hv3
  have hL4 := (hg4.block l (blk_lt hL3) (fun e => hBl (by cases e; rfl))).trans hL3
  have hK4 := (hg4.block D (blk_lt hK3) (fun e => hDB (by cases e; rfl))).trans hK3
  have hrow4 := hown'.kept hg4 (own_ne9 hown' hv3 (fun cur e => hne (Obj.cells.inj e).2.1))
  have hb3 : Below w0.heap.size w0 w3 := (hb2.alloc hb2.size _).grown hg3' (by have := hb2.size; simp; omega) (fun k e => (hrow2.lt k e).1)
  have hb4 : Below w0.heap.size w0 w4 := hb3.grown hg4 hb3.size (fun k e => by cases e; exact h0B)
  have hk4 : KeepsWalks W w4 := ((hk2.trans (KeepsWalks.alloc _ _)).trans (KeepsWalks.of_grownBy hg3' (own_walk9 HRW.out))).trans (by rw [← hw4]; exact KeepsWalks.setCell _ _ _)
  clear hw4
  refine ⟨_, _, run_endRound none hL4, rfl, ⟨⟨_, (World.putObj_heap_other hBl).trans hv4, ?_⟩, World.putObj_heap_same (blk_lt hL4), (World.putObj_heap_other hDl).trans hK4, hb4.grown (grown_put9 _ _ _) hb4.size (fun k e => by cases e; exact h0l)⟩, hk4.trans (KeepsWalks.putObj _ hL4 rfl)⟩
  have h9 := hrow4.kept (grown_put9 w4 l (.loop { apR9 fn sv Bs D .busy with state := if (none : Option Code).isNone then .ready else .done, pending := none })) (own_ne9 hrow4 hL4 (fun cur e => by cases e))
  have e9 : lfl (ss ++ [x]) = lfl ss ++ [.int .i64 x.v, .int .u64 (x.c : Nat), .int .u64 (x.h : Nat), .string (nstr x.d)] := by
    unfold lfl
    rw [List.map_append, gfl_app]
    simp [gfl, lcs]
  rw [e9, List.length_append]
  exact h9
end
section
open Go.RowKit Go
def ln4 (i : Nat) : Lk := ⟨1, 85, 18, sha (blk4 i)⟩
end
section
open Go.RowKit Go

end
section
open Go.RowKit Go
def nb (i : Nat) : Blk := (ln4 i, blk4 i)
def Nbs (L : List Blk) (c : Nat) : Prop := ∀ x ∈ L, ∃ j, j < c ∧ x = nb j
theorem Nbs.mono {L : List Blk} {c d : Nat} (h : Nbs L c) (hd : c ≤ d) : Nbs L d := fun x hx => by
  obtain ⟨j, h1, h2⟩ := h x hx
  exact ⟨j, by omega, h2⟩
end
end Go.Proofs.YtnkghcndaafmoaaGreatDoor

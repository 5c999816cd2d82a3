import Derived.Test.YtnkghcndaafmoaaGreatDoorJqam
import Derived.Test.YtnkghcndaafmoaaGreatDoorJqu
import Derived.Test.YtnkghcndaafmoaaGreatDoorJqak
import Derived.Test.YtnkghcndaafmoaaGreatDoorJqal
import Derived.Test.YtnkghcndaafmoaaGreatDoorJqaa
import Derived.Test.YtnkghcndaafmoaaGreatDoorJqy
namespace Go.Proofs.YtnkghcndaafmoaaGreatDoor
section
open Go.ChangeShapes Go.WideShapes Go.ChangeAt Go.RowKit Go.Deep Go.Joins Go
structure Opr where
  d : Int
  on : Int
  c : Nat
  b : List Nat
  l : Lk
  X : List Blk
  r : Int
def opc (o : Opr) (vb vX : Value) : Array Value := #[.int .i64 o.d, .int .i64 o.on, .int .u64 (o.c : Nat), vb, .int .i64 o.l.v, .int .u64 (o.l.c : Nat), .int .u64 (o.l.h : Nat), .string (nstr o.l.d), vX, .int .i64 o.r]
structure Opc (w : World) (o : Opr) (c : Array Value) : Prop where
  ex : ∃ vb vX, c = opc o vb vX ∧ BSl w vb o.b ∧ KSl w vX o.X
  l : Lkx o.l
  c : o.c < 18446744073709551616
  n : o.b.length ≤ 140737488351232
  r : -9223372036854775808 ≤ o.r ∧ o.r ≤ 9223372036854775807
abbrev OSl (w : World) (v : Value) (os : List Opr) : Prop := GSl 10 Opc w v os
instance : Inhabited Opr := ⟨⟨0, 0, 0, [], Lk.none, [], 0⟩⟩
theorem cells3o : Tryz.prog.cellsOf 3 = 1 := by kernel_rfl
theorem cellsU64o : Tryz.prog.cellsOf 38 = 1 := by kernel_rfl
theorem cells9o : Tryz.prog.cellsOf 9 = 1 := by kernel_rfl
theorem cellsBso : Tryz.prog.cellsOf 39 = 1 := by kernel_rfl
theorem cellsLko : Tryz.prog.cellsOf 41 = 4 := by kernel_rfl
theorem cellsBko : Tryz.prog.cellsOf 60 = 5 := by kernel_rfl
theorem bytesBko : 0 < Tryz.prog.bytesOf 60 := of_decide_eq_true (by kernel_rfl)
theorem cellsKso : Tryz.prog.cellsOf 35 = 1 := by kernel_rfl
theorem cellsOpo : Tryz.prog.cellsOf 43 = 10 := by kernel_rfl
theorem bytesOpo : 0 < Tryz.prog.bytesOf 43 := of_decide_eq_true (by kernel_rfl)
theorem cellsOso : Tryz.prog.cellsOf 23 = 1 := by kernel_rfl
theorem i64_wfo {n : Int} (h : (Lit.int .i64 n).wf = true) : -9223372036854775808 ≤ n ∧ n ≤ 9223372036854775807 := by
  simp [Lit.wf, IntKind.min, IntKind.max, IntKind.bits, IntKind.signed] at h
  omega
theorem i64_in {n : Int} (h : (Lit.int .i64 n).wf = true) : -9223372036854775808 ≤ n ∧ n ≤ 9223372036854775807 := i64_wfo h
set_option maxRecDepth 100000 in
theorem lk_open {H : Type} {enc : TypeId × Value → H} {w : World} {base fuel : Nat} {held : Bool} {c0 c1 c2 c3 : Value} {x : DataW H × List MemPlace} (h : DataW.trod enc Tryz.prog w base (fun _ => true) held fuel 41 [c0, c1, c2, c3] = some x) (hW : (x.1.weights Tryz.prog 41).all (· ≤ reachBytes) = true) : ∃ l : Lk, Lkx l ∧ #[c0, c1, c2, c3] = lcs l := by
  obtain ⟨y0, y1, y2, y3, k, hx, _, g0, g1, g2, g3⟩ := trod_struct4 Tryz.underlying41 h
  have hWE : (DataW.weightsEach Tryz.prog [3, 38, 38, 9] [y0.1, y1.1, y2.1, y3.1]).all (· ≤ reachBytes) = true := by
    rw [hx] at hW
    simp only [DataW.weights, Tryz.underlying41] at hW
    exact hW
  obtain ⟨n0, f0, _, w0⟩ := DataW.trod_int (fuel := k) (cs := [c0]) Tryz.underlying3 (by simpa [cells3o] using g0)
  obtain ⟨n1, f1, _, w1⟩ := DataW.trod_int (fuel := k) (cs := [c1]) Tryz.underlying38 (by simpa [cellsU64o] using g1)
  obtain ⟨n2, f2, _, w2⟩ := DataW.trod_int (fuel := k) (cs := [c2]) Tryz.underlying38 (by simpa [cellsU64o] using g2)
  obtain ⟨s, f3, hs3, hs⟩ := DataW.trod_string (fuel := k) (cs := [c3]) Tryz.underlying9 (by simpa [cells9o] using g3)
  injection f0 with f0 _
  injection f1 with f1 _
  injection f2 with f2 _
  injection f3 with f3 _
  subst f0 f1 f2 f3
  have b1 := bounds_u64 w1
  have b2 := bounds_u64 w2
  have hsz : s.size ≤ 140737488351232 := by
    refine weight_le (t := 9) (weight_each hWE (j := 3) rfl rfl) ?_
    rw [hs3]
    simp only [DataW.weights, List.mem_singleton]
    rfl
  have q1 : ((n1.toNat : Nat) : Int) = n1 := by omega
  have q2 : ((n2.toNat : Nat) : Int) = n2 := by omega
  exact ⟨⟨n0, n1.toNat, n2.toNat, sl s⟩, ⟨⟨by simp only; omega, by simp only; omega, sl_byte s, by simp only [sl_len]; omega⟩, i64_in w0⟩, by simp only [lcs, nstr_sl, q1, q2]⟩
set_option maxRecDepth 100000 in
theorem blk_open {H : Type} {enc : TypeId × Value → H} {w : World} {base : Nat} {held : Bool} (fuel : Nat) (cs : List Value) (x : DataW H × List MemPlace) (h : DataW.trod enc Tryz.prog w base (fun _ => true) held fuel 60 cs = some x) (hW : (x.1.weights Tryz.prog 60).all (· ≤ reachBytes) = true) : ∃ t, Bki w t cs.toArray := by
  obtain ⟨xs, n, _, hx, hlen, hxl, hf⟩ := DataW.trod_struct Tryz.underlying60 h
  rw [cellsBko] at hlen
  match cs, hlen, xs, hxl with
  | [c0, c1, c2, c3, c4], _, [y0, y1], _ =>
    have g0 : DataW.trod enc Tryz.prog w base (fun _ => true) held n 41 [c0, c1, c2, c3] = some y0 := by simpa [cellsLko] using hf 0 _ rfl
    have g1 : DataW.trod enc Tryz.prog w base (fun _ => true) held n 39 [c4] = some y1 := by simpa [cellsBso, cellsLko] using hf 1 _ rfl
    have hWE : (DataW.weightsEach Tryz.prog [41, 39] [y0.1, y1.1]).all (· ≤ reachBytes) = true := by
      rw [hx] at hW
      simp only [DataW.weights, Tryz.underlying60] at hW
      exact hW
    obtain ⟨l, hl, e⟩ := lk_open g0 (weight_each hWE (j := 0) rfl rfl)
    obtain ⟨b, hb, hn⟩ := bsl_open6 g1 (weight_each hWE (j := 1) rfl rfl)
    refine ⟨(l, b), ⟨c4, ?_, hb⟩, hl, hn⟩
    have e1 : [c0, c1, c2, c3] = (lcs l).toList := by rw [← e]
    simp only [lcs, List.cons.injEq, and_true] at e1
    obtain ⟨rfl, rfl, rfl, rfl⟩ := e1
    rfl
set_option maxRecDepth 100000 in
theorem op_open {H : Type} {enc : TypeId × Value → H} {w : World} {base : Nat} {held : Bool} (fuel : Nat) (cs : List Value) (x : DataW H × List MemPlace) (h : DataW.trod enc Tryz.prog w base (fun _ => true) held fuel 43 cs = some x) (hW : (x.1.weights Tryz.prog 43).all (· ≤ reachBytes) = true) : ∃ t, Opc w t cs.toArray := by
  obtain ⟨xs, n, _, hx, hlen, hxl, hf⟩ := DataW.trod_struct Tryz.underlying43 h
  rw [cellsOpo] at hlen
  match cs, hlen, xs, hxl with
  | [c0, c1, c2, c3, c4, c5, c6, c7, c8, c9], _, [y0, y1, y2, y3, y4, y5, y6], _ =>
    have g0 : DataW.trod enc Tryz.prog w base (fun _ => true) held n 3 [c0] = some y0 := by simpa [cells3o] using hf 0 _ rfl
    have g1 : DataW.trod enc Tryz.prog w base (fun _ => true) held n 3 [c1] = some y1 := by simpa [cells3o] using hf 1 _ rfl
    have g2 : DataW.trod enc Tryz.prog w base (fun _ => true) held n 38 [c2] = some y2 := by simpa [cells3o, cellsU64o] using hf 2 _ rfl
    have g3 : DataW.trod enc Tryz.prog w base (fun _ => true) held n 39 [c3] = some y3 := by simpa [cells3o, cellsU64o, cellsBso] using hf 3 _ rfl
    have g4 : DataW.trod enc Tryz.prog w base (fun _ => true) held n 41 [c4, c5, c6, c7] = some y4 := by simpa [cells3o, cellsU64o, cellsBso, cellsLko] using hf 4 _ rfl
    have g5 : DataW.trod enc Tryz.prog w base (fun _ => true) held n 35 [c8] = some y5 := by simpa [cells3o, cellsU64o, cellsBso, cellsLko, cellsKso] using hf 5 _ rfl
    have g6 : DataW.trod enc Tryz.prog w base (fun _ => true) held n 3 [c9] = some y6 := by simpa [cells3o, cellsU64o, cellsBso, cellsLko, cellsKso] using hf 6 _ rfl
    have hWE : (DataW.weightsEach Tryz.prog [3, 3, 38, 39, 41, 35, 3] [y0.1, y1.1, y2.1, y3.1, y4.1, y5.1, y6.1]).all (· ≤ reachBytes) = true := by
      rw [hx] at hW
      simp only [DataW.weights, Tryz.underlying43] at hW
      exact hW
    obtain ⟨n0, e0, _, _⟩ := DataW.trod_int Tryz.underlying3 g0
    obtain ⟨n1, e1, _, _⟩ := DataW.trod_int Tryz.underlying3 g1
    obtain ⟨n2, e2, _, w2⟩ := DataW.trod_int Tryz.underlying38 g2
    obtain ⟨b, hb, hn⟩ := bsl_open6 g3 (weight_each hWE (j := 3) rfl rfl)
    obtain ⟨l, hl, e4⟩ := lk_open g4 (weight_each hWE (j := 4) rfl rfl)
    haveI : Inhabited Blk := ⟨(Lk.none, [])⟩
    obtain ⟨X, hX⟩ := gsl_open (P := Bki) Tryz.underlying35 cellsBko bytesBko (by decide) (fun x c hc => by obtain ⟨vb, rfl, _⟩ := hc.ex; rfl) blk_open g5 (weight_each hWE (j := 5) rfl rfl)
    obtain ⟨n6, e6, _, w6⟩ := DataW.trod_int Tryz.underlying3 g6
    injection e0 with e0 _
    injection e1 with e1 _
    injection e2 with e2 _
    injection e6 with e6 _
    subst e0 e1 e2 e6
    have b2 := bounds_u64 w2
    have q2 : ((n2.toNat : Nat) : Int) = n2 := by omega
    have e5 : [c4, c5, c6, c7] = (lcs l).toList := by rw [← e4]
    simp only [lcs, List.cons.injEq, and_true] at e5
    obtain ⟨rfl, rfl, rfl, rfl⟩ := e5
    exact ⟨⟨n0, n1, n2.toNat, b, l, X, n6⟩, ⟨c3, c8, by simp only [opc, q2], hb, hX⟩, hl, by simp only; omega, hn, i64_in w6⟩
theorem ops_open {H : Type} {enc : TypeId × Value → H} {w : World} {base fuel : Nat} {held : Bool} {v : Value} {x : DataW H × List MemPlace} (h : DataW.trod enc Tryz.prog w base (fun _ => true) held fuel 23 [v] = some x) (hW : (x.1.weights Tryz.prog 23).all (· ≤ reachBytes) = true) : ∃ os, OSl w v os :=
  gsl_open (P := Opc) Tryz.underlying23 cellsOpo bytesOpo (by decide) (fun x c hc => by obtain ⟨vb, vX, rfl, _⟩ := hc.ex; rfl) op_open h hW
end
section
open Go.RowKit Go
def szo (X : List Blk) : Nat := (X.map fun x => x.2.length + 100).sum
theorem szo_snoc {X : List Blk} {i : Nat} {x : Blk} (h : X[i]? = some x) : szo (X.take (i + 1)) = szo (X.take i) + (x.2.length + 100) := by
  unfold szo
  rw [List.take_add_one, h, List.map_append, List.sum_append_nat]
  simp
theorem szo_len (X : List Blk) : 100 * X.length ≤ szo X := by
  induction X with
  | nil => simp [szo]
  | cons x r ih =>
    simp only [szo, List.map_cons, List.sum_cons, List.length_cons] at ih ⊢
    omega
def SizP (o : Opr) (e : Ending) : Prop := ∃ n : Nat, e = .returned (.int .i64 (n : Nat)) ∧ n ≤ 1000000000000000 ∧ (n ≤ 1048576 → n = o.b.length + szo o.X)
set_option maxRecDepth 1000000 in
set_option maxHeartbeats 4000000 in
theorem size13o_any (w : World) (o : Opr) (vb vX : Value) (hb : BSl w vb o.b) (hX : KSl w vX o.X) (hn : o.b.length ≤ 140737488351232) : Calls Tryz.prog 10 #[.agg (opc o vb vX)] w fun e w' => SizP o e ∧ Below w.heap.size w w' := by
  obtain ⟨⟨ab, cb, rfl, -⟩, -⟩ := hb
  obtain ⟨⟨aX, cX, rfl, -, hcX⟩, hmX⟩ := id hX
  have HX := hide hX
  have HN := hide hn
  have HMX := hide hmX
  have HB0 := hide (below_alloc4 w (.cells (opc o (.slice ab o.b.length cb) (.slice aX o.X.length cX)) 43))
  have HT0 : Hid ((w.alloc (.cells (opc o (.slice ab o.b.length cb) (.slice aX o.X.length cX)) 43)).heap[w.heap.size]? = some (.cells (opc o (.slice ab o.b.length cb) (.slice aX o.X.length cX)) 43 (0, 0))) := heap_alloc_new w _
  clear hX hcX hmX hn
  unfold opc at HB0 HT0
  unfold opc
  go_enter Tryz.func10, Tryz.ntmps10
  go_upto_region 1 with fail
  generalize w.alloc (.cells #[.int .i64 o.d, .int .i64 o.on, .int .u64 (o.c : Nat), .slice ab o.b.length cb, .int .i64 o.l.v, .int .u64 (o.l.c : Nat), .int .u64 (o.l.h : Nat), .string (nstr o.l.d), .slice aX o.X.length cX, .int .i64 o.r] 43) = w0 at *
  have c3 : w0.cell? ⟨w.heap.size, 3, none⟩ = some (.slice ab o.b.length cb) := blk_cell (j := 3) HT0.out rfl
  have c8 : w0.cell? ⟨w.heap.size, 8, none⟩ = some (.slice aX o.X.length cX) := blk_cell (j := 8) HT0.out rfl
  go_upto_region 3 with fail
  go_loopw [3, 4] (fun vn ii wx => ∃ (i n : Nat), i ≤ o.X.length ∧ ii = .int .i64 (i : Nat) ∧ vn = .int .i64 (n : Nat) ∧ Hid (n = o.b.length + szo (o.X.take i) ∧ n ≤ 1000000000000000) ∧ wx = w0) (fun _ ii _ => o.X.length - (intOf ii).toNat)
  case atStart => exact ⟨0, o.b.length, by omega, rfl, rfl, ⟨by simp [szo], by have := HN.out; omega⟩, rfl⟩
  case round =>
    obtain ⟨i, n, hi, rfl, rfl, HNN, rfl⟩ := hrel
    have hn15 : (n : Int) ≤ 1000000000000000 := by have := HNN.out.2; omega
    have hmx : (o.X.length : Int) ≤ 140737488351232 := by have := HMX.out; omega
    by_cases hlt : i < o.X.length
    · have g1 : (i : Int) < (o.X.length : Int) := by omega
      by_cases hm : n ≤ 1048576
      · have g2 : (n : Int) ≤ 1048576 := by omega
        obtain ⟨x, hx⟩ : ∃ x, o.X[i]? = some x := ⟨_, List.getElem?_eq_getElem hlt⟩
        obtain ⟨b, off, va, nx, vc, rfl, -, rfl, -, hxl, hcell⟩ := HX.out.at hx
        have hxl2 : (x.2.length : Int) ≤ 140737488351232 := by omega
        have d4 : wr.cell? ⟨b, off + i * 5 + 4, none⟩ = some (.slice va x.2.length vc) := keep_below HB0.out _ _ (hcell 4 _ rfl)
        have HSN := hide (szo_snoc hx)
        clear hcell hx
        go_wp2_with fail
        go_roundw
        case rel => exact ⟨i + 1, n + x.2.length + 100, by omega, by go_num, by go_num, ⟨by rw [HSN.out]; have := HNN.out.1; omega, by omega⟩, trivial⟩
        case measure => simp [intOf]; omega
      · have g2 : ¬ (n : Int) ≤ 1048576 := by omega
        go_wp2_with fail
        go_ret
        exact ⟨⟨n, rfl, HNN.out.2, fun h => absurd h hm⟩, HB0.out⟩
    · have g1 : ¬ (i : Int) < (o.X.length : Int) := by omega
      have hi2 : i = o.X.length := by omega
      subst hi2
      rw [List.take_length] at HNN
      go_wp2_with fail
      go_ret
      exact ⟨⟨n, rfl, HNN.out.2, fun _ => HNN.out.1⟩, HB0.out⟩
end
section
open Go.RowKit Go
structure Hlr (w wx : World) (Z pb sb g B r : Nat) (pc : Array Value) (L S : List Blk) (v : Value) (Cs : List (Array Value)) : Prop where
  n : Nst w wx g B r L
  ok : Gok L
  p : wx.heap[pb]? = some (.cells pc 25 (0, 0))
  cb : wx.heap[sb]? = some (.cells #[v] 37 (0, 0))
  sv : Suv Z wx v Cs S
  z : Z ≤ wx.heap.size
  zs : sb < Z
  zg : g < Z
  zB : B < Z
  zw : w.heap.size ≤ sb
theorem Hlr.next {w wx wy : World} {Z pb sb g B r : Nat} {pc : Array Value} {L S : List Blk} {v : Value} {Cs : List (Array Value)} (h : Hlr w wx Z pb sb g B r pc L S v Cs) (hb : Below wx.heap.size wx wy) : Hlr w wy Z pb sb g B r pc L S v Cs :=
  ⟨h.n.next hb, h.ok, (hb.block _ (blk_lt h.p)).trans h.p, (hb.block _ (blk_lt h.cb)).trans h.cb, h.sv.next hb, Nat.le_trans h.z hb.size, h.zs, h.zg, h.zB, h.zw⟩
theorem Hlr.of {w wx wy : World} {Z pb sb g B r : Nat} {pc : Array Value} {L M S : List Blk} {v : Value} {Cs : List (Array Value)} (h : Hlr w wx Z pb sb g B r pc L S v Cs) (hs : Sto wy g B r M) (hk : Kp (fun q => q = g ∨ q = B) wx wy) (hM : Gok M) : Hlr w wy Z pb sb g B r pc M S v Cs := by
  have hne : ∀ {cs t q}, wx.heap[q]? = some (.cells cs t (0, 0)) → t ≠ 118 → ¬ (q = g ∨ q = B) := fun hq ht e => by
    rcases e with e | e
    · exact ne_of_type hq h.n.s.c ht e
    · exact h.n.s.m.ne hq e
  exact ⟨h.n.of hs hk, hM, (hk.block _ (blk_lt h.p) (hne h.p (by decide))).trans h.p, (hk.block _ (blk_lt h.cb) (hne h.cb (by decide))).trans h.cb, h.sv.kp hk (fun q h1 h2 => by have := h.zg; have := h.zB; omega), Nat.le_trans h.z hk.size, h.zs, h.zg, h.zB, h.zw⟩
theorem Hlr.sure {w wx wy : World} {Z pb sb g B r : Nat} {pc : Array Value} {L S T : List Blk} {v : Value} {Cs : List (Array Value)} (h : Hlr w wx Z pb sb g B r pc L S v Cs) (hP : SurP wx sb Z T wy) : ∃ v' Cs', Hlr w wy Z pb sb g B r pc L T v' Cs' := by
  obtain ⟨v', Cs', h1, h2, hk, _⟩ := hP
  have hb : Below w.heap.size w wy := h.n.b.trans (hk.below h.n.b.size (fun q e => by have := h.zw; omega))
  exact ⟨v', Cs', ⟨⟨(hk.block _ (blk_lt h.n.s.c) (fun e => ne_of_type h.n.s.c h.cb (by decide) e)).trans h.n.s.c, h.n.s.m.kp hk (fun e => h.n.s.m.ne h.cb e.symm), h.n.s.h, h.n.s.n⟩, hb, h.n.g, h.n.m⟩, h.ok, (hk.block _ (blk_lt h.p) (fun e => ne_of_type h.p h.cb (by decide) e)).trans h.p, h1, h2, Nat.le_trans h.z hk.size, h.zs, h.zg, h.zB, h.zw⟩
structure Wsn (wx : World) (A wb : Nat) (vL vB vE : Value) (L : List Blk) (ss : List Lk) : Prop where
  x : wx.heap[wb]? = some (.cells #[vL, vB, vE, .int .i64 (szB L : Nat)] 49 (0, 0))
  s : Snn A wx vL vB vE L ss
  r : Srtd L ss
theorem Wsn.kp {S : Nat → Prop} {wx wy : World} {A wb : Nat} {vL vB vE : Value} {L : List Blk} {ss : List Lk} (h : Wsn wx A wb vL vB vE L ss) (hk : Kp S wx wy) (hs : ∀ q, S q → q < A) (hw : ¬ S wb) : Wsn wy A wb vL vB vE L ss :=
  ⟨(hk.block _ (blk_lt h.x) hw).trans h.x, h.s.kp hk hs, h.r⟩
theorem Snn.lists {A : Nat} {w : World} {vL vB vE : Value} {L : List Blk} {ss : List Lk} (h : Snn A w vL vB vE L ss) (hm : ss.length ≤ 1000000) : LkSl w vL ss ∧ RSl w vB (ss.map fun l => (getr13 L l).1) ∧ ISl w vE (ss.map fun l => (getr13 L l).2) := by
  obtain ⟨Bs, hb⟩ := h.b
  exact ⟨h.l.lksl hm, hb.rsl (by rw [List.length_map]; exact hm), h.e.isl (by rw [List.length_map]; exact hm)⟩
theorem Suv.ksl {A : Nat} {w : World} {v : Value} {Cs : List (Array Value)} {S : List Blk} (h : Suv A w v Cs S) (hm : S.length ≤ 1000000) : KSl w v S :=
  own_gsl h.o h.size h.n (by omega) (fun i x c h1 h2 => by
    obtain ⟨vb, e, hb⟩ := h.e i x c h1 h2
    obtain ⟨h3, h4⟩ := h.x x (List.mem_of_getElem? h1)
    exact ⟨⟨vb, e, hb.b⟩, h3, h4⟩)
theorem same_of13 {w : World} {A A' : Nat} {L : List Blk} {vL vB vE uL uB uE : Value} {ss tt : List Lk} (hok : Gok L) (hl : L.length ≤ 65536) (h1 : Srtd L ss) (h2 : Srtd L tt) (s1 : Snn A w vL vB vE L ss) (s2 : Snn A' w uL uB uE L tt) :
    Calls Tryz.prog 22 #[.agg #[vL, vB, vE, .int .i64 (szB L : Nat)], .agg #[uL, uB, uE, .int .i64 (szB L : Nat)]] w fun e w' => e = .returned (.bool true) ∧ Below w.heap.size w w' := by
  have hst := srtd_uniq hok h1 h2
  subst hst
  have hn := h1.1.length_eq
  rw [List.length_map] at hn
  have a := s1.lists (by omega)
  have b := s2.lists (by omega)
  exact same13_any a.1 b.1 a.2.1 b.2.1 a.2.2 b.2.2
structure Mid (w wx : World) (Z pb sb g B r : Nat) (pc : Array Value) (L S : List Blk) (v : Value) (Cs : List (Array Value)) (ob : Nat) (oc : Array Value) (A wb : Nat) (vL vB vE : Value) (L0 : List Blk) (ss : List Lk) : Prop where
  h : Hlr w wx Z pb sb g B r pc L S v Cs
  o : wx.heap[ob]? = some (.cells oc 43 (0, 0))
  s : Wsn wx A wb vL vB vE L0 ss
  a : Z ≤ A ∧ A ≤ wb ∧ ob < A
section
variable {w wx wy : World} {Z pb sb g B r : Nat} {pc : Array Value} {L M S T : List Blk} {v : Value} {Cs : List (Array Value)} {ob : Nat} {oc : Array Value} {A wb : Nat} {vL vB vE : Value} {L0 : List Blk} {ss : List Lk}
theorem Mid.next (h : Mid w wx Z pb sb g B r pc L S v Cs ob oc A wb vL vB vE L0 ss) (hb : Below wx.heap.size wx wy) : Mid w wy Z pb sb g B r pc L S v Cs ob oc A wb vL vB vE L0 ss :=
  ⟨h.h.next hb, (hb.block _ (blk_lt h.o)).trans h.o, h.s.kp (Kp.of_below (S := fun _ => False) hb) (fun _ e => e.elim) (fun e => e.elim), h.a⟩
theorem Mid.of (h : Mid w wx Z pb sb g B r pc L S v Cs ob oc A wb vL vB vE L0 ss) (hs : Sto wy g B r M) (hk : Kp (fun q => q = g ∨ q = B) wx wy) (hM : Gok M) : Mid w wy Z pb sb g B r pc M S v Cs ob oc A wb vL vB vE L0 ss := by
  have h1 := h.h.zg
  have h2 := h.h.zB
  have h3 := h.a
  refine ⟨h.h.of hs hk hM, (hk.block _ (blk_lt h.o) (fun e => ?_)).trans h.o, h.s.kp hk (fun q e => by omega) (fun e => by omega), h.a⟩
  rcases e with e | e
  · exact ne_of_type h.o h.h.n.s.c (by decide) e
  · exact h.h.n.s.m.ne h.o e
theorem Mid.sure (h : Mid w wx Z pb sb g B r pc L S v Cs ob oc A wb vL vB vE L0 ss) (hP : SurP wx sb Z T wy) : ∃ v' Cs', Mid w wy Z pb sb g B r pc L T v' Cs' ob oc A wb vL vB vE L0 ss := by
  obtain ⟨v', Cs', hh⟩ := h.h.sure hP
  obtain ⟨_, _, _, _, hk, _⟩ := hP
  have h1 := h.h.zs
  have h3 := h.a
  exact ⟨v', Cs', hh, (hk.block _ (blk_lt h.o) (fun e => ne_of_type h.o h.h.cb (by decide) e)).trans h.o, h.s.kp hk (fun q e => by omega) (fun e => by omega), h.a⟩
theorem Mid.link (h : Mid w wx Z pb sb g B r pc L S v Cs ob oc A wb vL vB vE L0 ss) {lb : Nat} {cs : Array Value} (hl : wx.heap[lb]? = some (.cells cs 41 (0, 0))) (hw : w.heap.size ≤ lb) (hn : vL.ownBlock ≠ some lb) (hk : Kp (fun q => q = lb) wx wy) : Mid w wy Z pb sb g B r pc L S v Cs ob oc A wb vL vB vE L0 ss := by
  have hne : ∀ {cs' t q}, wx.heap[q]? = some (.cells cs' t (0, 0)) → t ≠ 41 → ¬ (q = lb) := fun hq ht e => ne_of_type hq hl ht e
  have hm : ¬ (B = lb) := fun e => h.h.n.s.m.ne hl e.symm
  have hb : Below w.heap.size w wy := h.h.n.b.trans (hk.below h.h.n.b.size (fun q e => by omega))
  obtain ⟨Bs, hBs⟩ := h.s.s.b
  refine ⟨⟨⟨⟨(hk.block _ (blk_lt h.h.n.s.c) (hne h.h.n.s.c (by decide))).trans h.h.n.s.c, h.h.n.s.m.kp hk hm, h.h.n.s.h, h.h.n.s.n⟩, hb, h.h.n.g, h.h.n.m⟩, h.h.ok, (hk.block _ (blk_lt h.h.p) (hne h.h.p (by decide))).trans h.h.p, (hk.block _ (blk_lt h.h.cb) (hne h.h.cb (by decide))).trans h.h.cb, h.h.sv.kp hk (fun q _ e => ⟨_, _, _, e ▸ hl, by decide, by decide⟩), Nat.le_trans h.h.z hk.size, h.h.zs, h.h.zg, h.h.zB, h.h.zw⟩, (hk.block _ (blk_lt h.o) (hne h.o (by decide))).trans h.o, ⟨(hk.block _ (blk_lt h.s.x) (hne h.s.x (by decide))).trans h.s.x, ⟨⟨hk.owns h.s.s.l.o (fun q hq e => hn (e ▸ hq)), h.s.s.l.b⟩, ⟨Bs, hBs.kp hk (fun q _ e => ⟨_, _, _, e ▸ hl, by decide, by decide⟩)⟩, h.s.s.e.kp hk (fun q _ e => ⟨_, _, _, e ▸ hl, by decide⟩)⟩, h.s.r⟩, h.a⟩
theorem Mid.own (h : Mid w wx Z pb sb g B r pc L S v Cs ob oc A wb vL vB vE L0 ss) : vL.ownBlock ≠ some wx.heap.size := fun e => by
  have := (h.s.s.l.o.lt _ e).2
  omega
end
theorem infoLk13 : (Tryz.prog.info? 41).map (·.size) = some 4 := by kernel_rfl
theorem one4 (a : Int) (b c : Int) (s : ByteArray) : (#[.int .i64 a, .int .u64 b, .int .u64 c, .string s] : Array Value).all (·.oneCell') = true := by
  simp [Value.oneCell']
theorem none_lkx : Lkx Lk.none := ⟨⟨by decide, by decide, by simp [Lk.none], by decide⟩, by decide⟩
theorem putr_lkx (r : Nat) (L : List Blk) (c : Nat) (b : List Nat) (hc : c < 18446744073709551616) : Lkx (putr13 r L c b).1.1 := by
  have hl : Lkx (lof c b).1 := ⟨lof_lkb b hc, by
    unfold lof
    split
    · show (-9223372036854775808 : Int) ≤ (1 : Int) ∧ (1 : Int) ≤ 9223372036854775807
      decide
    · exact none_lkx.2⟩
  unfold putr13
  split
  · split
    · exact none_lkx
    · split
      · exact hl
      · exact none_lkx
  · exact none_lkx
theorem holds_yes13 {l : Lk} {b : List Nat} (h1 : lok l) (h2 : dholds l.h l.d b = true) : (decide (lok l) && dholds l.h l.d b) = true := by
  rw [Bool.and_eq_true]
  exact ⟨decide_eq_true h1, h2⟩
theorem wisl_snoc (S : List Blk) {X : List Blk} {k : Nat} {x : Blk} (h : X[k]? = some x) : wisl S (X.take (k + 1)) = wis (wisl S (X.take k)) x.1 x.2 := by
  unfold wisl
  rw [List.take_add_one, h, List.foldl_append]
  rfl
end
end Go.Proofs.YtnkghcndaafmoaaGreatDoor

import Derived.Test.YtdejcapbggjjgaaGreatDoorJi
import Derived.Test.YtdejcapbggjjgaaGreatDoorJj
import Derived.Test.YtdejcapbggjjgaaGreatDoorJc
import Derived.Test.YtdejcapbggjjgaaGreatDoorJk
import Derived.Test.YtdejcapbggjjgaaGreatDoorJa
import Derived.Test.YtdejcapbggjjgaaGreatDoorJb
import Derived.Test.YtdejcapbggjjgaaGreatDoorJd
import Derived.Deep.QuietTactic
import Derived.BigQuiet
import Derived.Deep.RegionWith
import Derived.Laws.ResultCell
import Derived.Deep.LoopGhost
import Derived.Deep.DeepCutAuto
namespace Go.Proofs.YtdejcapbggjjgaaGreatDoor
section
open Go.RowKit Go
/-! ### The reference's reading: an item's faults -/
/-- A head, in cells. -/
def hcs (h : HR) : Array Value := #[.int .i64 (h.m : Nat), .int .i64 (h.i : Nat), .int .u64 (h.n : Nat), .int .i64 (h.u : Nat), .bool h.s]
/-- What is wanted, in cells. -/
def wcs8 (p q k : Nat) (ah : ByteArray) (fi : Bool) : Array Value := #[.int .i64 (p : Nat), .int .i64 (q : Nat), .int .i64 (k : Nat), .string ah, .bool fi]
theorem infoRH : (Tryz.prog.info? 99).map (·.size) = some 5 := by kernel_rfl
theorem infoRW : (Tryz.prog.info? 79).map (·.size) = some 5 := by kernel_rfl
set_option maxRecDepth 1000000 in
theorem exec_sub {o : Oper} {a : Act} {x y z : Operand} {w : World} {ad : Option Addr} {n cap k m : Nat} (ho : o.op = .slice 46 x (some y) (some z) none) (hx : a.eval x = .slice ad n cap) (hy : a.eval y = .int .i64 (k : Nat)) (hw : a.eval z = .int .i64 (m : Nat)) (hk : k ≤ m) (hm : m ≤ n) (hn : n ≤ cap) (hz : ad = none → cap = 0) : (execOp a.eval o).run Tryz.prog w = .ok (.value (dropS ad m cap k)) w := by
  unfold execOp
  simp only [ho, Option.map_some, Option.map_none, hx, hy, hw]
  clear ho
  have hki : (k : Int) ≤ (m : Int) := by omega
  have hkc : (m : Int) ≤ (cap : Int) := by omega
  have hkd : (k : Int) ≤ (cap : Int) := by omega
  cases ad with
  | none =>
    have hc0 := hz rfl
    have hn0 : n = 0 := by omega
    have hm0 : m = 0 := by omega
    have hk0 : k = 0 := by omega
    subst hk0 hm0 hn0 hc0
    unfold dropS
    go_simp
  | some p =>
    unfold dropS
    by_cases hkk : cap = k
    · have hnk : m = k := by omega
      subst hnk
      subst hkk
      simp only [if_true]
      go_simp
    · have hkl : (k : Int) < (cap : Int) := by omega
      simp only [if_neg hkk]
      go_simp
set_option maxRecDepth 1000000 in
theorem rknow8_any (w : World) (h : HR) : Calls Tryz.prog 89 #[.agg (hcs h)] w fun e w' => e = .returned (.bool (decide ((h.m = 2 ∨ h.m = 3) ∧ h.i ≠ 31))) ∧ Below w.heap.size w w' := by
  have HB := hide (below_alloc4 w (.cells (hcs h) 99))
  have c0 : (w.alloc (.cells (hcs h) 99)).cell? ⟨w.heap.size, 0, none⟩ = some (.int .i64 (h.m : Nat)) := blk_cell (j := 0) (heap_alloc_new w _) rfl
  have c1 : (w.alloc (.cells (hcs h) 99)).cell? ⟨w.heap.size, 1, none⟩ = some (.int .i64 (h.i : Nat)) := blk_cell (j := 1) (heap_alloc_new w _) rfl
  generalize hcs h = cs at *
  by_cases h2 : h.m = 2
  · have g2 : ((h.m : Int) == 2) = true := beq_iff_eq.2 (by omega)
    by_cases hi : h.i = 31
    · have gi : ((h.i : Int) != 31) = false := by simp; omega
      have e : decide ((h.m = 2 ∨ h.m = 3) ∧ h.i ≠ 31) = false := by simp [hi]
      rw [e]
      go_enter Tryz.func89, Tryz.ntmps89
      go_wp2_with fail
      go_ret
      exact ⟨rfl, HB.out⟩
    · have gi : ((h.i : Int) != 31) = true := by simp; omega
      have e : decide ((h.m = 2 ∨ h.m = 3) ∧ h.i ≠ 31) = true := by simp [hi, h2]
      rw [e]
      go_enter Tryz.func89, Tryz.ntmps89
      go_wp2_with fail
      go_ret
      exact ⟨rfl, HB.out⟩
  have g2 : ((h.m : Int) == 2) = false := beq_eq_false_iff_ne.2 (by omega)
  by_cases h3 : h.m = 3
  · have g3 : ((h.m : Int) == 3) = true := beq_iff_eq.2 (by omega)
    by_cases hi : h.i = 31
    · have gi : ((h.i : Int) != 31) = false := by simp; omega
      have e : decide ((h.m = 2 ∨ h.m = 3) ∧ h.i ≠ 31) = false := by simp [hi]
      rw [e]
      go_enter Tryz.func89, Tryz.ntmps89
      go_wp2_with fail
      go_ret
      exact ⟨rfl, HB.out⟩
    · have gi : ((h.i : Int) != 31) = true := by simp; omega
      have e : decide ((h.m = 2 ∨ h.m = 3) ∧ h.i ≠ 31) = true := by simp [hi, h3]
      rw [e]
      go_enter Tryz.func89, Tryz.ntmps89
      go_wp2_with fail
      go_ret
      exact ⟨rfl, HB.out⟩
  have g3 : ((h.m : Int) == 3) = false := beq_eq_false_iff_ne.2 (by omega)
  have e : decide ((h.m = 2 ∨ h.m = 3) ∧ h.i ≠ 31) = false := by simp [h2, h3]
  rw [e]
  go_enter Tryz.func89, Tryz.ntmps89
  go_wp2_with fail
  go_ret
  exact ⟨rfl, HB.out⟩
set_option maxRecDepth 1000000 in
theorem rsimp8_any (w : World) (h : HR) (hn : h.n < 18446744073709551616) : Calls Tryz.prog 99 #[.agg (hcs h)] w fun e w' => e = .returned (.bool (rknown h)) ∧ Below w.heap.size w w' := by
  have HB := hide (below_alloc4 w (.cells (hcs h) 99))
  have HN := hide hn
  have c1 : (w.alloc (.cells (hcs h) 99)).cell? ⟨w.heap.size, 1, none⟩ = some (.int .i64 (h.i : Nat)) := blk_cell (j := 1) (heap_alloc_new w _) rfl
  have c2 : (w.alloc (.cells (hcs h) 99)).cell? ⟨w.heap.size, 2, none⟩ = some (.int .u64 (h.n : Nat)) := blk_cell (j := 2) (heap_alloc_new w _) rfl
  generalize hcs h = cs at *
  clear hn
  by_cases h27 : h.i = 27
  · have g4 : ((h.i : Int) == 27) = true := beq_iff_eq.2 (by omega)
    have e : rknown h = finb h.n := by unfold rknown; simp [h27]
    rw [e]
    clear h27 e
    go_enter Tryz.func99, Tryz.ntmps99
    go_wp2_with fail
    refine (isFinite_any h.n HN.out _).mono ?_
    rintro e w2 ⟨rfl, hb2⟩
    have HB2 : Hid (Below w.heap.size w w2) := HB.out.trans (hb2.mono HB.out.size)
    clear hb2
    go_wp2_with fail
    go_ret
    exact ⟨rfl, HB2.out⟩
  have g4 : ((h.i : Int) == 27) = false := beq_eq_false_iff_ne.2 (by omega)
  by_cases h20 : 20 ≤ h.i
  · have g5 : (20 : Int) ≤ (h.i : Int) := by omega
    by_cases h22 : h.i ≤ 22
    · have g6 : (h.i : Int) ≤ 22 := by omega
      have e : rknown h = true := by unfold rknown; simp; omega
      rw [e]
      go_enter Tryz.func99, Tryz.ntmps99
      go_wp2_with fail
      go_ret
      exact ⟨rfl, HB.out⟩
    · have g6 : ¬ (h.i : Int) ≤ 22 := by omega
      have e : rknown h = false := by unfold rknown; simp; omega
      rw [e]
      go_enter Tryz.func99, Tryz.ntmps99
      go_wp2_with fail
      go_ret
      exact ⟨rfl, HB.out⟩
  · have g5 : ¬ (20 : Int) ≤ (h.i : Int) := by omega
    have e : rknown h = false := by unfold rknown; simp; omega
    rw [e]
    go_enter Tryz.func99, Tryz.ntmps99
    go_wp2_with fail
    go_ret
    exact ⟨rfl, HB.out⟩
end
section
open Go.RowKit Go
theorem wpList_loadG8 {ops : Array Oper} {rest : List Oper} {o : Oper} {a : Act} {Q : Exit → Act → World → Prop} {w : World} {T : TypeId} {p : Operand} (hgd : Region.wanted o (yielded ops a.tmps) = true) (ho : o.op = .load T p) (g : Nat) (cs : Array Value) (t : TypeId) {fs : Array Field}
    (hp : a.eval p = .pointer (some ⟨g, 0, none⟩)) (hg : w.heap[g]? = some (.cells cs t (0, 0))) (hu : Tryz.prog.underlying T = some (.struct fs)) (hi : (Tryz.prog.info? T).map (·.size) = some cs.size)
    (h : wpList Tryz.prog ops Q rest (a.put o.dst (.agg cs)) w) : wpList Tryz.prog ops Q (o :: rest) a w := by
  refine wpList_wanted hgd fun K hK => ?_
  unfold Oper.wp execOp
  have hr : (Instr.loadAt T (.pointer (some ⟨g, 0, none⟩))).run Tryz.prog w = .ok (.agg cs) w := by
    simp only [Instr.loadAt, Instr.sureAddr, Sem.run_bind, Sem.run_pure, Result.andThen]
    exact run_loadVar_row (P := Tryz.prog) w g t T cs (0, 0) _ hg hu rfl hi
  simp only [ho, Sem.run_bind, hp, hr, Result.andThen_ok]
  exact hK _ _ h
theorem row_mkE (w : World) (z c : Array Value) (t : TypeId) : Below w.heap.size w ((w.alloc (.cells z t)).setRow w.heap.size c) ∧ ((w.alloc (.cells z t)).setRow w.heap.size c).heap[w.heap.size]? = some (.cells c t (0, 0)) :=
  ⟨(below_alloc4 w _).trans ((row_kp _ _ _).below (below_alloc4 w _).size (fun q e => by omega)), row_same (heap_alloc_new w _)⟩
/-- Is it forbidden? -/
def rfbd (k : Nat) (h : HR) (y : List Nat) : Bool := decide (h.i = 31) || !rmay h y || !rfit k h y
/-- A head's box and a want's. -/
structure Fb8 (w wx : World) (hs ws : Array Value) : Prop where
  x : wx.heap[w.heap.size]? = some (.cells hs 99 (0, 0))
  y : wx.heap[w.heap.size + 1]? = some (.cells ws 79 (0, 0))
  b : Below w.heap.size w wx
theorem Fb8.next {w wx wy : World} {hs ws : Array Value} (h : Fb8 w wx hs ws) (hb : Below wx.heap.size wx wy) : Fb8 w wy hs ws := ⟨(hb.block _ (blk_lt h.x)).trans h.x, (hb.block _ (blk_lt h.y)).trans h.y, h.b.trans (hb.mono h.b.size)⟩
theorem Fb8.start (w : World) (hs ws : Array Value) : Fb8 w ((w.alloc (.cells hs 99)).alloc (.cells ws 79)) hs ws := by
  have h1 := heap_alloc_new w (.cells hs 99)
  have e1 : (w.alloc (.cells hs 99)).heap.size = w.heap.size + 1 := by simp
  have h2 := heap_alloc_new (w.alloc (.cells hs 99)) (.cells ws 79)
  rw [e1] at h2
  have b1 := below_alloc4 w (.cells hs 99)
  have b2 := below_alloc4 (w.alloc (.cells hs 99)) (.cells ws 79)
  exact ⟨blk_alloc _ h1, h2, b1.trans (b2.mono b1.size)⟩
set_option maxRecDepth 1000000 in
set_option maxHeartbeats 1000000 in
theorem rforb8_any (w : World) (h : HR) (vb : Value) (y : List Nat) (p q k : Nat) (ah : ByteArray) (fi : Bool) (hb : BSl w vb y) (hyl : y.length ≤ 140737488351232) (hn : h.n < 18446744073709551616) (hk : k = 0 ∨ k = 1 ∨ k = 2) :
    Calls Tryz.prog 90 #[.agg (hcs h), vb, .agg (wcs8 p q k ah fi)] w fun e w' => e = .returned (.bool (rfbd k h y)) ∧ Below w.heap.size w w' := by
  have HQ := hide (Fb8.start w (hcs h) (wcs8 p q k ah fi))
  have HB := hide hb
  have HN := hide hn
  have HYL := hide hyl
  obtain ⟨⟨a, cap, rfl, hn2, hc⟩, hmax, hby⟩ := hb
  have HC := hide hc
  have HN2 := hide hn2
  have HBY := hide hby
  have H0 : Hid ((hcs h)[0]? = some (.int .i64 (h.m : Nat))) := rfl
  have H1 : Hid ((hcs h)[1]? = some (.int .i64 (h.i : Nat))) := rfl
  have H2 : Hid ((hcs h)[2]? = some (.int .u64 (h.n : Nat))) := rfl
  have HZH : Hid ((hcs h).size = 5) := rfl
  have W2 : Hid ((wcs8 p q k ah fi)[2]? = some (.int .i64 (k : Nat))) := rfl
  clear hn hyl hc hn2 hby hmax
  have c0 := blk_cell (j := 0) HQ.out.x H0.out
  have c1 := blk_cell (j := 1) HQ.out.x H1.out
  have c2 := blk_cell (j := 2) HQ.out.x H2.out
  have d2 := blk_cell (j := 2) HQ.out.y W2.out
  have HB0 : Hid (BSl ((w.alloc (.cells (hcs h) 99)).alloc (.cells (wcs8 p q k ah fi) 79)) (.slice a y.length cap) y) := HB.out.move (keep_below HQ.out.b)
  have HHX := hide HQ.out.x
  by_cases hi : h.i = 31
  · as_aux_lemma =>
    have gi : ((h.i : Int) == 31) = true := beq_iff_eq.2 (by omega)
    have e : rfbd k h y = true := by unfold rfbd; simp [hi]
    rw [e]
    go_enter Tryz.func90, Tryz.ntmps90
    go_wp2_with fail
    go_ret
    exact ⟨rfl, HQ.out.b⟩
  have gi : ((h.i : Int) == 31) = false := beq_eq_false_iff_ne.2 (by omega)
  by_cases h3 : h.m = 3
  · have g3 : ((h.m : Int) == 3) = true := beq_iff_eq.2 (by omega)
    have g6 : ((h.m : Int) == 6) = false := beq_eq_false_iff_ne.2 (by omega)
    have g7 : ((h.m : Int) == 7) = false := beq_eq_false_iff_ne.2 (by omega)
    have g3n : ((h.m : Int) != 3) = false := by simp; omega
    have g2n : ((h.m : Int) != 2) = true := by simp; omega
    have hcv : Sem.run Tryz.prog (convert 46 9 (.slice a y.length cap)) ((w.alloc (.cells (hcs h) 99)).alloc (.cells (wcs8 p q k ah fi) 79)) = .ok (.string (nstr y)) ((w.alloc (.cells (hcs h) 99)).alloc (.cells (wcs8 p q k ah fi) 79)) := HB0.out.text
    have HSZ : Hid ((nstr y).size ≤ 9223372036854775807) := by have h1 := nstr_size HBY.out; have h2 := HYL.out; show _ ≤ _; omega
    have HBG := hide (bad_good (nstr y))
    by_cases hg : ugood (sl (nstr y)) = true
    · have hbd : badb (nstr y) = false := by rw [HBG.out, hg]; rfl
      rcases hk with rfl | rfl | rfl
      · as_aux_lemma =>
        have e : rfbd 0 h y = false := by unfold rfbd rmay rfit; simp [hi, h3, hbd]
        rw [e]
        clear e
        go_enter Tryz.func90, Tryz.ntmps90
        go_wp2_with fail
        refine (good6_any _ (nstr y) HSZ.out).mono ?_
        rintro e w3 ⟨rfl, hw3⟩
        subst hw3
        rw [hg]
        go_wp2_with fail
        go_ret
        exact ⟨rfl, HQ.out.b⟩
      · as_aux_lemma =>
        have e : rfbd 1 h y = false := by unfold rfbd rmay rfit; simp [hi, h3, hbd]
        rw [e]
        clear e
        go_enter Tryz.func90, Tryz.ntmps90
        go_wp2_with fail
        refine (good6_any _ (nstr y) HSZ.out).mono ?_
        rintro e w3 ⟨rfl, hw3⟩
        subst hw3
        rw [hg]
        go_wp2_with fail
        go_ret
        exact ⟨rfl, HQ.out.b⟩
      · as_aux_lemma =>
        have e : rfbd 2 h y = true := by unfold rfbd rmay rfit; simp [hi, h3, hbd]
        rw [e]
        clear e
        go_enter Tryz.func90, Tryz.ntmps90
        go_wp2_with fail
        refine (good6_any _ (nstr y) HSZ.out).mono ?_
        rintro e w3 ⟨rfl, hw3⟩
        subst hw3
        rw [hg]
        go_wp2_with fail
        go_ret
        exact ⟨rfl, HQ.out.b⟩
    · have hg2 : ugood (sl (nstr y)) = false := by simpa using hg
      have hbd : badb (nstr y) = true := by rw [HBG.out, hg2]; rfl
      as_aux_lemma =>
        have e : rfbd k h y = true := by unfold rfbd rmay rfit; simp [hi, h3, hbd]
        rw [e]
        clear e
        go_enter Tryz.func90, Tryz.ntmps90
        go_wp2_with fail
        refine (good6_any _ (nstr y) HSZ.out).mono ?_
        rintro e w3 ⟨rfl, hw3⟩
        subst hw3
        rw [hg2]
        go_wp2_with fail
        go_ret
        exact ⟨rfl, HQ.out.b⟩
  have g3 : ((h.m : Int) == 3) = false := beq_eq_false_iff_ne.2 (by omega)
  have g3n : ((h.m : Int) != 3) = true := by simp; omega
  by_cases h6 : h.m = 6
  · have g6 : ((h.m : Int) == 6) = true := beq_iff_eq.2 (by omega)
    have g7 : ((h.m : Int) == 7) = false := beq_eq_false_iff_ne.2 (by omega)
    have g2n : ((h.m : Int) != 2) = true := by simp; omega
    by_cases h42 : h.n = 42
    · have g42 : ((h.n : Int) != 42) = false := by simp; omega
      rcases hk with rfl | rfl | rfl
      · as_aux_lemma =>
        have e : rfbd 0 h y = false := by unfold rfbd rmay rfit; simp [hi, h6, h42]
        rw [e]
        clear e
        go_enter Tryz.func90, Tryz.ntmps90
        go_wp2_with fail
        go_ret
        exact ⟨rfl, HQ.out.b⟩
      · as_aux_lemma =>
        have e : rfbd 1 h y = true := by unfold rfbd rmay rfit; simp [hi, h6, h42]
        rw [e]
        clear e
        go_enter Tryz.func90, Tryz.ntmps90
        go_wp2_with fail
        go_ret
        exact ⟨rfl, HQ.out.b⟩
      · as_aux_lemma =>
        have e : rfbd 2 h y = true := by unfold rfbd rmay rfit; simp [hi, h6, h42]
        rw [e]
        clear e
        go_enter Tryz.func90, Tryz.ntmps90
        go_wp2_with fail
        go_ret
        exact ⟨rfl, HQ.out.b⟩
    · as_aux_lemma =>
      have g42 : ((h.n : Int) != 42) = true := by simp; omega
      have e : rfbd k h y = true := by unfold rfbd rmay rfit; simp [hi, h6, h42]
      rw [e]
      clear e
      go_enter Tryz.func90, Tryz.ntmps90
      go_wp2_with fail
      go_ret
      exact ⟨rfl, HQ.out.b⟩
  have g6 : ((h.m : Int) == 6) = false := beq_eq_false_iff_ne.2 (by omega)
  by_cases h7 : h.m = 7
  · have g7 : ((h.m : Int) == 7) = true := beq_iff_eq.2 (by omega)
    have g2n : ((h.m : Int) != 2) = true := by simp; omega
    have HCL : Hid (∀ wx, Calls Tryz.prog 99 #[.agg (hcs h)] wx fun e w' => e = .returned (.bool (rknown h)) ∧ Below wx.heap.size wx w') := fun wx => rsimp8_any wx h HN.out
    by_cases hkn : rknown h = true
    · rcases hk with rfl | rfl | rfl
      · as_aux_lemma =>
        have e : rfbd 0 h y = false := by unfold rfbd rmay rfit; simp [hi, h7, hkn]
        rw [e]
        clear e
        go_enter Tryz.func90, Tryz.ntmps90
        go_wp2_with (refine wpList_loadG8 rfl rfl w.heap.size (hcs h) 99 rfl HHX.out Tryz.underlying99 infoRH ?_)
        refine (HCL.out _).mono ?_
        rintro e w3 ⟨rfl, hb3⟩
        have HQ3 := hide (HQ.out.next hb3)
        have c0' := blk_cell (j := 0) HQ3.out.x H0.out
        have d2' := blk_cell (j := 2) HQ3.out.y W2.out
        clear hb3
        rw [hkn]
        go_wp2_with fail
        go_ret
        exact ⟨rfl, HQ3.out.b⟩
      · as_aux_lemma =>
        have e : rfbd 1 h y = true := by unfold rfbd rmay rfit; simp [hi, h7, hkn]
        rw [e]
        clear e
        go_enter Tryz.func90, Tryz.ntmps90
        go_wp2_with (refine wpList_loadG8 rfl rfl w.heap.size (hcs h) 99 rfl HHX.out Tryz.underlying99 infoRH ?_)
        refine (HCL.out _).mono ?_
        rintro e w3 ⟨rfl, hb3⟩
        have HQ3 := hide (HQ.out.next hb3)
        have c0' := blk_cell (j := 0) HQ3.out.x H0.out
        have d2' := blk_cell (j := 2) HQ3.out.y W2.out
        clear hb3
        rw [hkn]
        go_wp2_with fail
        go_ret
        exact ⟨rfl, HQ3.out.b⟩
      · as_aux_lemma =>
        have e : rfbd 2 h y = true := by unfold rfbd rmay rfit; simp [hi, h7, hkn]
        rw [e]
        clear e
        go_enter Tryz.func90, Tryz.ntmps90
        go_wp2_with (refine wpList_loadG8 rfl rfl w.heap.size (hcs h) 99 rfl HHX.out Tryz.underlying99 infoRH ?_)
        refine (HCL.out _).mono ?_
        rintro e w3 ⟨rfl, hb3⟩
        have HQ3 := hide (HQ.out.next hb3)
        have c0' := blk_cell (j := 0) HQ3.out.x H0.out
        have d2' := blk_cell (j := 2) HQ3.out.y W2.out
        clear hb3
        rw [hkn]
        go_wp2_with fail
        go_ret
        exact ⟨rfl, HQ3.out.b⟩
    · as_aux_lemma =>
      replace hkn : rknown h = false := by simpa using hkn
      have e : rfbd k h y = true := by unfold rfbd rmay rfit; simp [hi, h7, hkn]
      rw [e]
      clear e
      go_enter Tryz.func90, Tryz.ntmps90
      go_wp2_with (refine wpList_loadG8 rfl rfl w.heap.size (hcs h) 99 rfl HHX.out Tryz.underlying99 infoRH ?_)
      refine (HCL.out _).mono ?_
      rintro e w3 ⟨rfl, hb3⟩
      have HQ3 := hide (HQ.out.next hb3)
      have c0' := blk_cell (j := 0) HQ3.out.x H0.out
      have d2' := blk_cell (j := 2) HQ3.out.y W2.out
      clear hb3
      rw [hkn]
      go_wp2_with fail
      go_ret
      exact ⟨rfl, HQ3.out.b⟩
  have g7 : ((h.m : Int) == 7) = false := beq_eq_false_iff_ne.2 (by omega)
  by_cases h2 : h.m = 2
  · have g2n : ((h.m : Int) != 2) = false := by simp; omega
    rcases hk with rfl | rfl | rfl
    · as_aux_lemma =>
      have e : rfbd 0 h y = false := by unfold rfbd rmay rfit; simp [hi, h2]
      rw [e]
      clear e
      go_enter Tryz.func90, Tryz.ntmps90
      go_wp2_with fail
      go_ret
      exact ⟨rfl, HQ.out.b⟩
    · as_aux_lemma =>
      have e : rfbd 1 h y = true := by unfold rfbd rmay rfit; simp [hi, h2]
      rw [e]
      clear e
      go_enter Tryz.func90, Tryz.ntmps90
      go_wp2_with fail
      go_ret
      exact ⟨rfl, HQ.out.b⟩
    · match y with
      | [] => as_aux_lemma =>
          have e : rfbd 2 h [] = true := by unfold rfbd rmay rfit; simp [hi, h2]
          rw [e]
          clear e
          go_enter Tryz.func90, Tryz.ntmps90
          go_wp2_with fail
          go_ret
          exact ⟨rfl, HQ.out.b⟩
      | x :: r =>
        have hl0 : (((x :: r).length : Nat) : Int) ≠ 0 := by simp; omega
        have gl : ((((x :: r).length : Nat) : Int) == 0) = false := beq_eq_false_iff_ne.2 hl0
        have gz : (0 : Int) < (((x :: r).length : Nat) : Int) := by simp
        obtain ⟨b, off, rfl, hcc⟩ := HC.out.resolve_left (fun h => by cases h)
        have cx := keep_below HQ.out.b _ _ (hcc 0 (by simp))
        have hx0 : (x :: r).getD 0 0 = x := rfl
        rw [hx0] at cx
        rw [Nat.add_zero] at cx
        generalize hln : (x :: r).length = ln at *
        have HLN := hide hln
        clear hln hcc hx0 hl0
        by_cases hx : x = 0
        · as_aux_lemma =>
          subst hx
          have e : rfbd 2 h (0 :: r) = ((((lparse r).2 : Nat) : Int) != 0) := by
            unfold rfbd rmay rfit
            rw [Bool.eq_iff_iff]
            simp [hi, h2]
          rw [e]
          clear e
          have HD : Hid (BSl ((w.alloc (.cells (hcs h) 99)).alloc (.cells (wcs8 p q 2 ah fi) 79)) (dropS (some ⟨b, off, none⟩) ln cap 1) r) := by
            have h1 := bsl_drop8 (k := 1) HB0.out (by simp)
            exact h1
          have HK1 : Hid (1 ≤ ln) := by have := HLN.out; simp at this; show _ ≤ _; omega
          have HK2 : Hid (ln ≤ cap) := by have h1 := HN2.out.1; exact h1
          go_enter Tryz.func90, Tryz.ntmps90
          go_wp2_with (refine wpList_exec rfl (exec_drop (k := 1) rfl rfl rfl HK1.out HK2.out (fun e => by cases e)) ?_)
          refine (lParse_any _ _ r HD.out).mono ?_
          rintro e w3 ⟨rfl, hb3⟩
          have HQ3 := hide (HQ.out.next hb3)
          have HNL := hide (heap_alloc_new w3 (.cells zlk 57))
          have hmk := row_mkE w3 zlk (lcs (lparse r).1) 57
          have HQ4 := hide (HQ3.out.next hmk.1)
          clear hb3 hmk
          simp only [lkv_lcs]
          go_wp2_with (refine wpList_storeLk rfl rfl w3.heap.size zlk (lparse r).1 rfl rfl rfl HNL.out ?_)
          go_ret
          exact ⟨rfl, HQ4.out.b⟩
        · as_aux_lemma =>
          have gx : ((x : Int) != 0) = true := by simp; omega
          have e : rfbd 2 h (x :: r) = true := by unfold rfbd rmay rfit; simp [hi, h2, hx]
          rw [e]
          clear e
          go_enter Tryz.func90, Tryz.ntmps90
          go_wp2_with fail
          go_ret
          exact ⟨rfl, HQ.out.b⟩
  have g2n : ((h.m : Int) != 2) = true := by simp; omega
  rcases hk with rfl | rfl | rfl
  · as_aux_lemma =>
    have e : rfbd 0 h y = false := by unfold rfbd rmay rfit; simp [hi, h3, h6, h7]
    rw [e]
    clear e
    go_enter Tryz.func90, Tryz.ntmps90
    go_wp2_with fail
    go_ret
    exact ⟨rfl, HQ.out.b⟩
  · as_aux_lemma =>
    have e : rfbd 1 h y = true := by unfold rfbd rmay rfit; simp [hi, h3]
    rw [e]
    clear e
    go_enter Tryz.func90, Tryz.ntmps90
    go_wp2_with fail
    go_ret
    exact ⟨rfl, HQ.out.b⟩
  · as_aux_lemma =>
    have e : rfbd 2 h y = true := by unfold rfbd rmay rfit; simp [hi, h2]
    rw [e]
    clear e
    go_enter Tryz.func90, Tryz.ntmps90
    go_wp2_with fail
    go_ret
    exact ⟨rfl, HQ.out.b⟩
end
section
open Go.RowKit
set_option maxRecDepth 1000000 in
theorem shortest_any (n : Nat) (w : World) (hn : n < 18446744073709551616) :
    Calls Tryz.prog 115 #[.int .u64 (n : Nat)] w fun e w' => e = .returned (.int .i64 (hinfo n : Nat)) ∧ w' = w := by
  rcases hinfo_cases n with ⟨h, e⟩ | ⟨h1, h, e⟩ | ⟨h1, h, e⟩ | ⟨h1, h, e⟩ | ⟨h1, e⟩
  · rw [e]
    have g1 : (n : Int) < 24 := by omega
    go_enter Tryz.func115, Tryz.ntmps115
    go_wp2
    go_ret
    exact ⟨rfl, rfl⟩
  · rw [e]
    have g1 : ¬ (n : Int) < 24 := by omega
    have g2 : (n : Int) ≤ 255 := by omega
    go_enter Tryz.func115, Tryz.ntmps115
    go_wp2
    go_ret
    exact ⟨rfl, rfl⟩
  · rw [e]
    have g1 : ¬ (n : Int) < 24 := by omega
    have g2 : ¬ (n : Int) ≤ 255 := by omega
    have g3 : (n : Int) ≤ 65535 := by omega
    go_enter Tryz.func115, Tryz.ntmps115
    go_wp2
    go_ret
    exact ⟨rfl, rfl⟩
  · rw [e]
    have g1 : ¬ (n : Int) < 24 := by omega
    have g2 : ¬ (n : Int) ≤ 255 := by omega
    have g3 : ¬ (n : Int) ≤ 65535 := by omega
    have g4 : (n : Int) ≤ 4294967295 := by omega
    go_enter Tryz.func115, Tryz.ntmps115
    go_wp2
    go_ret
    exact ⟨rfl, rfl⟩
  · rw [e]
    have g1 : ¬ (n : Int) < 24 := by omega
    have g2 : ¬ (n : Int) ≤ 255 := by omega
    have g3 : ¬ (n : Int) ≤ 65535 := by omega
    have g4 : ¬ (n : Int) ≤ 4294967295 := by omega
    go_enter Tryz.func115, Tryz.ntmps115
    go_wp2
    go_ret
    exact ⟨rfl, rfl⟩

set_option maxRecDepth 1000000 in
theorem behind_any (i : Nat) (w : World) (hi : i < 32) :
    Calls Tryz.prog 105 #[.int .i64 (i : Nat)] w fun e w' => e = .returned (.int .i64 (hwide i : Nat)) ∧ w' = w := by
  by_cases h27 : i = 27
  · subst h27
    go_enter Tryz.func105, Tryz.ntmps105
    go_wp2
    go_ret
    exact ⟨rfl, rfl⟩
  · by_cases h26 : i = 26
    · subst h26
      go_enter Tryz.func105, Tryz.ntmps105
      go_wp2
      go_ret
      exact ⟨rfl, rfl⟩
    · by_cases h25 : i = 25
      · subst h25
        go_enter Tryz.func105, Tryz.ntmps105
        go_wp2
        go_ret
        exact ⟨rfl, rfl⟩
      · by_cases h24 : i = 24
        · subst h24
          go_enter Tryz.func105, Tryz.ntmps105
          go_wp2
          go_ret
          exact ⟨rfl, rfl⟩
        · have e : hwide i = 0 := by unfold hwide; rw [if_neg h24, if_neg h25, if_neg h26, if_neg h27]
          rw [e]
          have g27 : ((i : Int) == 27) = false := beq_eq_false_iff_ne.2 (by omega)
          have g26 : ((i : Int) == 26) = false := beq_eq_false_iff_ne.2 (by omega)
          have g25 : ((i : Int) == 25) = false := beq_eq_false_iff_ne.2 (by omega)
          have g24 : ((i : Int) == 24) = false := beq_eq_false_iff_ne.2 (by omega)
          go_enter Tryz.func105, Tryz.ntmps105
          go_wp2
          go_ret
          exact ⟨rfl, rfl⟩

/-- There are heads of this major and info. -/
def hmay (m i : Nat) : Prop := ¬ 27 < i ∨ (i = 31 ∧ m ≠ 0 ∧ m ≠ 1 ∧ m ≠ 6)
instance (m i : Nat) : Decidable (hmay m i) := by unfold hmay; infer_instance

set_option maxRecDepth 1000000 in
theorem mayBe_any (m i : Nat) (w : World) (hm : m ≤ 7) (hi : i ≤ 31) :
    Calls Tryz.prog 104 #[.int .i64 (m : Nat), .int .i64 (i : Nat)] w fun e w' => e = .returned (.bool (decide (hmay m i))) ∧ w' = w := by
  by_cases h27 : i ≤ 27
  · rw [decide_eq_true (show hmay m i from .inl (by omega))]
    have g1 : (i : Int) ≤ 27 := by omega
    go_enter Tryz.func104, Tryz.ntmps104
    go_wp2
    go_ret
    exact ⟨rfl, rfl⟩
  · have g1 : ¬ (i : Int) ≤ 27 := by omega
    by_cases h31 : i < 31
    · rw [decide_eq_false (show ¬ hmay m i by unfold hmay; omega)]
      have g2 : (i : Int) < 31 := by omega
      go_enter Tryz.func104, Tryz.ntmps104
      go_wp2
      go_ret
      exact ⟨rfl, rfl⟩
    · have g2 : ¬ (i : Int) < 31 := by omega
      by_cases h0 : m = 0
      · rw [decide_eq_false (show ¬ hmay m i by unfold hmay; omega)]
        subst h0
        go_enter Tryz.func104, Tryz.ntmps104
        go_wp2
        go_ret
        exact ⟨rfl, rfl⟩
      · have q0 : ((m : Int) != 0) = true := bne_iff_ne.2 (by omega)
        by_cases h1 : m = 1
        · rw [decide_eq_false (show ¬ hmay m i by unfold hmay; omega)]
          subst h1
          go_enter Tryz.func104, Tryz.ntmps104
          go_wp2
          go_ret
          exact ⟨rfl, rfl⟩
        · have q1 : ((m : Int) != 1) = true := bne_iff_ne.2 (by omega)
          by_cases h6 : m = 6
          · rw [decide_eq_false (show ¬ hmay m i by unfold hmay; omega)]
            subst h6
            go_enter Tryz.func104, Tryz.ntmps104
            go_wp2
            go_ret
            exact ⟨rfl, rfl⟩
          · have q6 : ((m : Int) != 6) = true := bne_iff_ne.2 (by omega)
            rw [decide_eq_true (show hmay m i by unfold hmay; omega)]
            go_enter Tryz.func104, Tryz.ntmps104
            go_wp2
            go_ret
            exact ⟨rfl, rfl⟩

set_option maxRecDepth 1000000 in
theorem size_any (n : Nat) (w : World) (hn : n < 18446744073709551616) :
    Calls Tryz.prog 107 #[.int .u64 (n : Nat)] w fun e w' => e = .returned (.int .i64 (hsize n : Nat)) ∧ w' = w := by
  have HN := hide hn
  clear hn
  go_enter Tryz.func107, Tryz.ntmps107
  go_wp2_with fail
  refine (shortest_any n _ HN.out).mono ?_
  rintro e w1 ⟨rfl, rfl⟩
  go_wp2_with fail
  refine (behind_any _ _ (by have := hinfo_lt n; omega)).mono ?_
  rintro e w1 ⟨rfl, rfl⟩
  have h8 := hwide_le (hinfo n)
  have HS : Hid (((hsize n : Nat) : Int) = 1 + (hwide (hinfo n) : Int)) := by show _ = _; unfold hsize; omega
  generalize hwide (hinfo n) = W at *
  go_wp2
  go_ret
  exact ⟨by rw [HS.out]; rfl, rfl⟩
end
section
open Go.RowKit
theorem u64_shor (N y : Nat) (hN : N < 72057594037927936) (hy : y < 256) : bits .or .u64 ((N : Int) * 256) (y : Int) = ((256 * N + y : Nat) : Int) := by
  have e : (N : Int) * 256 = ((2 ^ 8 * N : Nat) : Int) := by omega
  rw [e, u64_or_nat _ _ (by omega) (by omega), ← Nat.two_pow_add_eq_or_of_lt (i := 8) hy]
set_option maxRecDepth 1000000 in
set_option maxHeartbeats 400000 in
theorem argument_any (i : Nat) (w : World) (v : Value) (xs : List Nat) (hi : i ≤ 31) (hsl : BSl w v xs) (h8 : xs.length ≤ 8) :
    Calls Tryz.prog 106 #[.int .i64 (i : Nat), v] w fun e w' => e = .returned (.int .u64 (if i < 24 then i else bnum 0 xs : Nat)) ∧ w' = w := by
  by_cases h24 : i < 24
  · rw [if_pos h24]
    have g : (i : Int) < 24 := by omega
    obtain ⟨⟨a, cap, rfl, hn, hc⟩, hmax, hb⟩ := hsl
    clear hn hc hb
    go_enter Tryz.func106, Tryz.ntmps106
    go_wp2
    go_ret
    exact ⟨rfl, rfl⟩
  · rw [if_neg h24]
    have g : ¬ (i : Int) < 24 := by omega
    have HS := hide hsl
    obtain ⟨⟨a, cap, rfl, hn, hc⟩, hmax, hb⟩ := hsl
    clear hn hc hb
    go_enter Tryz.func106, Tryz.ntmps106
    go_wp2
    go_loopw [5, 14] (fun nn k wr => ∃ j : Nat, j ≤ xs.length ∧ k = .int .i64 (j : Nat) ∧ nn = .int .u64 (bnum 0 (xs.take j) : Nat) ∧ wr = w) (fun _ k _ => (xs.length : Int).toNat - (intOf k).toNat)
    case atStart => exact ⟨0, Nat.zero_le _, rfl, rfl, rfl⟩
    case round =>
      obtain ⟨j, hj, rfl, rfl, rfl⟩ := hrel
      by_cases hlt : j < xs.length
      · have hlt' : (j : Int) < (xs.length : Int) := by omega
        obtain ⟨⟨a', cap', hv, hn, hc⟩, hm2, hb⟩ := HS.out
        injection hv with hv1 hv2 hv3
        subst hv1
        subst hv3
        rcases hc with hc | ⟨b, off, rfl, hc⟩
        · subst hc; simp at hlt
        have c := hc j hlt
        have hy : xs.getD j 0 < 256 := getD_lt hb j
        have hN : bnum 0 (xs.take j) < 72057594037927936 := by
          have h1 := bnum_lt (xs.take j) 0 (fun z hz => hb z (List.mem_of_mem_take hz))
          have h2 : (xs.take j).length ≤ 7 := by rw [List.length_take]; omega
          have h3 : 256 ^ (xs.take j).length ≤ 256 ^ 7 := Nat.pow_le_pow_right (by decide) h2
          simp at h1 h3; omega
        have HST : Hid (bnum 0 (xs.take (j + 1)) = 256 * bnum 0 (xs.take j) + xs.getD j 0) := by
          show _ = _
          rw [take_snoc xs j hlt, bnum_snoc]
        have HU := hide (u64_shor _ _ hN hy)
        clear hc hb hn hm2 HS
        generalize bnum 0 (xs.take j) = N at *
        generalize xs.getD j 0 = y at *
        go_wp2
        go_roundw
        case rel => exact ⟨j + 1, by omega, by go_num, by rw [HST.out, ← HU.out], trivial⟩
        case measure => simp [intOf]; omega
      · have hlt' : ¬ (j : Int) < (xs.length : Int) := by omega
        have e : xs.take j = xs := List.take_of_length_le (by omega)
        rw [e]
        go_wp2
        go_ret
        exact ⟨rfl, rfl⟩
end
section
open Go.RowKit
theorem below_set1 {A : Nat} {w wc : World} (h : Below A w wc) (b j : Nat) (hb : A ≤ b) (v : Value) : Below A w (wc.setCell ⟨b, j, none⟩ v) := h.setCell hb v

/-- The block of a head in memory. -/
def PH (w : World) (P : Nat) (m i n u : Nat) (s : Bool) : Prop := w.heap[P]? = some (.cells #[.int .i64 (m : Nat), .int .i64 (i : Nat), .int .u64 (n : Nat), .int .i64 (u : Nat), .bool s] 87 (0, 0))

theorem ph_used {w : World} {P m i n s : Nat} (h : PH w P m i n 0 false) : PH (w.setCell ⟨P, 3, none⟩ (.int .i64 (1 + (s : Int)))) P m i n (1 + s) false := by
  have h2 := blk_set 3 (.int .i64 (1 + (s : Int))) h
  have e : (1 + (s : Int)) = ((1 + s : Nat) : Int) := by omega
  rw [e] at h2 ⊢
  exact h2
theorem ph_arg {w : World} {b off L cap W P x : Nat} {r : List Nat} (h : BSl w (.slice (some ⟨b, off, none⟩) L cap) (x :: r)) (hl : ¬ r.length < W) (hb : ¬ b = P) (u : Value) : BSl (w.setCell ⟨P, 3, none⟩ u) (.slice (some ⟨b, off + 1, none⟩) W (cap - 1)) (r.take W) := by
  obtain ⟨⟨a, cap', hv, hn, hc⟩, hmax, hby⟩ := h
  injection hv with h1 h2 h3
  subst h1
  subst h3
  have hlen : (x :: r).length = r.length + 1 := rfl
  have ht : (r.take W).length = W := by rw [List.length_take]; omega
  refine ⟨⟨_, cap - 1, by rw [ht], ⟨by rw [ht]; omega, fun h => by cases h⟩, .inr ⟨b, off + 1, rfl, fun j hj => ?_⟩⟩, by rw [ht]; omega, fun z hz => hby z (List.mem_cons_of_mem _ (List.mem_of_mem_take hz))⟩
  rcases hc with hc | ⟨b', off', e, hc⟩
  · cases hc
  · injection e with e
    injection e with e1 e2 e3
    subst e1
    subst e2
    have hq := hc (j + 1) (by omega)
    have e : off + (j + 1) = off + 1 + j := by omega
    rw [e] at hq
    have hg : (x :: r).getD (j + 1) 0 = (r.take W).getD j 0 := by
      simp only [List.getD_eq_getElem?_getD, List.getElem?_cons_succ]
      rw [List.getElem?_take_of_lt (by omega)]
    rw [hg] at hq
    refine (World.cell?_of_block ?_).trans hq
    exact Below.heap_setCell w ⟨P, 3, none⟩ u b hb

def harg (i : Nat) (r : List Nat) : Nat := if i < 24 then i else bnum 0 (r.take (hwide i))
theorem harg_lt (i : Nat) (r : List Nat) (hi : i ≤ 31) (hb : ∀ z ∈ r, z < 256) : harg i r < 18446744073709551616 := by
  unfold harg
  split
  · omega
  · have h1 := bnum_lt (r.take (hwide i)) 0 (fun z hz => hb z (List.mem_of_mem_take hz))
    have h2 : (r.take (hwide i)).length ≤ 8 := by rw [List.length_take]; have := hwide_le i; omega
    have h3 : 256 ^ (r.take (hwide i)).length ≤ 256 ^ 8 := Nat.pow_le_pow_right (by decide) h2
    simp at h1 h3; omega
theorem hsize_small {n : Nat} (h : n < 24) : hsize n = 1 := by
  have := hinfo_cases n
  have e : hinfo n = n := by omega
  unfold hsize
  rw [e, hwide_small h]
theorem hwide31 : hwide 31 = 0 := rfl
theorem hrd_not {x : Nat} {r : List Nat} (h : ¬ hmay (x / 32) (x % 32)) : hrd (x :: r) = .bad 21 := by
  unfold hmay at h
  exact hrd_info (by omega) (by omega)
theorem hrd_few {x : Nat} {r : List Nat} (h : hmay (x / 32) (x % 32)) (hl : r.length < hwide (x % 32)) : hrd (x :: r) = .bad 20 := by
  unfold hmay at h
  have h24 : 24 ≤ x % 32 := by
    by_cases h' : x % 32 < 24
    · rw [hwide_small h'] at hl; omega
    · omega
  have h27 : x % 32 ≤ 27 := by
    by_cases h' : x % 32 = 31
    · rw [h', hwide31] at hl; omega
    · omega
  exact hrd_short h24 h27 hl
theorem hrd_two {x : Nat} {r : List Nat} (hl : ¬ r.length < hwide (x % 32)) (hm : x / 32 = 7) (hi : x % 32 = 24) (hn : harg (x % 32) r < 32) : hrd (x :: r) = .bad 21 := by
  unfold harg at hn
  rw [if_neg (by omega)] at hn
  exact hrd_low hi hl hm hn
theorem hrd_all {x : Nat} {r : List Nat} (h : hmay (x / 32) (x % 32)) (hl : ¬ r.length < hwide (x % 32)) (hn : ¬ (x / 32 = 7 ∧ x % 32 = 24 ∧ harg (x % 32) r < 32)) :
    hrd (x :: r) = ⟨x / 32, x % 32, harg (x % 32) r, 1 + hwide (x % 32), decide (x % 32 = 31) || (decide (x / 32 = 7) || decide (1 + hwide (x % 32) = hsize (harg (x % 32) r))), 0⟩ := by
  unfold hmay at h
  by_cases h24 : x % 32 < 24
  · rw [hrd_small h24]
    have e : harg (x % 32) r = x % 32 := by unfold harg; rw [if_pos h24]
    rw [e, hwide_small h24, hsize_small h24]
    simp
  · by_cases h31 : x % 32 = 31
    · rw [hrd_end h31 (by omega)]
      have e : harg (x % 32) r = 0 := by unfold harg; rw [if_neg h24, h31, hwide31]; rfl
      rw [e, h31, hwide31]
      simp
    · have e : harg (x % 32) r = bnum 0 (r.take (hwide (x % 32))) := by unfold harg; rw [if_neg h24]
      rw [e] at hn ⊢
      rw [hrd_long (by omega) (by omega) hl hn, decide_eq_false h31, Bool.false_or]
end
end Go.Proofs.YtdejcapbggjjgaaGreatDoor

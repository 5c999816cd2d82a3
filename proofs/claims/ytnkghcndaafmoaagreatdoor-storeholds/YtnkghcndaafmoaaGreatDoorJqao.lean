import Derived.Deep.CutBlock
import Derived.Test.YtnkghcndaafmoaaGreatDoorJqan
namespace Go.Proofs.YtnkghcndaafmoaaGreatDoor
section
open Go.RowKit Go
theorem and63 (n : Int) : bits .and .i64 n 63 = n % 64 := by
  have h63 : (BitVec.ofInt 64 63).toNat = 2 ^ 6 - 1 := by decide
  have key : (BitVec.ofInt 64 n &&& BitVec.ofInt 64 63).toNat = (n % ((2 ^ 64 : Nat) : Int)).toNat % 2 ^ 6 := by
    rw [BitVec.toNat_and, BitVec.toNat_ofInt, h63, Nat.and_two_pow_sub_one_eq_mod]
  show IntKind.i64.wrap ((BitVec.ofInt 64 n &&& BitVec.ofInt 64 63).toNat : Nat) = n % 64
  rw [key, IntKind.wrap_i64]
  omega
theorem room63 (n : Int) : ∃ k : Nat, k < 64 ∧ IntKind.i64.wrap (1 + (IntKind.i64.wrap (bits .and .i64 n 63 + 63)).tmod 64) = ((k + 1 : Nat) : Int) := by
  rw [and63]
  have h1 : 0 ≤ n % 64 ∧ n % 64 < 64 := by omega
  have e1 : IntKind.i64.wrap (n % 64 + 63) = n % 64 + 63 := by rw [IntKind.wrap_i64]; omega
  rw [e1, Int.tmod_eq_emod_of_nonneg (by omega)]
  refine ⟨((n % 64 + 63) % 64).toNat, by omega, ?_⟩
  rw [IntKind.wrap_i64]
  omega
theorem infoOp13 : (Tryz.prog.info? 43).map (·.size) = some 10 := by kernel_rfl
theorem aggOp13 (w : World) : (isAgg 43).run Tryz.prog w = .ok true w := by
  unfold isAgg
  rw [Sem.run_bind, run_underlying Tryz.underlying43 w]
  simp
theorem aggSn13 (w : World) : (isAgg 49).run Tryz.prog w = .ok true w := by
  unfold isAgg
  rw [Sem.run_bind, run_underlying Tryz.underlying49 w]
  simp
theorem room63w (n : Int) : ∃ k : Nat, k < 64 ∧ wrap64 (1 + (wrap64 (bits .and .i64 n 63 + 63)).tmod 64) = ((k + 1 : Nat) : Int) := by
  obtain ⟨k, h1, h2⟩ := room63 n
  exact ⟨k, h1, by rw [← IntWalk.i64_left, ← IntWalk.i64_left]; exact h2⟩
theorem OSl.form_at {w : World} {a : Option Addr} {n cap : Nat} {os : List Opr} (h : OSl w (.slice a n cap) os) {i : Nat} {o : Opr} (ho : os[i]? = some o) : ∃ b off vb vX, a = some ⟨b, off, none⟩ ∧ BSl w vb o.b ∧ KSl w vX o.X ∧ (Lkx o.l ∧ o.c < 18446744073709551616 ∧ o.b.length ≤ 140737488351232) ∧ ∀ k u, (opc o vb vX)[k]? = some u → w.cell? ⟨b, off + i * 10 + k, none⟩ = some u := by
  obtain ⟨⟨a', cap', e, _, hc⟩, _⟩ := h
  injection e with e1 _ _
  subst e1
  rcases hc with hc | ⟨b, off, ha, hc⟩
  · rw [hc] at ho
    cases ho
  · obtain ⟨c, ⟨⟨vb, vX, rfl, h1, h2⟩, h3, h4, h5, _⟩, h6⟩ := hc i o ho
    exact ⟨b, off, vb, vX, ha, h1, h2, ⟨h3, h4, h5⟩, h6⟩
set_option maxRecDepth 1000000 in
set_option maxHeartbeats 100000000 in
theorem sholds_any (w : World) (hcb : Cb w) (a0 a1 : Int) (vO : Value) (os : List Opr) (hO : OSl w vO os) : Calls Tryz.prog 5 #[.agg #[.int .i64 a0, .int .i64 a1, vO]] w fun e w' => e = .returned (.bool true) ∧ Below w.heap.size w w' := by
  obtain ⟨⟨aO, cO, rfl, -, hco⟩, hmo⟩ := id hO
  have HCB := hide hcb
  have HO := hide hO
  have HMO := hide hmo
  clear hcb hO hco hmo
  go_enter Tryz.func5, Tryz.ntmps5
  have HB0 : Hid (Below w.heap.size w (w.alloc (.cells #[.int .i64 a0, .int .i64 a1, .slice aO os.length cO] 25))) := below_alloc4 w _
  have HP0 : Hid ((w.alloc (.cells #[.int .i64 a0, .int .i64 a1, .slice aO os.length cO] 25)).heap[w.heap.size]? = some (.cells #[.int .i64 a0, .int .i64 a1, .slice aO os.length cO] 25 (0, 0))) := heap_alloc_new w _
  go_upto_region 1 with fail
  generalize w.alloc (.cells #[.int .i64 a0, .int .i64 a1, .slice aO os.length cO] 25) = w0 at *
  have p0 : w0.cell? ⟨w.heap.size, 0, none⟩ = some (.int .i64 a0) := blk_cell (j := 0) HP0.out rfl
  obtain ⟨rm, hrm, hrw⟩ := room63w a0
  have HNM : Hid (∀ (w : World) (n : Int), Calls Tryz.prog 8 #[.int .i64 n] w fun e w' => e = .returned (.int .i64 n) ∧ w' = w) := num13_any
  have HNW := hide (new13_any w0 (rm + 1) ⟨by omega, by omega⟩)
  go_upto_region 2 with (rw [hrw]; go_at_call 7; refine HNW.out.mono ?_; rintro e w1 ⟨rfl, hp1⟩)
  try rw [hrw]
  obtain ⟨r, hr⟩ : ∃ r, rm + 1 = r := ⟨_, rfl⟩
  rw [hr] at hp1
  have HN1 : Hid (Nst w w1 (w0.heap.size + 1) w0.heap.size r []) := ⟨hp1.out.1, HB0.out.trans (hp1.out.2.mono HB0.out.size), by have := HB0.out.size; omega, HB0.out.size⟩
  have HP1 : Hid (w1.heap[w.heap.size]? = some (.cells #[.int .i64 a0, .int .i64 a1, .slice aO os.length cO] 25 (0, 0))) := (hp1.out.2.block _ (blk_lt HP0.out)).trans HP0.out
  generalize hgg : w0.heap.size + 1 = g at *
  obtain ⟨B, hB⟩ : ∃ B, w0.heap.size = B := ⟨_, rfl⟩
  rw [hB] at HN1
  have HWK := hide (works13_any w1 (HCB.out.below HN1.out.b))
  clear hp1 hgg hB HNW HB0 HP0 hrm hr p0
  go_upto_region 4 with (first
    | (go_at_call 8; refine (HNM.out _ _).mono ?_; rintro e wq ⟨rfl, hwq⟩; have hwq := hwq.symm; subst hwq)
    | (go_at_call 9; refine HWK.out.mono ?_; rintro e w2 ⟨rfl, hb2⟩))
  have HN2 : Hid (Nst w w2 g B r []) := HN1.out.next hb2
  have HP2 : Hid (w2.heap[w.heap.size]? = some (.cells #[.int .i64 a0, .int .i64 a1, .slice aO os.length cO] 25 (0, 0))) := (hb2.block _ (blk_lt HP1.out)).trans HP1.out
  clear HN1 HP1 HWK hb2
  have HB3 := hide (below_alloc4 w2 (.cells #[.slice none 0 0] 37))
  have HZ3 : (w2.alloc (.cells #[.slice none 0 0] 37)).heap.size = w2.heap.size + 1 := by simp
  have HH3 : Hid (Hlr w (w2.alloc (.cells #[.slice none 0 0] 37)) (w2.heap.size + 1) w.heap.size w2.heap.size g B r #[.int .i64 a0, .int .i64 a1, .slice aO os.length cO] [] [] (.slice none 0 0) []) :=
    ⟨HN2.out.next HB3.out, (fun _ h => by cases h), blk_alloc _ HP2.out, heap_alloc_new w2 _, ⟨World.ownsRow_nil _ _ _ _, rfl, (fun _ _ _ h => by cases h), (fun _ h => by cases h)⟩, by rw [HZ3]; omega, by omega, by have := blk_lt HN2.out.s.c; omega, by have := HN2.out.s.m.lt; omega, HN2.out.b.size⟩
  clear HZ3 HB3
  go_upto_region 5 with fail
  generalize w2.alloc (.cells #[.slice none 0 0] 37) = w3 at *
  obtain ⟨sb, hsb⟩ : ∃ sb, w2.heap.size = sb := ⟨_, rfl⟩
  rw [hsb] at HH3 ⊢
  obtain ⟨Z, hZ⟩ : ∃ Z, sb + 1 = Z := ⟨_, rfl⟩
  rw [hZ] at HH3
  clear HN2 HP2 hsb hZ
  go_upto_region 7 with fail
  go_loopw [6, 7] (fun vs vi wx => ∃ (i spent : Nat) (L S : List Blk) (v : Value) (Cs : List (Array Value)), i ≤ 200 ∧ i ≤ os.length ∧ vi = .int .i64 (i : Nat) ∧ vs = .int .i64 (spent : Nat) ∧ Hid (Hlr w wx Z w.heap.size sb g B r #[.int .i64 a0, .int .i64 a1, .slice aO os.length cO] L S v Cs ∧ Sur S L ∧ spent ≤ 262144 ∧ 100 * S.length ≤ 100 * i + spent)) (fun _ vi _ => 200 - (intOf vi).toNat)
  case atStart => exact ⟨0, 0, [], [], _, _, by omega, by omega, rfl, rfl, HH3.out, (fun _ h => by cases h), by omega, by simp⟩
  case round =>
    obtain ⟨i, spent, L, S, v, Cs, hi, hio, rfl, rfl, HH⟩ := hrel
    clear HH3
    have p2 : wr.cell? ⟨w.heap.size, 2, none⟩ = some (.slice aO os.length cO) := blk_cell (j := 2) HH.out.1.p rfl
    by_cases hlt : i < os.length ∧ i < 200
    · have g1 : (i : Int) < (os.length : Int) := by omega
      have g2 : (i : Int) < 200 := by omega
      have hs26 : (spent : Int) ≤ 262144 := by have := HH.out.2.2.1; omega
      obtain ⟨o, ho⟩ : ∃ o, os[i]? = some o := ⟨_, List.getElem?_eq_getElem hlt.1⟩
      obtain ⟨bo, oo, vb, vX, rfl, hvb, hvX, hox, hoc⟩ := HO.out.form_at ho
      obtain ⟨⟨ab, cb, rfl, -⟩, -⟩ := id hvb
      obtain ⟨⟨aX, cX, rfl, -⟩, -⟩ := id hvX
      have HVB := hide hvb
      have HVX := hide hvX
      have HOX := hide hox
      have HOC : Hid (∀ k u, (opc o (.slice ab o.b.length cb) (.slice aX o.X.length cX))[k]? = some u → wr.cell? ⟨bo, oo + i * 10 + k, none⟩ = some u) := fun k u hu => keep_below HH.out.1.n.b _ _ (hoc k u hu)
      have HIO := hide infoOp13
      have HAO : Hid (∀ w, (isAgg 43).run Tryz.prog w = .ok true w) := aggOp13
      clear ho hvb hvX hox hoc
      go_upto_region 10 with (refine wpList_aggAt rfl rfl HIO.out HAO.out bo (oo + i * 10) (opc o (.slice ab o.b.length cb) (.slice aX o.X.length cX)) rfl rfl HOC.out ?_; unfold opc)
      have HH4 : Hid (Hlr w (wr.alloc (.cells #[.int .i64 o.d, .int .i64 o.on, .int .u64 (o.c : Nat), .slice ab o.b.length cb, .int .i64 o.l.v, .int .u64 (o.l.c : Nat), .int .u64 (o.l.h : Nat), .string (nstr o.l.d), .slice aX o.X.length cX, .int .i64 o.r] 43)) Z w.heap.size sb g B r #[.int .i64 a0, .int .i64 a1, .slice (some ⟨bo, oo, none⟩) os.length cO] L S v Cs) := HH.out.1.next (below_alloc4 wr _)
      have HO4 : Hid ((wr.alloc (.cells #[.int .i64 o.d, .int .i64 o.on, .int .u64 (o.c : Nat), .slice ab o.b.length cb, .int .i64 o.l.v, .int .u64 (o.l.c : Nat), .int .u64 (o.l.h : Nat), .string (nstr o.l.d), .slice aX o.X.length cX, .int .i64 o.r] 43)).heap[wr.heap.size]? = some (.cells #[.int .i64 o.d, .int .i64 o.on, .int .u64 (o.c : Nat), .slice ab o.b.length cb, .int .i64 o.l.v, .int .u64 (o.l.c : Nat), .int .u64 (o.l.h : Nat), .string (nstr o.l.d), .slice aX o.X.length cX, .int .i64 o.r] 43 (0, 0))) := heap_alloc_new wr _
      have HOB : Hid (Z ≤ wr.heap.size) := HH.out.1.z
      have HSU := hide HH.out.2
      have HAX : Hid (w.heap.size ≤ wr.heap.size) := HH.out.1.n.b.size
      clear HH p2 HOC
      generalize wr.alloc (.cells #[.int .i64 o.d, .int .i64 o.on, .int .u64 (o.c : Nat), .slice ab o.b.length cb, .int .i64 o.l.v, .int .u64 (o.l.c : Nat), .int .u64 (o.l.h : Nat), .string (nstr o.l.d), .slice aX o.X.length cX, .int .i64 o.r] 43) = w4 at *
      generalize wr.heap.size = ob at *
      have HVB4 : Hid (∀ wx, Below w.heap.size w wx → BSl wx (.slice ab o.b.length cb) o.b) := fun wx hx => HVB.out.move (keep_below hx)
      have HVX4 : Hid (∀ wx, Below w.heap.size w wx → KSl wx (.slice aX o.X.length cX) o.X) := fun wx hx => HVX.out.mv (keep_below hx)
      have HSIZ := hide (size13o_any w4 o (.slice ab o.b.length cb) (.slice aX o.X.length cX) (HVB4.out _ HH4.out.n.b) (HVX4.out _ HH4.out.n.b) HOX.out.2.2)
      have HIA := hide infoOp13
      go_upto_region 11 with (first
        | (refine wpList_loadAll rfl rfl ob #[.int .i64 o.d, .int .i64 o.on, .int .u64 (o.c : Nat), .slice ab o.b.length cb, .int .i64 o.l.v, .int .u64 (o.l.c : Nat), .int .u64 (o.l.h : Nat), .string (nstr o.l.d), .slice aX o.X.length cX, .int .i64 o.r] 43 rfl HO4.out Tryz.underlying43 HIA.out ?_)
        | (go_at_call 10; refine HSIZ.out.mono ?_; rintro e w5 ⟨⟨n, rfl, hn15, hnx⟩, hb5⟩))
      have HH5 := hide (HH4.out.next hb5)
      have HO5 : Hid (w5.heap[ob]? = some (.cells #[.int .i64 o.d, .int .i64 o.on, .int .u64 (o.c : Nat), .slice ab o.b.length cb, .int .i64 o.l.v, .int .u64 (o.l.c : Nat), .int .u64 (o.l.h : Nat), .string (nstr o.l.d), .slice aX o.X.length cX, .int .i64 o.r] 43 (0, 0))) := (hb5.block _ (blk_lt HO4.out)).trans HO4.out
      have HNX := hide hnx
      have hn15 : (n : Int) ≤ 1000000000000000 := by omega
      clear HH4 HO4 hb5 hnx HSIZ
      by_cases hbr : spent + n ≤ 262144
      · have g3 : ¬ (262144 : Int) < (spent : Int) + (n : Int) := by omega
        have HNE : Hid (n = o.b.length + szo o.X) := HNX.out (by omega)
        have HXL : Hid (100 * o.X.length ≤ n) := by have h1 := HNE.out; have h2 := szo_len o.X; show _ ≤ _; omega
        have HSE := hide (see13_any w5 g B r L HH5.out.n.s HH5.out.ok (HH5.out.n.cb HCB.out))
        go_upto_region 13 with (go_at_call 11; refine HSE.out.mono ?_; rintro e w6 ⟨⟨vL, vB, vE, ss, rfl, hsr, hsn⟩, hb6⟩; obtain ⟨aL, pL, rfl, -⟩ := own_formG hsn.l.o; obtain ⟨aE, pE, rfl, -⟩ := own_formG hsn.e.o; obtain ⟨Bs6, hBs6⟩ := id hsn.b; obtain ⟨aB, pB, rfl, -⟩ := own_formG hBs6.o)
        have HB7 := hide (below_alloc4 w6 (.cells #[.slice aL ss.length pL, .slice aB Bs6.length pB, .slice aE (igf (ss.map fun l => (getr13 L l).2)).length pE, .int .i64 (szB L : Nat)] 49))
        have HH7 := hide ((HH5.out.next hb6).next HB7.out)
        have HO7 : Hid ((w6.alloc (.cells #[.slice aL ss.length pL, .slice aB Bs6.length pB, .slice aE (igf (ss.map fun l => (getr13 L l).2)).length pE, .int .i64 (szB L : Nat)] 49)).heap[ob]? = some (.cells #[.int .i64 o.d, .int .i64 o.on, .int .u64 (o.c : Nat), .slice ab o.b.length cb, .int .i64 o.l.v, .int .u64 (o.l.c : Nat), .int .u64 (o.l.h : Nat), .string (nstr o.l.d), .slice aX o.X.length cX, .int .i64 o.r] 43 (0, 0))) := blk_alloc _ ((hb6.block _ (blk_lt HO5.out)).trans HO5.out)
        have HW7 : Hid (Wsn (w6.alloc (.cells #[.slice aL ss.length pL, .slice aB Bs6.length pB, .slice aE (igf (ss.map fun l => (getr13 L l).2)).length pE, .int .i64 (szB L : Nat)] 49)) w5.heap.size w6.heap.size (.slice aL ss.length pL) (.slice aB Bs6.length pB) (.slice aE (igf (ss.map fun l => (getr13 L l).2)).length pE) L ss) := ⟨heap_alloc_new w6 _, hsn.kp (Kp.of_below (S := fun _ => False) HB7.out) (fun _ h => h.elim), hsr⟩
        have HZA : Hid (Z ≤ w5.heap.size ∧ w5.heap.size ≤ w6.heap.size ∧ ob < w5.heap.size) := ⟨HH5.out.z, hb6.size, blk_lt HO5.out⟩
        have HSL : Hid (ss.length ≤ 65536 ∧ L.length ≤ 65536) := by
          have h1 := hsr.1.length_eq
          rw [List.length_map] at h1
          have h2 := HH5.out.n.s.n
          have h3 := HH5.out.n.s.h.2
          show _ ∧ _
          omega
        clear HB7 HH5 HO5 HSE hsr hsn hBs6 hb6
        go_upto_region 13 with fail
        generalize w6.alloc (.cells #[.slice aL ss.length pL, .slice aB Bs6.length pB, .slice aE (igf (ss.map fun l => (getr13 L l).2)).length pE, .int .i64 (szB L : Nat)] 49) = w7 at *
        generalize w5.heap.size = A5 at *
        generalize w6.heap.size = wb at *
        have o0 : w7.cell? ⟨ob, 0, none⟩ = some (.int .i64 o.d) := blk_cell (j := 0) HO7.out rfl
        go_upto_block 2 with fail
        go_cut [10, 11, 12, 13, 14, 15, 16, 67, 68] (fun u10 _ _ _ _ _ _ _ _ wx => ∃ (u : Bool) (M T : List Blk) (v' : Value) (Cs' : List (Array Value)), u10 = .bool u ∧ Hid (Hlr w wx Z w.heap.size sb g B r #[.int .i64 a0, .int .i64 a1, .slice (some ⟨bo, oo, none⟩) os.length cO] M T v' Cs' ∧ Sur T M ∧ 100 * T.length ≤ 100 * (i + 1) + (spent + n) ∧ (u = true → M = L) ∧ Wsn wx A5 wb (.slice aL ss.length pL) (.slice aB Bs6.length pB) (.slice aE (igf (ss.map fun l => (getr13 L l).2)).length pE) L ss))
        case first => as_aux_lemma =>
          have HM : Hid (Mid w w7 Z w.heap.size sb g B r #[.int .i64 a0, .int .i64 a1, .slice (some ⟨bo, oo, none⟩) os.length cO] L S v Cs ob #[.int .i64 o.d, .int .i64 o.on, .int .u64 (o.c : Nat), .slice ab o.b.length cb, .int .i64 o.l.v, .int .u64 (o.l.c : Nat), .int .u64 (o.l.h : Nat), .string (nstr o.l.d), .slice aX o.X.length cX, .int .i64 o.r] A5 wb (.slice aL ss.length pL) (.slice aB Bs6.length pB) (.slice aE (igf (ss.map fun l => (getr13 L l).2)).length pE) L ss) := ⟨HH7.out, HO7.out, HW7.out, HZA.out⟩
          clear HH7 HO7 HW7 o0
          have o0 : w7.cell? ⟨ob, 0, none⟩ = some (.int .i64 o.d) := blk_cell (j := 0) HM.out.o rfl
          by_cases d1 : o.d = 1
          · have e1 : (o.d == 1) = true := beq_iff_eq.2 d1
            have HRC := hide (putr_cases r L o.c o.b HM.out.h.ok)
            have HRX := hide (putr_lkx r L o.c o.b HOX.out.2.1)
            have HPT : Hid (∀ wx (vb : Value), Mid w wx Z w.heap.size sb g B r #[.int .i64 a0, .int .i64 a1, .slice (some ⟨bo, oo, none⟩) os.length cO] L S v Cs ob #[.int .i64 o.d, .int .i64 o.on, .int .u64 (o.c : Nat), .slice ab o.b.length cb, .int .i64 o.l.v, .int .u64 (o.l.c : Nat), .int .u64 (o.l.h : Nat), .string (nstr o.l.d), .slice aX o.X.length cX, .int .i64 o.r] A5 wb (.slice aL ss.length pL) (.slice aB Bs6.length pB) (.slice aE (igf (ss.map fun l => (getr13 L l).2)).length pE) L ss → (∀ wy, Kp (fun q => q = g) wx wy → BSl wy vb o.b) → Calls Tryz.prog 12 #[.pointer (some ⟨g, 0, none⟩), .int .u64 (o.c : Nat), vb] wx fun e w' => e = .returned (.tuple #[lkv (putr13 r L o.c o.b).1.1, .int .i64 ((putr13 r L o.c o.b).1.2 : Nat)]) ∧ Hid (Mid w w' Z w.heap.size sb g B r #[.int .i64 a0, .int .i64 a1, .slice (some ⟨bo, oo, none⟩) os.length cO] (putr13 r L o.c o.b).2 S v Cs ob #[.int .i64 o.d, .int .i64 o.on, .int .u64 (o.c : Nat), .slice ab o.b.length cb, .int .i64 o.l.v, .int .u64 (o.l.c : Nat), .int .u64 (o.l.h : Nat), .string (nstr o.l.d), .slice aX o.X.length cX, .int .i64 o.r] A5 wb (.slice aL ss.length pL) (.slice aB Bs6.length pB) (.slice aE (igf (ss.map fun l => (getr13 L l).2)).length pE) L ss) ∧ Kp (fun q => q = g ∨ q = B) wx w') := fun wx vb hm hb => by
              refine (put13_any wx g B r L hm.h.n.s o.c HOX.out.2.1 vb o.b hb HOX.out.2.2 (hm.h.n.cb HCB.out)).mono ?_
              rintro e w' ⟨he, hs, hk⟩
              refine ⟨he, hm.of hs hk ?_, hk⟩
              rcases HRC.out with ⟨_, h⟩ | ⟨_, _, _, _, _, h⟩
              · rw [h]; exact hm.h.ok
              · exact h
            obtain ⟨R, hR⟩ : ∃ R, putr13 r L o.c o.b = R := ⟨_, rfl⟩
            rw [hR] at HRC HRX HPT
            clear hR
            obtain ⟨⟨l, er⟩, N⟩ := R
            simp only [lkv] at HRC HRX HPT
            go_upto_region 16 with fail
            go_cut [11, 12, 67] (fun u11 u12 _ wx => ∃ lb : Nat, u11 = .pointer (some ⟨lb, 0, none⟩) ∧ u12 = .int .i64 (er : Nat) ∧ Hid (Mid w wx Z w.heap.size sb g B r #[.int .i64 a0, .int .i64 a1, .slice (some ⟨bo, oo, none⟩) os.length cO] N S v Cs ob #[.int .i64 o.d, .int .i64 o.on, .int .u64 (o.c : Nat), .slice ab o.b.length cb, .int .i64 o.l.v, .int .u64 (o.l.c : Nat), .int .u64 (o.l.h : Nat), .string (nstr o.l.d), .slice aX o.X.length cX, .int .i64 o.r] A5 wb (.slice aL ss.length pL) (.slice aB Bs6.length pB) (.slice aE (igf (ss.map fun l => (getr13 L l).2)).length pE) L ss ∧ wx.heap[lb]? = some (.cells #[.int .i64 l.v, .int .u64 (l.c : Nat), .int .u64 (l.h : Nat), .string (nstr l.d)] 41 (0, 0)) ∧ Z ≤ lb))
            case first =>
              have HIL := hide infoLk13
              have HON := hide (one4 l.v (l.c : Nat) (l.h : Nat) (nstr l.d))
              refine kStart 6 13 (fun wx => wx.heap[ob]? = some (.cells #[.int .i64 o.d, .int .i64 o.on, .int .u64 (o.c : Nat), .slice ab o.b.length cb, .int .i64 o.l.v, .int .u64 (o.l.c : Nat), .int .u64 (o.l.h : Nat), .string (nstr o.l.d), .slice aX o.X.length cX, .int .i64 o.r] 43 (0, 0))) rfl (by kernel_rfl) ?_
              have hbd : Below w7.heap.size w7 w7.drew := by
                refine Below.drew ?_
                exact Below.refl _ _
              have HMX := hide (HM.out.next hbd)
              clear hbd HM o0
              generalize w7.drew = w8 at *
              have hS8 := HMX.out.o
              refine kTake 0 _ (by decide) rfl (by kernel_rfl) (by kernel_rfl) (by kernel_rfl) (fun _ _ _ h => h) rfl (fun wy => by first | (go_simp; done) | (go_simp; rfl) | rfl) (fun _ => hS8) ?_
              (try simp only [Act.put]); (try simp only [LsA, Ls0, LsS])
              refine kTake 1 _ (by decide) rfl (by kernel_rfl) (by kernel_rfl) (by kernel_rfl) (fun _ _ _ h => h) rfl (fun wy => by first | (go_simp; done) | (go_simp; rfl) | rfl) (fun _ => hS8) ?_
              (try simp only [Act.put]); (try simp only [LsA, Ls0, LsS])
              refine kLoad 2 [6] _ (by decide) rfl (by kernel_rfl) (by kernel_rfl) (by kernel_rfl) (by kernel_rfl) (fun _ _ _ h => h) rfl hS8 (fun wy hy => by have hy0 := blk_cell (j := 2) hy rfl; first | (go_simp; done) | (go_simp; rfl) | rfl) ?_
              (try simp only [Act.put]); (try simp only [LsA, Ls0, LsS])
              refine kTake 3 _ (by decide) rfl (by kernel_rfl) (by kernel_rfl) (by kernel_rfl) (fun _ _ _ h => h) rfl (fun wy => by first | (go_simp; done) | (go_simp; rfl) | rfl) (fun _ => hS8) ?_
              (try simp only [Act.put]); (try simp only [LsA, Ls0, LsS])
              refine kLoad 4 [5,6] _ (by decide) rfl (by kernel_rfl) (by kernel_rfl) (by kernel_rfl) (by kernel_rfl) (fun _ _ _ h => h) rfl hS8 (fun wy hy => by have hy0 := blk_cell (j := 3) hy rfl; first | (go_simp; done) | (go_simp; rfl) | rfl) ?_
              (try simp only [Act.put]); (try simp only [LsA, Ls0, LsS])
              refine kTwo 5 10 rfl rfl (by kernel_rfl) (fun K hK => ?_) (fun K hK => ?_)
              · -- Copy first
                have HCP := hide (copy_any w8 (.slice ab o.b.length cb) o.b (HVB4.out _ HMX.out.h.n.b) HOX.out.2.2)
                go_simp
                refine HCP.out.mono ?_
                rintro e w9 ⟨vb, rfl, hob, hb3⟩
                obtain ⟨ac, cc, rfl, -⟩ := own_formG hob
                have HVV : Hid (w9.ownsRow w8.heap.size 5 1 (.slice ac o.b.length cc) o.b.length (bv o.b)) := hob
                have HGO : Hid (g < w8.heap.size) := blk_lt HMX.out.h.n.s.c
                have HMY := hide (HMX.out.next hb3)
                have hS9 := HMY.out.o
                refine (Hid.out hK) _ _ (fun _ => hS9) ?_
                clear hK K
                (try simp only [Act.put]); (try simp only [LsA, Ls0, LsS])
                clear hS8 HCP hob hb3 HMX
                have hS8 := hS9
                have HMX := HMY
                clear hS9 HMY
                refine kTwo 6 10 rfl rfl (by kernel_rfl) (fun K hK => ?_) (fun K hK => ?_)
                · -- Put, then the new link
                  go_simp
                  refine (HPT.out w9 _ HMX.out (fun wy hy => BSl.own (hy.owns HVV.out (fun q hq e => by have := (HVV.out.lt q hq).1; have := HGO.out; omega)) HVB.out.byte)).mono ?_
                  rintro e wa ⟨rfl, HMY, hkp⟩
                  refine (Hid.out hK) _ _ (fun h => absurd h (by decide)) ?_
                  clear hK K
                  (try simp only [Act.put]); (try simp only [LsA, Ls0, LsS])
                  clear hS8 hkp HMX HVV HGO
                  have HMX := HMY
                  clear HMY
                  refine kTake 7 _ (by decide) rfl (by kernel_rfl) (by kernel_rfl) (by kernel_rfl) (fun _ _ _ h => h) rfl (fun wy => by first | (go_simp; done) | (go_simp; rfl) | rfl) (fun h => absurd h (by decide)) ?_
                  (try simp only [Act.put]); (try simp only [LsA, Ls0, LsS])
                  refine kTake 8 _ (by decide) rfl (by kernel_rfl) (by kernel_rfl) (by kernel_rfl) (fun _ _ _ h => h) rfl (fun wy => by first | (go_simp; done) | (go_simp; rfl) | rfl) (fun h => absurd h (by decide)) ?_
                  (try simp only [Act.put]); (try simp only [LsA, Ls0, LsS])
                  refine kTake 9 _ (by decide) rfl (by kernel_rfl) (by kernel_rfl) (by kernel_rfl) (fun _ _ _ h => h) rfl (fun wy => by first | (go_simp; done) | (go_simp; rfl) | rfl) (fun h => absurd h (by decide)) ?_
                  (try simp only [Act.put]); (try simp only [LsA, Ls0, LsS])
                  refine kStep 10 rfl (by kernel_rfl) (fun K hK => ?_)
                  have HMA := hide (HMX.out.next (below_alloc4 wa (.cells #[.int .i64 0, .int .u64 0, .int .u64 0, .string ⟨#[]⟩] 41)))
                  have HLB : Hid ((wa.alloc (.cells #[.int .i64 0, .int .u64 0, .int .u64 0, .string ⟨#[]⟩] 41)).heap[wa.heap.size]? = some (.cells #[.int .i64 0, .int .u64 0, .int .u64 0, .string ⟨#[]⟩] 41 (0, 0))) := heap_alloc_new wa _
                  have HLW : Hid (w.heap.size ≤ wa.heap.size) := HMX.out.h.n.b.size
                  have HLZ : Hid (Z ≤ wa.heap.size) := HMX.out.h.z
                  have HLN : Hid (Value.ownBlock (.slice aL ss.length pL) ≠ some wa.heap.size) := HMX.out.own
                  go_simp
                  refine (Hid.out hK) _ _ (fun h => absurd h (by decide)) ?_
                  clear hK K
                  (try simp only [Act.put]); (try simp only [LsA, Ls0, LsS])
                  clear HMX
                  generalize wa.alloc (.cells #[.int .i64 0, .int .u64 0, .int .u64 0, .string ⟨#[]⟩] 41) = wd at *
                  generalize wa.heap.size = lb at *
                  have HMX := HMA
                  clear HMA
                  refine kStep 11 rfl (by kernel_rfl) (fun K hK => ?_)
                  rw [if_pos (show Region.wanted _ _ = true from rfl)]
                  refine wpop_storeRow rfl lb _ #[.int .i64 l.v, .int .u64 (l.c : Nat), .int .u64 (l.h : Nat), .string (nstr l.d)] 41 rfl rfl HLB.out HIL.out rfl HON.out ?_
                  refine (Hid.out hK) _ _ (fun h => absurd h (by decide)) ?_
                  clear hK K
                  (try simp only [Act.put]); (try simp only [LsA, Ls0, LsS])
                  refine kTake 12 _ (by decide) rfl (by kernel_rfl) (by kernel_rfl) (by kernel_rfl) (fun _ _ _ h => h) rfl (fun wy => by first | (go_simp; done) | (go_simp; rfl) | rfl) (fun h => absurd h (by decide)) ?_
                  (try simp only [Act.put]); (try simp only [LsA, Ls0, LsS])
                  refine kDone (by kernel_rfl) ?_
                  have HKL : Hid (Kp (fun q => q = lb) wd (wd.setRow lb #[.int .i64 l.v, .int .u64 (l.c : Nat), .int .u64 (l.h : Nat), .string (nstr l.d)])) := row_kp _ _ _
                  go_wp2_with fail
                  go_meet
                  case rel => exact ⟨lb, rfl, rfl, HMX.out.link HLB.out HLW.out HLN.out HKL.out, row_same HLB.out, HLZ.out⟩
                · -- the new link, then Put
                  have HVW := hide ((Kp.of_below (S := fun _ => False) (below_alloc4 w9 (.cells #[.int .i64 0, .int .u64 0, .int .u64 0, .string ⟨#[]⟩] 41))).owns HVV.out (fun _ _ e => e))
                  clear HVV
                  have HVV := HVW
                  clear HVW
                  have HMA := hide (HMX.out.next (below_alloc4 w9 (.cells #[.int .i64 0, .int .u64 0, .int .u64 0, .string ⟨#[]⟩] 41)))
                  have HLB : Hid ((w9.alloc (.cells #[.int .i64 0, .int .u64 0, .int .u64 0, .string ⟨#[]⟩] 41)).heap[w9.heap.size]? = some (.cells #[.int .i64 0, .int .u64 0, .int .u64 0, .string ⟨#[]⟩] 41 (0, 0))) := heap_alloc_new w9 _
                  have HLW : Hid (w.heap.size ≤ w9.heap.size) := HMX.out.h.n.b.size
                  have HLZ : Hid (Z ≤ w9.heap.size) := HMX.out.h.z
                  have HLN : Hid (Value.ownBlock (.slice aL ss.length pL) ≠ some w9.heap.size) := HMX.out.own
                  go_simp
                  have hS9 := HMA.out.o
                  refine (Hid.out hK) _ _ (fun _ => hS9) ?_
                  clear hK K
                  (try simp only [Act.put]); (try simp only [LsA, Ls0, LsS])
                  clear hS8
                  have hS8 := hS9
                  clear hS9
                  clear HMX
                  generalize w9.alloc (.cells #[.int .i64 0, .int .u64 0, .int .u64 0, .string ⟨#[]⟩] 41) = wa at *
                  generalize w9.heap.size = lb at *
                  have HMX := HMA
                  clear HMA
                  refine kStep 6 rfl (by kernel_rfl) (fun K hK => ?_)
                  go_simp
                  refine (HPT.out wa _ HMX.out (fun wy hy => BSl.own (hy.owns HVV.out (fun q hq e => by have := (HVV.out.lt q hq).1; have := HGO.out; omega)) HVB.out.byte)).mono ?_
                  rintro e wd ⟨rfl, HMY, hkp⟩
                  have HLY := hide ((hkp.block _ (blk_lt HLB.out) (fun e => by
                    rcases e with e | e
                    · exact ne_of_type HLB.out HMX.out.h.n.s.c (by decide) e
                    · exact HMX.out.h.n.s.m.ne HLB.out e)).trans HLB.out)
                  have HLM : Hid (Value.ownBlock (.slice aL ss.length pL) ≠ some lb) := HLN.out
                  refine (Hid.out hK) _ _ (fun h => absurd h (by decide)) ?_
                  clear hK K
                  (try simp only [Act.put]); (try simp only [LsA, Ls0, LsS])
                  clear hS8 hkp HMX HVV HGO
                  have HMX := HMY
                  clear HMY
                  clear HLB HLM
                  have HLB := HLY
                  clear HLY
                  refine kTake 7 _ (by decide) rfl (by kernel_rfl) (by kernel_rfl) (by kernel_rfl) (fun _ _ _ h => h) rfl (fun wy => by first | (go_simp; done) | (go_simp; rfl) | rfl) (fun h => absurd h (by decide)) ?_
                  (try simp only [Act.put]); (try simp only [LsA, Ls0, LsS])
                  refine kTake 8 _ (by decide) rfl (by kernel_rfl) (by kernel_rfl) (by kernel_rfl) (fun _ _ _ h => h) rfl (fun wy => by first | (go_simp; done) | (go_simp; rfl) | rfl) (fun h => absurd h (by decide)) ?_
                  (try simp only [Act.put]); (try simp only [LsA, Ls0, LsS])
                  refine kTake 9 _ (by decide) rfl (by kernel_rfl) (by kernel_rfl) (by kernel_rfl) (fun _ _ _ h => h) rfl (fun wy => by first | (go_simp; done) | (go_simp; rfl) | rfl) (fun h => absurd h (by decide)) ?_
                  (try simp only [Act.put]); (try simp only [LsA, Ls0, LsS])
                  refine kStep 11 rfl (by kernel_rfl) (fun K hK => ?_)
                  rw [if_pos (show Region.wanted _ _ = true from rfl)]
                  refine wpop_storeRow rfl lb _ #[.int .i64 l.v, .int .u64 (l.c : Nat), .int .u64 (l.h : Nat), .string (nstr l.d)] 41 rfl rfl HLB.out HIL.out rfl HON.out ?_
                  refine (Hid.out hK) _ _ (fun h => absurd h (by decide)) ?_
                  clear hK K
                  (try simp only [Act.put]); (try simp only [LsA, Ls0, LsS])
                  refine kTake 12 _ (by decide) rfl (by kernel_rfl) (by kernel_rfl) (by kernel_rfl) (fun _ _ _ h => h) rfl (fun wy => by first | (go_simp; done) | (go_simp; rfl) | rfl) (fun h => absurd h (by decide)) ?_
                  (try simp only [Act.put]); (try simp only [LsA, Ls0, LsS])
                  refine kDone (by kernel_rfl) ?_
                  have HKL : Hid (Kp (fun q => q = lb) wd (wd.setRow lb #[.int .i64 l.v, .int .u64 (l.c : Nat), .int .u64 (l.h : Nat), .string (nstr l.d)])) := row_kp _ _ _
                  go_wp2_with fail
                  go_meet
                  case rel => exact ⟨lb, rfl, rfl, HMX.out.link HLB.out HLW.out HLN.out HKL.out, row_same HLB.out, HLZ.out⟩
              · -- the new link first
                have HMA := hide (HMX.out.next (below_alloc4 w8 (.cells #[.int .i64 0, .int .u64 0, .int .u64 0, .string ⟨#[]⟩] 41)))
                have HLB : Hid ((w8.alloc (.cells #[.int .i64 0, .int .u64 0, .int .u64 0, .string ⟨#[]⟩] 41)).heap[w8.heap.size]? = some (.cells #[.int .i64 0, .int .u64 0, .int .u64 0, .string ⟨#[]⟩] 41 (0, 0))) := heap_alloc_new w8 _
                have HLW : Hid (w.heap.size ≤ w8.heap.size) := HMX.out.h.n.b.size
                have HLZ : Hid (Z ≤ w8.heap.size) := HMX.out.h.z
                have HLN : Hid (Value.ownBlock (.slice aL ss.length pL) ≠ some w8.heap.size) := HMX.out.own
                go_simp
                have hS9 := HMA.out.o
                refine (Hid.out hK) _ _ (fun _ => hS9) ?_
                clear hK K
                (try simp only [Act.put]); (try simp only [LsA, Ls0, LsS])
                clear hS8
                have hS8 := hS9
                clear hS9
                clear HMX
                generalize w8.alloc (.cells #[.int .i64 0, .int .u64 0, .int .u64 0, .string ⟨#[]⟩] 41) = w9 at *
                generalize w8.heap.size = lb at *
                have HMX := HMA
                clear HMA
                refine kStep 5 rfl (by kernel_rfl) (fun K hK => ?_)
                have HCP := hide (copy_any w9 (.slice ab o.b.length cb) o.b (HVB4.out _ HMX.out.h.n.b) HOX.out.2.2)
                go_simp
                refine HCP.out.mono ?_
                rintro e wa ⟨vb, rfl, hob, hb3⟩
                obtain ⟨ac, cc, rfl, -⟩ := own_formG hob
                have HVV : Hid (wa.ownsRow w9.heap.size 5 1 (.slice ac o.b.length cc) o.b.length (bv o.b)) := hob
                have HGO : Hid (g < w9.heap.size) := blk_lt HMX.out.h.n.s.c
                have HMY := hide (HMX.out.next hb3)
                have HLY := hide ((hb3.block _ (blk_lt HLB.out)).trans HLB.out)
                have hS9 := HMY.out.o
                refine (Hid.out hK) _ _ (fun _ => hS9) ?_
                clear hK K
                (try simp only [Act.put]); (try simp only [LsA, Ls0, LsS])
                clear hS8 HCP hob hb3 HMX
                have hS8 := hS9
                have HMX := HMY
                clear hS9 HMY
                clear HLB
                have HLB := HLY
                clear HLY
                refine kStep 6 rfl (by kernel_rfl) (fun K hK => ?_)
                go_simp
                refine (HPT.out wa _ HMX.out (fun wy hy => BSl.own (hy.owns HVV.out (fun q hq e => by have := (HVV.out.lt q hq).1; have := HGO.out; omega)) HVB.out.byte)).mono ?_
                rintro e wd ⟨rfl, HMY, hkp⟩
                have HLY := hide ((hkp.block _ (blk_lt HLB.out) (fun e => by
                  rcases e with e | e
                  · exact ne_of_type HLB.out HMX.out.h.n.s.c (by decide) e
                  · exact HMX.out.h.n.s.m.ne HLB.out e)).trans HLB.out)
                have HLM : Hid (Value.ownBlock (.slice aL ss.length pL) ≠ some lb) := HLN.out
                refine (Hid.out hK) _ _ (fun h => absurd h (by decide)) ?_
                clear hK K
                (try simp only [Act.put]); (try simp only [LsA, Ls0, LsS])
                clear hS8 hkp HMX HVV HGO
                have HMX := HMY
                clear HMY
                clear HLB HLM
                have HLB := HLY
                clear HLY
                refine kTake 7 _ (by decide) rfl (by kernel_rfl) (by kernel_rfl) (by kernel_rfl) (fun _ _ _ h => h) rfl (fun wy => by first | (go_simp; done) | (go_simp; rfl) | rfl) (fun h => absurd h (by decide)) ?_
                (try simp only [Act.put]); (try simp only [LsA, Ls0, LsS])
                refine kTake 8 _ (by decide) rfl (by kernel_rfl) (by kernel_rfl) (by kernel_rfl) (fun _ _ _ h => h) rfl (fun wy => by first | (go_simp; done) | (go_simp; rfl) | rfl) (fun h => absurd h (by decide)) ?_
                (try simp only [Act.put]); (try simp only [LsA, Ls0, LsS])
                refine kTake 9 _ (by decide) rfl (by kernel_rfl) (by kernel_rfl) (by kernel_rfl) (fun _ _ _ h => h) rfl (fun wy => by first | (go_simp; done) | (go_simp; rfl) | rfl) (fun h => absurd h (by decide)) ?_
                (try simp only [Act.put]); (try simp only [LsA, Ls0, LsS])
                refine kStep 11 rfl (by kernel_rfl) (fun K hK => ?_)
                rw [if_pos (show Region.wanted _ _ = true from rfl)]
                refine wpop_storeRow rfl lb _ #[.int .i64 l.v, .int .u64 (l.c : Nat), .int .u64 (l.h : Nat), .string (nstr l.d)] 41 rfl rfl HLB.out HIL.out rfl HON.out ?_
                refine (Hid.out hK) _ _ (fun h => absurd h (by decide)) ?_
                clear hK K
                (try simp only [Act.put]); (try simp only [LsA, Ls0, LsS])
                refine kTake 12 _ (by decide) rfl (by kernel_rfl) (by kernel_rfl) (by kernel_rfl) (fun _ _ _ h => h) rfl (fun wy => by first | (go_simp; done) | (go_simp; rfl) | rfl) (fun h => absurd h (by decide)) ?_
                (try simp only [Act.put]); (try simp only [LsA, Ls0, LsS])
                refine kDone (by kernel_rfl) ?_
                have HKL : Hid (Kp (fun q => q = lb) wd (wd.setRow lb #[.int .i64 l.v, .int .u64 (l.c : Nat), .int .u64 (l.h : Nat), .string (nstr l.d)])) := row_kp _ _ _
                go_wp2_with fail
                go_meet
                case rel => exact ⟨lb, rfl, rfl, HMX.out.link HLB.out HLW.out HLN.out HKL.out, row_same HLB.out, HLZ.out⟩
            case rest =>
              obtain ⟨lb, rfl, rfl, HQ⟩ := hcut
              have HMQ := hide HQ.out.1
              have HLQ := hide HQ.out.2.1
              clear HQ HPT HM o0
              rcases HRC.out with ⟨h1, h2⟩ | ⟨h1, h2, h3, h4, h5, h6⟩
              · have erne : er ≠ 0 → (er : Int) ≠ 0 := fun h => by omega
                have ge : ((er : Int) != 0) = true := bne_iff_ne.2 (erne h1)
                have HN2 : Hid (N = L) := h2
                clear h1 h2 HRC erne
                go_wp2_with (go_at_call 8; refine (HNM.out _ _).mono ?_; rintro e wq ⟨rfl, hwq⟩; have hwq := hwq.symm; subst hwq)
                go_meet
                case rel => exact ⟨true, N, S, v, Cs, rfl, HMQ.out.h, by rw [HN2.out]; exact HSU.out.1, by have := HSU.out.2.2; omega, fun _ => HN2.out, HMQ.out.s⟩
              · have he0 : er = 0 := h1
                subst he0
                have HSN : Hid (Sur (wis S l o.b) N) := sur_wisl (X := [(l, o.b)]) HSU.out.1 h5 (fun x hx => by rw [List.mem_singleton.1 hx]; exact h4) (fun x hx => by rw [List.mem_singleton.1 hx]; exact ⟨h2, h3⟩)
                have HLW : Hid ((wis S l o.b).length ≤ S.length + 1) := len_wisl [(l, o.b)] S
                have HHD : Hid ((decide (lok l) && dholds l.h l.d o.b) = true) := holds_yes13 h2 h4
                clear h1 h2 h3 h4 h5 h6 HRC
                have HWI := hide (with13_any wc sb Z v Cs S HMQ.out.h.cb HMQ.out.h.zs HMQ.out.h.z HMQ.out.h.sv (by have h1 := HSU.out.2.1; have h2 := HSU.out.2.2; omega) l HRX.out (.slice ab o.b.length cb) o.b (fun wy hy => HVB4.out wy (HMQ.out.h.n.b.trans (hy.below HMQ.out.h.n.b.size (fun q e => by have := HMQ.out.h.zw; omega)))) HOX.out.2.2)
                have HLC : Hid (∀ k u, (lcs l)[k]? = some u → wc.cell? ⟨lb, 0 + k, none⟩ = some u) := fun k u hu => blk_cell (j := 0 + k) HLQ.out (by rw [Nat.zero_add]; exact hu)
                have o3 : wc.cell? ⟨ob, 3, none⟩ = some (.slice ab o.b.length cb) := blk_cell (j := 3) HMQ.out.o rfl
                go_upto_region 20 with (first
                  | (refine wpList_lkAt rfl rfl lb 0 l rfl HLC.out ?_)
                  | (go_at_call 8; refine (HNM.out _ _).mono ?_; rintro e wq ⟨rfl, hwq⟩; have hwq := hwq.symm; subst hwq)
                  | (go_at_call 14; refine HWI.out.mono ?_; rintro e wx ⟨rfl, hsp⟩))
                have HBX : Hid (Kp (fun q => q = sb) wc wx) := by obtain ⟨_, _, _, _, h, _⟩ := hsp; exact h
                obtain ⟨v2, C2, hmx⟩ := HMQ.out.sure hsp
                have HMZ := hide hmx
                have HLC2 : Hid (∀ k u, (lcs l)[k]? = some u → wx.cell? ⟨lb, 0 + k, none⟩ = some u) := fun k u hu => HBX.out.cell (HLC.out k u hu) (fun e => ne_of_type HLQ.out HMQ.out.h.cb (by decide) e)
                have o3 : wx.cell? ⟨ob, 3, none⟩ = some (.slice ab o.b.length cb) := blk_cell (j := 3) HMZ.out.o rfl
                have HHC := hide (holds4_any wx l (.slice ab o.b.length cb) o.b (HCB.out.below HMZ.out.h.n.b) HRX.out.toLkb (HVB4.out _ HMZ.out.h.n.b) HOX.out.2.2)
                rw [HHD.out] at HHC
                clear hsp hmx HWI HLC
                go_wp2_with (first
                  | (refine wpList_lkAt rfl rfl lb 0 l rfl HLC2.out ?_)
                  | (go_at_call 15; refine HHC.out.mono ?_; rintro e wy ⟨rfl, hby⟩))
                go_meet
                case rel => exact ⟨false, N, wis S l o.b, v2, C2, rfl, (HMZ.out.next hby).h, HSN.out, by have h1 := HSU.out.2.2; have h2 := HLW.out; omega, (fun h => by cases h), (HMZ.out.next hby).s⟩
          · have e1 : (o.d == 1) = false := beq_eq_false_iff_ne.2 d1
            by_cases d2 : o.d = 2
            · have e2 : (o.d == 2) = true := beq_iff_eq.2 d2
              have HRC := hide (addr_cases r L o.X HM.out.h.ok)
              obtain ⟨R, hR⟩ : ∃ R, addr13 r L o.X = R := ⟨_, rfl⟩
              rw [hR] at HRC
              have HRR := hide hR
              have HX10 : Hid (o.X.length ≤ 2622) := by have := HXL.out; show _ ≤ _; omega
              have HCS := hide (copyBlocks13_any w7 (.slice aX o.X.length cX) o.X (HVX4.out _ HM.out.h.n.b) (by have := HX10.out; omega))
              have o8 : w7.cell? ⟨ob, 8, none⟩ = some (.slice aX o.X.length cX) := blk_cell (j := 8) HM.out.o rfl
              go_upto_region 24 with (first
                | (go_at_call 17; refine HCS.out.mono ?_; rintro e w8 ⟨⟨ac, nc, cc, Cx, rfl, hsx⟩, hb8⟩; have HM8 := hide (HM.out.next hb8); have HAD : Hid (Calls Tryz.prog 16 #[.pointer (some ⟨g, 0, none⟩), .slice ac nc cc] w8 (LayP w8 g B r R)) := (by rw [← HRR.out]; exact Adds13_any w8 g B r L HM8.out.h.n.s (.slice ac nc cc) o.X (fun wy hy => (hsx.kp hy (fun q h1 h2 => by have := blk_lt HM.out.h.n.s.c; omega)).ksl (by have := HX10.out; omega)) (by have := HX10.out; omega) (HM8.out.h.n.cb HCB.out)))
                | (go_at_call 16; refine HAD.out.mono ?_; rintro e w9 ⟨rfl, hs9, hk9⟩))
              clear hR HRR
              have HM9 : Hid (Mid w w9 Z w.heap.size sb g B r #[.int .i64 a0, .int .i64 a1, .slice (some ⟨bo, oo, none⟩) os.length cO] R.2 S v Cs ob #[.int .i64 o.d, .int .i64 o.on, .int .u64 (o.c : Nat), .slice ab o.b.length cb, .int .i64 o.l.v, .int .u64 (o.l.c : Nat), .int .u64 (o.l.h : Nat), .string (nstr o.l.d), .slice aX o.X.length cX, .int .i64 o.r] A5 wb (.slice aL ss.length pL) (.slice aB Bs6.length pB) (.slice aE (igf (ss.map fun l => (getr13 L l).2)).length pE) L ss) := HM8.out.of hs9 hk9 (by
                rcases HRC.out with ⟨_, _, h⟩ | ⟨_, _, _, _, _, h⟩
                · rw [h]; exact HM8.out.h.ok
                · exact h)
              clear HM HM8 HCS HAD hsx hb8 hs9 hk9 o8 o0
              obtain ⟨⟨k1, er⟩, N⟩ := R
              simp only at HM9
              have o8 : w9.cell? ⟨ob, 8, none⟩ = some (.slice aX o.X.length cX) := blk_cell (j := 8) HM9.out.o rfl
              have hx26 : (o.X.length : Int) ≤ 2622 := by have := HX10.out; omega
              rcases HRC.out with ⟨h1, h2, h3⟩ | ⟨h1, h2, h3, h4, h5, h6⟩
              · have ge : ((er : Int) != 0) = true := bne_iff_ne.2 (by simp only at h1; omega)
                have hk0 : k1 = 0 := h2
                subst hk0
                have HN2 : Hid (N = L) := h3
                have gx : ¬ ((o.X.length : Int) < 0) := by omega
                clear h1 h2 h3 HRC
                go_upto_region 28 with (go_at_call 8; refine (HNM.out _ _).mono ?_; rintro e wq ⟨rfl, hwq⟩; have hwq := hwq.symm; subst hwq)
                go_loopw [15] (fun vk wx => vk = .int .i64 0 ∧ wx = w9) (fun _ _ => 0)
                case atStart => exact ⟨rfl, rfl⟩
                case round =>
                  obtain ⟨rfl, rfl⟩ := hrel
                  by_cases hx0 : (0 : Int) < (o.X.length : Int)
                  · go_wp2_with fail
                    go_meet
                    case rel => exact ⟨true, N, S, v, Cs, rfl, HM9.out.h, by rw [HN2.out]; exact HSU.out.1, by have := HSU.out.2.2; omega, fun _ => HN2.out, HM9.out.s⟩
                  · go_wp2_with fail
                    go_meet
                    case rel => exact ⟨true, N, S, v, Cs, rfl, HM9.out.h, by rw [HN2.out]; exact HSU.out.1, by have := HSU.out.2.2; omega, fun _ => HN2.out, HM9.out.s⟩
              · have he0 : er = 0 := h1
                subst he0
                have hk1 : (k1 : Int) ≤ (o.X.length : Int) := by simp only at h2; omega
                have gk : ¬ ((o.X.length : Int) < (k1 : Int)) := by omega
                have gk2 : ¬ (o.X.length < k1) := by omega
                have gk3 : decide (o.X.length < k1) = false := decide_eq_false gk2
                have HSN : Hid (Sur (wisl S o.X) N) := sur_wisl HSU.out.1 h3 h4 h5
                clear h1 h2 h3 h4 h5 h6 HRC
                go_upto_region 28 with (go_at_call 8; refine (HNM.out _ _).mono ?_; rintro e wq ⟨rfl, hwq⟩; have hwq := hwq.symm; subst hwq)
                go_loopw [15] (fun vk wx => ∃ (k : Nat) (v2 : Value) (C2 : List (Array Value)), k ≤ o.X.length ∧ vk = .int .i64 (k : Nat) ∧ Hid (Mid w wx Z w.heap.size sb g B r #[.int .i64 a0, .int .i64 a1, .slice (some ⟨bo, oo, none⟩) os.length cO] N (wisl S (o.X.take k)) v2 C2 ob #[.int .i64 o.d, .int .i64 o.on, .int .u64 (o.c : Nat), .slice ab o.b.length cb, .int .i64 o.l.v, .int .u64 (o.l.c : Nat), .int .u64 (o.l.h : Nat), .string (nstr o.l.d), .slice aX o.X.length cX, .int .i64 o.r] A5 wb (.slice aL ss.length pL) (.slice aB Bs6.length pB) (.slice aE (igf (ss.map fun l => (getr13 L l).2)).length pE) L ss)) (fun vk _ => o.X.length - (intOf vk).toNat)
                case atStart => exact ⟨0, v, Cs, by omega, rfl, HM9.out⟩
                case round =>
                  obtain ⟨k, v2, C2, hk, rfl, HMK⟩ := hrel
                  clear HM9 o8
                  have o8 : wr.cell? ⟨ob, 8, none⟩ = some (.slice aX o.X.length cX) := blk_cell (j := 8) HMK.out.o rfl
                  by_cases hlk : k < o.X.length
                  · have gl : (k : Int) < (o.X.length : Int) := by omega
                    obtain ⟨x, hx⟩ : ∃ x, o.X[k]? = some x := ⟨_, List.getElem?_eq_getElem hlk⟩
                    have HSK := hide (wisl_snoc S hx)
                    obtain ⟨bX, oX, va, nx, vc, rfl, hbx, rfl, hlx, hxl, hcell⟩ := HVX.out.at hx
                    have HXX : Hid (Lkx x.1 ∧ x.2.length ≤ 140737488351232) := ⟨hlx, hxl⟩
                    have HBX : Hid (∀ wx, Below w.heap.size w wx → BSl wx (.slice va x.2.length vc) x.2) := fun wx h => hbx.move (keep_below h)
                    have HCX : Hid (∀ wx, Below w.heap.size w wx → ∀ j u, (bcs x (.slice va x.2.length vc))[j]? = some u → wx.cell? ⟨bX, oX + k * 5 + j, none⟩ = some u) := fun wx h j u hu => keep_below h _ _ (hcell j u hu)
                    clear hx hbx hlx hxl hcell
                    go_upto_region 30 with fail
                    have HMT : Hid (∀ t : Ext wr, Below w.heap.size w t.w') := fun t => HMK.out.h.n.b.trans (t.h.mono HMK.out.h.n.b.size)
                    have f8 : ∀ t : Ext wr, t.w'.cell? ⟨ob, 8, none⟩ = some (.slice (some ⟨bX, oX, none⟩) o.X.length cX) := fun t => keep_below t.h _ _ o8
                    have f4 : ∀ t : Ext wr, t.w'.cell? ⟨bX, oX + k * 5 + 4, none⟩ = some (.slice va x.2.length vc) := fun t => HCX.out _ (HMT.out t) 4 _ rfl
                    have HQ1 : Hid (∀ w', (∃ t : Ext wr, w' = t.w') → ∀ j u, (lcs x.1)[j]? = some u → w'.cell? ⟨bX, oX + k * 5 + j, none⟩ = some u) := fun w' ⟨t, e⟩ j u h => by
                      rw [e]
                      refine HCX.out _ (HMT.out t) j u ?_
                      rcases j with _ | _ | _ | _ | j
                      · exact h
                      · exact h
                      · exact h
                      · exact h
                      · simp [lcs] at h
                    refine region_ext_tail 13 (by kernel_rfl) (by kernel_rfl) ?_
                    simp only [List.take_succ_cons, List.take_zero, List.drop_succ_cons, List.drop_zero]
                    repeat (
                      with_reducible refine wpQuiet_step (fun K hK => ?_)
                      first
                        | (refine qstep_lkAt rfl rfl bX (oX + k * 5) x.1 rfl HQ1.out (hK _ ?_); clear hK K)
                        | (go_simp
                           with_reducible refine hK _ ?_; clear hK K))
                    refine wpQuiet_nil ?_
                    rintro _ ⟨t5, rfl⟩
                    have HM5 := hide (HMK.out.next t5.h)
                    clear f8 f4 HQ1 HMT o8 HMK
                    generalize t5.w' = w5' at *
                    have HWI := hide (with13_any w5' sb Z v2 C2 (wisl S (o.X.take k)) HM5.out.h.cb HM5.out.h.zs HM5.out.h.z HM5.out.h.sv (by have h1 := HSU.out.2.1; have h2 := HSU.out.2.2; have h3 := len_wisl (o.X.take k) S; have h4 := HX10.out; rw [List.length_take] at h3; omega) x.1 HXX.out.1 (.slice va x.2.length vc) x.2 (fun wy hy => HBX.out wy (HM5.out.h.n.b.trans (hy.below HM5.out.h.n.b.size (fun q e => by have := HM5.out.h.zw; omega)))) HXX.out.2)
                    go_upto_region 29 with (go_at_call 14; refine HWI.out.mono ?_; rintro e wx ⟨rfl, hsp⟩)
                    obtain ⟨v3, C3, hmx⟩ := HM5.out.sure hsp
                    have HMZ := hide hmx
                    clear hsp hmx HWI HM5
                    go_wp2_with fail
                    rw [show (k : Int) + 1 = ((k + 1 : Nat) : Int) from by omega]
                    go_roundw
                    case rel =>
                      exact ⟨k + 1, v3, C3, by omega, rfl, by rw [HSK.out]; exact HMZ.out⟩
                    case measure => simp [intOf]; omega
                  · have gl : ¬ (k : Int) < (o.X.length : Int) := by omega
                    have hk2 : k = o.X.length := by omega
                    subst hk2
                    rw [List.take_length] at HMK
                    go_wp2_with fail
                    go_meet
                    case rel => exact ⟨false, N, wisl S o.X, v2, C2, rfl, HMK.out.h, HSN.out, by have h1 := HSU.out.2.2; have h2 := len_wisl o.X S; have h3 := HXL.out; omega, (fun h => by cases h), HMK.out.s⟩
            · have e2 : (o.d == 2) = false := beq_eq_false_iff_ne.2 d2
              by_cases d3 : o.d = 3
              · have e3 : (o.d == 3) = true := beq_iff_eq.2 d3
                have HRC := hide (forr_cases r L o.l o.b HM.out.h.ok)
                have HPF : Hid (∀ wx (vb : Value), Mid w wx Z w.heap.size sb g B r #[.int .i64 a0, .int .i64 a1, .slice (some ⟨bo, oo, none⟩) os.length cO] L S v Cs ob #[.int .i64 o.d, .int .i64 o.on, .int .u64 (o.c : Nat), .slice ab o.b.length cb, .int .i64 o.l.v, .int .u64 (o.l.c : Nat), .int .u64 (o.l.h : Nat), .string (nstr o.l.d), .slice aX o.X.length cX, .int .i64 o.r] A5 wb (.slice aL ss.length pL) (.slice aB Bs6.length pB) (.slice aE (igf (ss.map fun l => (getr13 L l).2)).length pE) L ss → (∀ wy, Kp (fun q => q = g) wx wy → BSl wy vb o.b) → Calls Tryz.prog 18 #[.pointer (some ⟨g, 0, none⟩), .agg (lcs o.l), vb] wx fun e w' => e = .returned (.int .i64 ((forr13 r L o.l o.b).1 : Nat)) ∧ Hid (Mid w w' Z w.heap.size sb g B r #[.int .i64 a0, .int .i64 a1, .slice (some ⟨bo, oo, none⟩) os.length cO] (forr13 r L o.l o.b).2 S v Cs ob #[.int .i64 o.d, .int .i64 o.on, .int .u64 (o.c : Nat), .slice ab o.b.length cb, .int .i64 o.l.v, .int .u64 (o.l.c : Nat), .int .u64 (o.l.h : Nat), .string (nstr o.l.d), .slice aX o.X.length cX, .int .i64 o.r] A5 wb (.slice aL ss.length pL) (.slice aB Bs6.length pB) (.slice aE (igf (ss.map fun l => (getr13 L l).2)).length pE) L ss)) := fun wx vb hm hb => by
                  refine (force13_any wx g B r L hm.h.n.s o.l HOX.out.1 vb o.b hb).mono ?_
                  rintro e w' ⟨he, hs, hk⟩
                  refine ⟨he, hm.of hs hk ?_⟩
                  rcases HRC.out with ⟨_, h⟩ | ⟨_, _, h⟩
                  · rw [h]; exact hm.h.ok
                  · exact h
                obtain ⟨R, hR⟩ : ∃ R, forr13 r L o.l o.b = R := ⟨_, rfl⟩
                rw [hR] at HRC HPF
                clear hR
                obtain ⟨er, N⟩ := R
                simp only at HRC HPF
                go_upto_region 32 with fail
                go_cut [10, 67] (fun u10 _ wx => u10 = .bool ((er : Int) != 0) ∧ Hid (Mid w wx Z w.heap.size sb g B r #[.int .i64 a0, .int .i64 a1, .slice (some ⟨bo, oo, none⟩) os.length cO] N S v Cs ob #[.int .i64 o.d, .int .i64 o.on, .int .u64 (o.c : Nat), .slice ab o.b.length cb, .int .i64 o.l.v, .int .u64 (o.l.c : Nat), .int .u64 (o.l.h : Nat), .string (nstr o.l.d), .slice aX o.X.length cX, .int .i64 o.r] A5 wb (.slice aL ss.length pL) (.slice aB Bs6.length pB) (.slice aE (igf (ss.map fun l => (getr13 L l).2)).length pE) L ss))
                case first =>
                  refine kStart 6 10 (fun wx => wx.heap[ob]? = some (.cells #[.int .i64 o.d, .int .i64 o.on, .int .u64 (o.c : Nat), .slice ab o.b.length cb, .int .i64 o.l.v, .int .u64 (o.l.c : Nat), .int .u64 (o.l.h : Nat), .string (nstr o.l.d), .slice aX o.X.length cX, .int .i64 o.r] 43 (0, 0))) rfl (by kernel_rfl) ?_
                  have hbd : Below w7.heap.size w7 w7.drew := by
                    refine Below.drew ?_
                    exact Below.refl _ _
                  have HMX := hide (HM.out.next hbd)
                  clear hbd HM o0
                  generalize w7.drew = w8 at *
                  have hS8 := HMX.out.o
                  refine kTake 0 _ (by decide) rfl (by kernel_rfl) (by kernel_rfl) (by kernel_rfl) (fun _ _ _ h => h) rfl (fun wy => by first | (go_simp; done) | (go_simp; rfl) | rfl) (fun _ => hS8) ?_
                  (try simp only [Act.put]); (try simp only [LsA, Ls0, LsS])
                  refine kTake 1 _ (by decide) rfl (by kernel_rfl) (by kernel_rfl) (by kernel_rfl) (fun _ _ _ h => h) rfl (fun wy => by first | (go_simp; done) | (go_simp; rfl) | rfl) (fun _ => hS8) ?_
                  (try simp only [Act.put]); (try simp only [LsA, Ls0, LsS])
                  refine kLoad 2 [6] _ (by decide) rfl (by kernel_rfl) (by kernel_rfl) (by kernel_rfl) (by kernel_rfl) (fun _ _ _ h => h) rfl hS8 (fun wy hy => exec_lkAtQ13 (l := o.l) rfl rfl (fun j u hu => blk_cell (j := 4 + j) hy (by rcases j with _ | _ | _ | _ | j; exact hu; exact hu; exact hu; exact hu; simp [lcs] at hu))) ?_
                  (try simp only [Act.put]); (try simp only [LsA, Ls0, LsS])
                  refine kTake 3 _ (by decide) rfl (by kernel_rfl) (by kernel_rfl) (by kernel_rfl) (fun _ _ _ h => h) rfl (fun wy => by first | (go_simp; done) | (go_simp; rfl) | rfl) (fun _ => hS8) ?_
                  (try simp only [Act.put]); (try simp only [LsA, Ls0, LsS])
                  refine kLoad 4 [5,6] _ (by decide) rfl (by kernel_rfl) (by kernel_rfl) (by kernel_rfl) (by kernel_rfl) (fun _ _ _ h => h) rfl hS8 (fun wy hy => by have hy0 := blk_cell (j := 3) hy rfl; first | (go_simp; done) | (go_simp; rfl) | rfl) ?_
                  (try simp only [Act.put]); (try simp only [LsA, Ls0, LsS])
                  refine kStep 5 rfl (by kernel_rfl) (fun K hK => ?_)
                  have HCP := hide (copy_any w8 (.slice ab o.b.length cb) o.b (HVB4.out _ HMX.out.h.n.b) HOX.out.2.2)
                  go_simp
                  refine HCP.out.mono ?_
                  rintro e w9 ⟨vb, rfl, hob, hb3⟩
                  obtain ⟨ac, cc, rfl, -⟩ := own_formG hob
                  have HVV : Hid (w9.ownsRow w8.heap.size 5 1 (.slice ac o.b.length cc) o.b.length (bv o.b)) := hob
                  have HGO : Hid (g < w8.heap.size) := blk_lt HMX.out.h.n.s.c
                  have HMY := hide (HMX.out.next hb3)
                  have hS9 := HMY.out.o
                  refine (Hid.out hK) _ _ (fun _ => hS9) ?_
                  clear hK K
                  (try simp only [Act.put]); (try simp only [LsA, Ls0, LsS])
                  clear hS8 HCP hob hb3 HMX
                  have hS8 := hS9
                  have HMX := HMY
                  clear hS9 HMY
                  refine kStep 6 rfl (by kernel_rfl) (fun K hK => ?_)
                  go_simp
                  refine (HPF.out w9 _ HMX.out (fun wy hy => BSl.own (hy.owns HVV.out (fun q hq e => by have := (HVV.out.lt q hq).1; have := HGO.out; omega)) HVB.out.byte)).mono ?_
                  rintro e wa ⟨rfl, HMY⟩
                  refine (Hid.out hK) _ _ (fun h => absurd h (by decide)) ?_
                  clear hK K
                  (try simp only [Act.put]); (try simp only [LsA, Ls0, LsS])
                  clear hS8 HMX HVV HGO
                  refine kStep 7 rfl (by kernel_rfl) (fun K hK => ?_)
                  go_simp
                  refine (HNM.out _ _).mono ?_
                  rintro e wq ⟨rfl, hwq⟩
                  have hwq := hwq.symm
                  subst hwq
                  refine (Hid.out hK) _ _ (fun h => absurd h (by decide)) ?_
                  clear hK K
                  (try simp only [Act.put]); (try simp only [LsA, Ls0, LsS])
                  refine kTake 8 _ (by decide) rfl (by kernel_rfl) (by kernel_rfl) (by kernel_rfl) (fun _ _ _ h => h) rfl (fun wy => by first | (go_simp; done) | (go_simp; rfl) | rfl) (fun h => absurd h (by decide)) ?_
                  (try simp only [Act.put]); (try simp only [LsA, Ls0, LsS])
                  refine kTake 9 _ (by decide) rfl (by kernel_rfl) (by kernel_rfl) (by kernel_rfl) (fun _ _ _ h => h) rfl (fun wy => by first | (go_simp; done) | (go_simp; rfl) | rfl) (fun h => absurd h (by decide)) ?_
                  (try simp only [Act.put]); (try simp only [LsA, Ls0, LsS])
                  refine kDone (by kernel_rfl) ?_
                  go_wp2_with fail
                  go_meet
                  case rel => exact ⟨rfl, HMY.out⟩
                case rest =>
                  obtain ⟨rfl, HMQ⟩ := hcut
                  clear HM HPF o0
                  rcases HRC.out with ⟨h1, h2⟩ | ⟨h1, h2, h3⟩
                  · have erne : er ≠ 0 → (er : Int) ≠ 0 := fun h => by omega
                    have ge : ((er : Int) != 0) = true := bne_iff_ne.2 (erne h1)
                    have HN2 : Hid (N = L) := h2
                    clear h1 h2 HRC
                    rw [ge]
                    go_wp2_with fail
                    go_meet
                    case rel => exact ⟨true, N, S, v, Cs, rfl, HMQ.out.h, by rw [HN2.out]; exact HSU.out.1, by have := HSU.out.2.2; omega, fun _ => HN2.out, HMQ.out.s⟩
                  · have he0 : er = 0 := h1
                    subst he0
                    have HSW : Hid (Sur (wos S o.l) N) := sur_wos HSU.out.1 h2
                    have HLW := hide (len_wos S o.l)
                    clear h1 h2 h3 HRC
                    rw [show (((0 : Nat) : Int) != 0) = false from rfl]
                    have HWO := hide (without13_any wc sb Z v Cs S HMQ.out.h.cb HMQ.out.h.z HMQ.out.h.sv (by have h1 := HSU.out.2.1; have h2 := HSU.out.2.2; omega) o.l HOX.out.1)
                    have HCC : Hid (∀ j u, (lcs o.l)[j]? = some u → wc.cell? ⟨ob, 4 + j, none⟩ = some u) := fun j u hu => blk_cell (j := 4 + j) HMQ.out.o (by
                      rcases j with _ | _ | _ | _ | j
                      · exact hu
                      · exact hu
                      · exact hu
                      · exact hu
                      · simp [lcs] at hu)
                    go_wp2_with (first
                      | (refine wpList_lkAt rfl rfl ob 4 o.l rfl HCC.out ?_)
                      | (go_at_call 19; refine HWO.out.mono ?_; rintro e wx ⟨rfl, hsp⟩; have HMS := hide (HMQ.out.sure hsp)))
                    go_meet
                    case rel =>
                      obtain ⟨v3, C3, hm⟩ := HMS.out
                      exact ⟨false, N, wos S o.l, v3, C3, rfl, hm.h, HSW.out, by have h1 := HSU.out.2.2; have h2 := HLW.out; omega, (fun h => by cases h), hm.s⟩
              · have e3 : (o.d == 3) = false := beq_eq_false_iff_ne.2 d3
                by_cases d5 : o.d = 5
                · have e5 : (o.d == 5) = true := beq_iff_eq.2 d5
                  have HHC : Hid (∀ wx, Mid w wx Z w.heap.size sb g B r #[.int .i64 a0, .int .i64 a1, .slice (some ⟨bo, oo, none⟩) os.length cO] L S v Cs ob #[.int .i64 o.d, .int .i64 o.on, .int .u64 (o.c : Nat), .slice ab o.b.length cb, .int .i64 o.l.v, .int .u64 (o.l.c : Nat), .int .u64 (o.l.h : Nat), .string (nstr o.l.d), .slice aX o.X.length cX, .int .i64 o.r] A5 wb (.slice aL ss.length pL) (.slice aB Bs6.length pB) (.slice aE (igf (ss.map fun l => (getr13 L l).2)).length pE) L ss → Calls Tryz.prog 20 #[.pointer (some ⟨g, 0, none⟩), .agg (lcs o.l)] wx fun e w' => e = .returned (.bool (atB L o.l).isSome) ∧ Below wx.heap.size wx w') := fun wx hm => has13_bel wx g B r L hm.h.n.s o.l HOX.out.1
                  have HDC : Hid (∀ wx, Mid w wx Z w.heap.size sb g B r #[.int .i64 a0, .int .i64 a1, .slice (some ⟨bo, oo, none⟩) os.length cO] L S v Cs ob #[.int .i64 o.d, .int .i64 o.on, .int .u64 (o.c : Nat), .slice ab o.b.length cb, .int .i64 o.l.v, .int .u64 (o.l.c : Nat), .int .u64 (o.l.h : Nat), .string (nstr o.l.d), .slice aX o.X.length cX, .int .i64 o.r] A5 wb (.slice aL ss.length pL) (.slice aB Bs6.length pB) (.slice aE (igf (ss.map fun l => (getr13 L l).2)).length pE) L ss → Calls Tryz.prog 21 #[.pointer (some ⟨g, 0, none⟩), .agg (lcs o.l)] wx fun e w' => e = .returned (.bool (atB L o.l).isSome) ∧ Hid (Mid w w' Z w.heap.size sb g B r #[.int .i64 a0, .int .i64 a1, .slice (some ⟨bo, oo, none⟩) os.length cO] (delB L o.l) S v Cs ob #[.int .i64 o.d, .int .i64 o.on, .int .u64 (o.c : Nat), .slice ab o.b.length cb, .int .i64 o.l.v, .int .u64 (o.l.c : Nat), .int .u64 (o.l.h : Nat), .string (nstr o.l.d), .slice aX o.X.length cX, .int .i64 o.r] A5 wb (.slice aL ss.length pL) (.slice aB Bs6.length pB) (.slice aE (igf (ss.map fun l => (getr13 L l).2)).length pE) L ss)) := fun wx hm => by
                    refine (delete13_any wx g B r L hm.h.n.s o.l HOX.out.1).mono ?_
                    rintro e w' ⟨he, hs, hk⟩
                    exact ⟨he, hm.of hs hk (gok_del hm.h.ok o.l)⟩
                  have HH2 : Hid (∀ wx, Sto wx g B r (delB L o.l) → Calls Tryz.prog 20 #[.pointer (some ⟨g, 0, none⟩), .agg (lcs o.l)] wx fun e w' => e = .returned (.bool false) ∧ Below wx.heap.size wx w') := fun wx hm => by
                    have h := has13_bel wx g B r (delB L o.l) hm o.l HOX.out.1
                    rw [show (atB (delB L o.l) o.l).isSome = false by rw [atB_del, if_pos rfl]; rfl] at h
                    exact h
                  have HDN : Hid ((atB L o.l).isSome = false → delB L o.l = L) := fun h => delB_none (by simpa using h)
                  have HSW : Hid (Sur (wos S o.l) (delB L o.l)) := sur_wos HSU.out.1 (fun k hk => by rw [atB_del, if_neg hk])
                  have HLW := hide (len_wos S o.l)
                  have HC4 : Hid (∀ wx : World, wx.heap[ob]? = some (.cells #[.int .i64 o.d, .int .i64 o.on, .int .u64 (o.c : Nat), .slice ab o.b.length cb, .int .i64 o.l.v, .int .u64 (o.l.c : Nat), .int .u64 (o.l.h : Nat), .string (nstr o.l.d), .slice aX o.X.length cX, .int .i64 o.r] 43 (0, 0)) → ∀ j u, (lcs o.l)[j]? = some u → wx.cell? ⟨ob, 4 + j, none⟩ = some u) := fun wx h j u hu => blk_cell (j := 4 + j) h (by
                    rcases j with _ | _ | _ | _ | j
                    · exact hu
                    · exact hu
                    · exact hu
                    · exact hu
                    · simp [lcs] at hu)
                  generalize (atB L o.l).isSome = th at *
                  have HCA := hide (HC4.out w7 HM.out.o)
                  go_upto_region 37 with (first
                    | (refine wpList_lkAt rfl rfl ob 4 o.l rfl HCA.out ?_)
                    | (go_at_call 20; refine (HHC.out w7 HM.out).mono ?_; rintro e w8 ⟨rfl, hb8⟩))
                  have HM8 := hide (HM.out.next hb8)
                  clear HHC HM HCA hb8 o0
                  have HCA := hide (HC4.out w8 HM8.out.o)
                  go_upto_region 39 with (first
                    | (refine wpList_lkAt rfl rfl ob 4 o.l rfl HCA.out ?_)
                    | (refine wpList_lkAt rfl rfl ob 4 o.l rfl HCB9.out ?_)
                    | (go_at_call 21; refine (HDC.out w8 HM8.out).mono ?_; rintro e w9 ⟨rfl, HM9⟩; have HCB9 := hide (HC4.out w9 HM9.out.o))
                    | (go_at_call 20; refine (HH2.out w9 HM9.out.h.n.s).mono ?_; rintro e wa ⟨rfl, hba⟩))
                  have HMA := hide (HM9.out.next hba)
                  clear HM8 HM9 HCA HCB9 HDC HH2 hba
                  have HWO := hide (without13_any wa sb Z v Cs S HMA.out.h.cb HMA.out.h.z HMA.out.h.sv (by have h1 := HSU.out.2.1; have h2 := HSU.out.2.2; omega) o.l HOX.out.1)
                  have HCC := hide (HC4.out wa HMA.out.o)
                  go_wp2_with (first
                    | (refine wpList_lkAt rfl rfl ob 4 o.l rfl HCC.out ?_)
                    | (go_at_call 19; refine HWO.out.mono ?_; rintro e wx ⟨rfl, hsp⟩; have HMS := hide (HMA.out.sure hsp)))
                  go_meet
                  case rel =>
                    obtain ⟨v3, C3, hm⟩ := HMS.out
                    exact ⟨!th, delB L o.l, wos S o.l, v3, C3, rfl, hm.h, HSW.out, by have h1 := HSU.out.2.2; have h2 := HLW.out; omega, (fun h => HDN.out (by simpa using h)), hm.s⟩
                · have e5 : (o.d == 5) = false := beq_eq_false_iff_ne.2 d5
                  go_wp2_with fail
                  go_meet
                  case rel => exact ⟨false, L, S, v, Cs, rfl, HM.out.h, HSU.out.1, by have := HSU.out.2.2; omega, (fun h => by cases h), HM.out.s⟩
        case rest => as_aux_lemma =>
          obtain ⟨u, M, T, v', Cs', rfl, HR⟩ := hcut
          clear HH7 HO7 HW7 HSU o0
          have HSE2 := hide (see13_any wc g B r M HR.out.1.n.s HR.out.1.ok (HR.out.1.n.cb HCB.out))
          go_upto_region 42 with (go_at_call 11; refine HSE2.out.mono ?_; rintro e w8 ⟨⟨xL, xB, xE, tt, rfl, hsr, hsn⟩, hb8⟩; obtain ⟨yL, qL, rfl, -⟩ := own_formG hsn.l.o; obtain ⟨yE, qE, rfl, -⟩ := own_formG hsn.e.o; obtain ⟨Bs8, hBs8⟩ := id hsn.b; obtain ⟨yB, qB, rfl, -⟩ := own_formG hBs8.o)
          have HTL : Hid (tt.length ≤ 65536) := by
            have h1 := hsr.1.length_eq
            rw [List.length_map] at h1
            have h2 := HR.out.1.n.s.n
            have h3 := HR.out.1.n.s.h.2
            show _ ≤ _
            omega
          have hB9 : Below wc.heap.size wc (w8.alloc (.cells #[.slice yL tt.length qL, .slice yB Bs8.length qB, .slice yE (igf (tt.map fun l => (getr13 M l).2)).length qE, .int .i64 (szB M : Nat)] 49)) := hb8.trans ((below_alloc4 w8 _).mono hb8.size)
          have HH9 := hide (HR.out.1.next hB9)
          have HX9 : Hid ((w8.alloc (.cells #[.slice yL tt.length qL, .slice yB Bs8.length qB, .slice yE (igf (tt.map fun l => (getr13 M l).2)).length qE, .int .i64 (szB M : Nat)] 49)).heap[w8.heap.size]? = some (.cells #[.slice yL tt.length qL, .slice yB Bs8.length qB, .slice yE (igf (tt.map fun l => (getr13 M l).2)).length qE, .int .i64 (szB M : Nat)] 49 (0, 0))) := heap_alloc_new w8 _
          have HL9 := hide ((hsn.kp (Kp.of_below (S := fun _ => False) (below_alloc4 w8 (.cells #[.slice yL tt.length qL, .slice yB Bs8.length qB, .slice yE (igf (tt.map fun l => (getr13 M l).2)).length qE, .int .i64 (szB M : Nat)] 49))) (fun _ h => h.elim)).lists (by have := HTL.out; omega))
          have HW9 := hide (HR.out.2.2.2.2.kp (Kp.of_below (S := fun _ => False) hB9) (fun _ h => h.elim) (fun h => h.elim))
          have HV9 := hide (HW9.out.s.lists (by have := HSL.out.1; omega))
          have HSR := hide hsr
          have HR2 := hide HR.out.2
          clear HR HSE2 hsr hsn hBs8 hb8 hB9
          generalize w8.alloc (.cells #[.slice yL tt.length qL, .slice yB Bs8.length qB, .slice yE (igf (tt.map fun l => (getr13 M l).2)).length qE, .int .i64 (szB M : Nat)] 49) = w9 at *
          generalize w8.heap.size = nb at *
          have HIS := hide infoSn13
          have HAS : Hid (∀ w, (isAgg 49).run Tryz.prog w = .ok true w) := aggSn13
          have HX1 : Hid (∀ wx, Below w9.heap.size w9 wx → ∀ j u, (#[.slice yL tt.length qL, .slice yB Bs8.length qB, .slice yE (igf (tt.map fun l => (getr13 M l).2)).length qE, .int .i64 (szB M : Nat)] : Array Value)[j]? = some u → wx.cell? ⟨nb, 0 + j, none⟩ = some u) := fun wx hx j u hu => keep_below hx _ _ (blk_cell (j := 0 + j) HX9.out (by rw [Nat.zero_add]; exact hu))
          have HX2 : Hid (∀ j u, (#[.slice aL ss.length pL, .slice aB Bs6.length pB, .slice aE (igf (ss.map fun l => (getr13 L l).2)).length pE, .int .i64 (szB L : Nat)] : Array Value)[j]? = some u → w9.cell? ⟨wb, 0 + j, none⟩ = some u) := fun j u hu => blk_cell (j := 0 + j) HW9.out.x (by rw [Nat.zero_add]; exact hu)
          have HHX : Hid (∀ wx, Below w9.heap.size w9 wx → Hlr w wx Z w.heap.size sb g B r #[.int .i64 a0, .int .i64 a1, .slice (some ⟨bo, oo, none⟩) os.length cO] M T v' Cs') := fun wx hx => HH9.out.next hx
          have HSO : Hid (∀ wx, Below w9.heap.size w9 wx → Calls Tryz.prog 23 #[.agg #[.slice yL tt.length qL, .slice yB Bs8.length qB, .slice yE (igf (tt.map fun l => (getr13 M l).2)).length qE, .int .i64 (szB M : Nat)], .pointer (some ⟨g, 0, none⟩)] wx fun e w' => e = .returned (.bool true) ∧ Below w9.heap.size w9 w') := fun wx hx => by
            have h := HHX.out wx hx
            refine (sound13_any wx g B r M h.n.s h.ok (HCB.out.below h.n.b) HSR.out (HL9.out.1.mv (keep_below hx)) (HL9.out.2.1.mv (keep_below hx)) (HL9.out.2.2.mv (keep_below hx))).mono ?_
            rintro e w' ⟨he, hb⟩
            exact ⟨he, hx.trans (hb.mono hx.size)⟩
          have HTH : Hid (∀ wx, Below w9.heap.size w9 wx → Calls Tryz.prog 24 #[.pointer (some ⟨sb, 0, none⟩), .pointer (some ⟨g, 0, none⟩)] wx fun e w' => e = .returned (.bool true) ∧ Below w9.heap.size w9 w') := fun wx hx => by
            have h := HHX.out wx hx
            have h2 := HR2.out.2.1
            refine (there13_any wx g B r M h.n.s (h.n.cb HCB.out) sb Z v' Cs' T h.cb h.sv HR2.out.1 (by omega)).mono ?_
            rintro e w' ⟨he, hb⟩
            exact ⟨he, hx.trans (hb.mono hx.size)⟩
          cases u with
          | false =>
            have HX0 := hide (HX1.out w9 (Below.refl _ _))
            go_wp2_with (first
              | (refine wpList_aggAt rfl rfl HIS.out HAS.out nb 0 #[.slice yL tt.length qL, .slice yB Bs8.length qB, .slice yE (igf (tt.map fun l => (getr13 M l).2)).length qE, .int .i64 (szB M : Nat)] rfl rfl HX0.out ?_)
              | (go_at_call 23; refine (HSO.out _ (Below.refl _ _)).mono ?_; rintro e wa ⟨rfl, hba⟩)
              | (go_at_call 24; refine (HTH.out _ hba).mono ?_; rintro e wb' ⟨rfl, hbb⟩))
            go_roundw
            case rel => exact ⟨i + 1, spent + n, M, T, v', Cs', by omega, by omega, by go_num, by go_num, HHX.out _ hbb, HR2.out.1, hbr, HR2.out.2.1⟩
            case measure => simp [intOf]; omega
          | true =>
            have HSA : Hid (Calls Tryz.prog 22 #[.agg #[.slice yL tt.length qL, .slice yB Bs8.length qB, .slice yE (igf (tt.map fun l => (getr13 M l).2)).length qE, .int .i64 (szB M : Nat)], .agg #[.slice aL ss.length pL, .slice aB Bs6.length pB, .slice aE (igf (ss.map fun l => (getr13 L l).2)).length pE, .int .i64 (szB L : Nat)]] w9 fun e w' => e = .returned (.bool true) ∧ Below w9.heap.size w9 w') := by
              have hML := HR2.out.2.2.1 rfl
              subst hML
              have hst := srtd_uniq HH9.out.ok HSR.out HW9.out.r
              subst hst
              exact same13_any HL9.out.1 HV9.out.1 HL9.out.2.1 HV9.out.2.1 HL9.out.2.2 HV9.out.2.2
            have HX0 := hide (HX1.out w9 (Below.refl _ _))
            go_wp2_with (first
              | (refine wpList_aggAt rfl rfl HIS.out HAS.out nb 0 #[.slice yL tt.length qL, .slice yB Bs8.length qB, .slice yE (igf (tt.map fun l => (getr13 M l).2)).length qE, .int .i64 (szB M : Nat)] rfl rfl HX0.out ?_)
              | (refine wpList_aggAt rfl rfl HIS.out HAS.out wb 0 #[.slice aL ss.length pL, .slice aB Bs6.length pB, .slice aE (igf (ss.map fun l => (getr13 L l).2)).length pE, .int .i64 (szB L : Nat)] rfl rfl HX2.out ?_)
              | (refine wpList_aggAt rfl rfl HIS.out HAS.out nb 0 #[.slice yL tt.length qL, .slice yB Bs8.length qB, .slice yE (igf (tt.map fun l => (getr13 M l).2)).length qE, .int .i64 (szB M : Nat)] rfl rfl HXA.out ?_)
              | (go_at_call 22; refine HSA.out.mono ?_; rintro e wa ⟨rfl, hba⟩; have HXA := hide (HX1.out _ hba))
              | (go_at_call 23; refine (HSO.out _ hba).mono ?_; rintro e wc' ⟨rfl, hbc⟩)
              | (go_at_call 24; refine (HTH.out _ hbc).mono ?_; rintro e wb' ⟨rfl, hbb⟩))
            go_roundw
            case rel => exact ⟨i + 1, spent + n, M, T, v', Cs', by omega, by omega, by go_num, by go_num, HHX.out _ hbb, HR2.out.1, hbr, HR2.out.2.1⟩
            case measure => simp [intOf]; omega
      · have g3 : (262144 : Int) < (spent : Int) + (n : Int) := by omega
        clear HSU HO5
        have HOKL := hide HH5.out.ok
        have HBV : Hid (Below w.heap.size w w5) := HH5.out.n.b
        have HCY := hide (copy13s_any w5 g B r L HH5.out.n.s)
        have HLS : Hid (L.length ≤ 65536) := by have h2 := HH5.out.n.s.n; have h3 := HH5.out.n.s.h.2; show _ ≤ _; omega
        have HGW : Hid (w.heap.size ≤ g) := HH5.out.n.g
        go_wp2_with (first
          | (go_at_call 25; refine HCY.out.mono ?_; rintro e wy ⟨g2, B2, rfl, hs2, hs1, hk, hg2, hB2⟩; have HBY := hide (HBV.out.trans ((sto_below HH5.out.n.s hs1 hk).mono HBV.out.size)); have HSY := hide hs1; have HE1 := hide (see13_any wy g2 B2 r L hs2 HOKL.out (fun wz hz => HCB.out.below (HBY.out.trans (hz.below HBY.out.size (fun q e => by have := HBV.out.size; omega))))))
          | (go_at_call 11; refine HE1.out.mono ?_; rintro e wz ⟨⟨xL, xB, xE, tt, rfl, hsr, hsn⟩, hbz⟩; obtain ⟨yL, qL, rfl, -⟩ := own_formG hsn.l.o; obtain ⟨yE, qE, rfl, -⟩ := own_formG hsn.e.o; obtain ⟨Bs8, hBs8⟩ := id hsn.b; obtain ⟨yB, qB, rfl, -⟩ := own_formG hBs8.o; clear HE1; have HSN := hide hsn; have HSR := hide hsr; have HBZ := hide (HBY.out.trans (hbz.mono HBY.out.size)); have HE2 := hide (see13_any wz g B r L (HSY.out.next hbz) HOKL.out (fun wu hu => HCB.out.below (HBZ.out.trans (hu.below HBZ.out.size (fun q e => by have := HGW.out; omega))))))
          | (go_at_call 11; refine HE2.out.mono ?_; rintro e wu ⟨⟨zL, zB, zE, uu, rfl, hsr2, hsn2⟩, hbu⟩; obtain ⟨kL, pL', rfl, -⟩ := own_formG hsn2.l.o; obtain ⟨kE, pE', rfl, -⟩ := own_formG hsn2.e.o; obtain ⟨Bs9, hBs9⟩ := id hsn2.b; obtain ⟨kB, pB', rfl, -⟩ := own_formG hBs9.o; have HSM := hide (same_of13 HOKL.out HLS.out HSR.out hsr2 (HSN.out.kp (Kp.of_below (S := fun _ => False) hbu) (fun _ h => h.elim)) hsn2); have HBU := hide (HBZ.out.trans (hbu.mono HBZ.out.size)))
          | (go_at_call 22; refine HSM.out.mono ?_; rintro e wv ⟨rfl, hbv⟩))
        go_ret
        exact ⟨rfl, HBU.out.trans (hbv.mono HBU.out.size)⟩
    · by_cases hl2 : i < os.length
      · have g1 : (i : Int) < (os.length : Int) := by omega
        have g2 : ¬ (i : Int) < 200 := by omega
        have HOKL := hide HH.out.1.ok
        have HBV : Hid (Below w.heap.size w wr) := HH.out.1.n.b
        have HCY := hide (copy13s_any wr g B r L HH.out.1.n.s)
        have HLS : Hid (L.length ≤ 65536) := by have h2 := HH.out.1.n.s.n; have h3 := HH.out.1.n.s.h.2; show _ ≤ _; omega
        have HGW : Hid (w.heap.size ≤ g) := HH.out.1.n.g
        go_wp2_with (first
          | (go_at_call 25; refine HCY.out.mono ?_; rintro e wy ⟨g2, B2, rfl, hs2, hs1, hk, hg2, hB2⟩; have HBY := hide (HBV.out.trans ((sto_below HH.out.1.n.s hs1 hk).mono HBV.out.size)); have HSY := hide hs1; have HE1 := hide (see13_any wy g2 B2 r L hs2 HOKL.out (fun wz hz => HCB.out.below (HBY.out.trans (hz.below HBY.out.size (fun q e => by have := HBV.out.size; omega))))))
          | (go_at_call 11; refine HE1.out.mono ?_; rintro e wz ⟨⟨xL, xB, xE, tt, rfl, hsr, hsn⟩, hbz⟩; obtain ⟨yL, qL, rfl, -⟩ := own_formG hsn.l.o; obtain ⟨yE, qE, rfl, -⟩ := own_formG hsn.e.o; obtain ⟨Bs8, hBs8⟩ := id hsn.b; obtain ⟨yB, qB, rfl, -⟩ := own_formG hBs8.o; clear HE1; have HSN := hide hsn; have HSR := hide hsr; have HBZ := hide (HBY.out.trans (hbz.mono HBY.out.size)); have HE2 := hide (see13_any wz g B r L (HSY.out.next hbz) HOKL.out (fun wu hu => HCB.out.below (HBZ.out.trans (hu.below HBZ.out.size (fun q e => by have := HGW.out; omega))))))
          | (go_at_call 11; refine HE2.out.mono ?_; rintro e wu ⟨⟨zL, zB, zE, uu, rfl, hsr2, hsn2⟩, hbu⟩; obtain ⟨kL, pL', rfl, -⟩ := own_formG hsn2.l.o; obtain ⟨kE, pE', rfl, -⟩ := own_formG hsn2.e.o; obtain ⟨Bs9, hBs9⟩ := id hsn2.b; obtain ⟨kB, pB', rfl, -⟩ := own_formG hBs9.o; have HSM := hide (same_of13 HOKL.out HLS.out HSR.out hsr2 (HSN.out.kp (Kp.of_below (S := fun _ => False) hbu) (fun _ h => h.elim)) hsn2); have HBU := hide (HBZ.out.trans (hbu.mono HBZ.out.size)))
          | (go_at_call 22; refine HSM.out.mono ?_; rintro e wv ⟨rfl, hbv⟩))
        go_ret
        exact ⟨rfl, HBU.out.trans (hbv.mono HBU.out.size)⟩
      · have g1 : ¬ (i : Int) < (os.length : Int) := by omega
        have HOKL := hide HH.out.1.ok
        have HBV : Hid (Below w.heap.size w wr) := HH.out.1.n.b
        have HCY := hide (copy13s_any wr g B r L HH.out.1.n.s)
        have HLS : Hid (L.length ≤ 65536) := by have h2 := HH.out.1.n.s.n; have h3 := HH.out.1.n.s.h.2; show _ ≤ _; omega
        have HGW : Hid (w.heap.size ≤ g) := HH.out.1.n.g
        go_wp2_with (first
          | (go_at_call 25; refine HCY.out.mono ?_; rintro e wy ⟨g2, B2, rfl, hs2, hs1, hk, hg2, hB2⟩; have HBY := hide (HBV.out.trans ((sto_below HH.out.1.n.s hs1 hk).mono HBV.out.size)); have HSY := hide hs1; have HE1 := hide (see13_any wy g2 B2 r L hs2 HOKL.out (fun wz hz => HCB.out.below (HBY.out.trans (hz.below HBY.out.size (fun q e => by have := HBV.out.size; omega))))))
          | (go_at_call 11; refine HE1.out.mono ?_; rintro e wz ⟨⟨xL, xB, xE, tt, rfl, hsr, hsn⟩, hbz⟩; obtain ⟨yL, qL, rfl, -⟩ := own_formG hsn.l.o; obtain ⟨yE, qE, rfl, -⟩ := own_formG hsn.e.o; obtain ⟨Bs8, hBs8⟩ := id hsn.b; obtain ⟨yB, qB, rfl, -⟩ := own_formG hBs8.o; clear HE1; have HSN := hide hsn; have HSR := hide hsr; have HBZ := hide (HBY.out.trans (hbz.mono HBY.out.size)); have HE2 := hide (see13_any wz g B r L (HSY.out.next hbz) HOKL.out (fun wu hu => HCB.out.below (HBZ.out.trans (hu.below HBZ.out.size (fun q e => by have := HGW.out; omega))))))
          | (go_at_call 11; refine HE2.out.mono ?_; rintro e wu ⟨⟨zL, zB, zE, uu, rfl, hsr2, hsn2⟩, hbu⟩; obtain ⟨kL, pL', rfl, -⟩ := own_formG hsn2.l.o; obtain ⟨kE, pE', rfl, -⟩ := own_formG hsn2.e.o; obtain ⟨Bs9, hBs9⟩ := id hsn2.b; obtain ⟨kB, pB', rfl, -⟩ := own_formG hBs9.o; have HSM := hide (same_of13 HOKL.out HLS.out HSR.out hsr2 (HSN.out.kp (Kp.of_below (S := fun _ => False) hbu) (fun _ h => h.elim)) hsn2); have HBU := hide (HBZ.out.trans (hbu.mono HBZ.out.size)))
          | (go_at_call 22; refine HSM.out.mono ?_; rintro e wv ⟨rfl, hbv⟩))
        go_ret
        exact ⟨rfl, HBU.out.trans (hbv.mono HBU.out.size)⟩
end
end Go.Proofs.YtnkghcndaafmoaaGreatDoor

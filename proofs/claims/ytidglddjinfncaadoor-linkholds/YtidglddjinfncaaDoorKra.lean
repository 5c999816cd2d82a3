import Derived.Test.YtidglddjinfncaaDoorJg
import Derived.Great.BuildSlice
import Derived.Great.FillDense
import Derived.Maps.AppendAt
import Derived.Deep.RegionHeld
import Derived.Test.YtidglddjinfncaaDoorTie
import Derived.Test.YtidglddjinfncaaDoorCards
import Derived.ProofKit
namespace Go.Proofs.YtidglddjinfncaaDoor
section
open Go.RowKit Go
/-- What a walk over links has in hand. -/
structure Lks (w wx : World) (c : Array Value) : Prop where
  t : wx.heap[w.heap.size]? = some (.cells c 28 (0, 0))
  b : Below w.heap.size w wx
  c : Cb wx
theorem Lks.below {w wx wy : World} {c : Array Value} (h : Lks w wx c) (hb : Below wx.heap.size wx wy) : Lks w wy c := ⟨(hb.block _ (blk_lt h.t)).trans h.t, h.b.trans (hb.mono h.b.size), h.c.below hb⟩
theorem Lks.start {w : World} (c : Array Value) (hcb : Cb w) : Lks w (w.alloc (.cells c 28)) c := ⟨heap_alloc_new w _, below_alloc4 w _, hcb.below (below_alloc4 w _)⟩
/-- A link somewhere in a block. -/
theorem load_lk {w : World} (g o : Nat) (l : Lk) (hc : ∀ j u, (lcs l)[j]? = some u → w.cell? ⟨g, o + j, none⟩ = some u) : (Instr.loadAt 35 (.pointer (some ⟨g, o, none⟩))).run Tryd.prog w = .ok (.agg (lcs l)) w := by
  have hl := run_loadCells_list (P := Tryd.prog) (w := w) ⟨g, o, none⟩ (lcs l).toList (fun j v hv => by rw [addr_add]; exact hc j v (by simpa using hv))
  have hi := info61
  simp only [Instr.loadAt, Instr.sureAddr, Sem.run_bind, Sem.run_pure, Result.andThen]
  cases hq : Tryd.prog.info? 35 with
  | none => simp [hq] at hi
  | some i =>
    have hs : i.size = 4 := by simpa [hq] using hi
    have hn : (lcs l).toList.length = 4 := rfl
    rw [hn] at hl
    have ha : (isAgg 35).run Tryd.prog w = .ok true w := by
      unfold isAgg
      rw [Sem.run_bind, run_underlying Tryd.underlying35 w]
      simp
    simp [loadVar, ha, sizeOf, typeInfo, hq, hs, hl]
theorem qstep_lkAt {C : World → Prop} {ops : Array Oper} {o : Oper} {a : Act} {K : Act → Prop} {p : Operand} (hgd : Region.wanted o (yielded ops a.tmps) = true) (ho : o.op = .load 35 p) (g off : Nat) (l : Lk)
    (hp : a.eval p = .pointer (some ⟨g, off, none⟩)) (hc : ∀ w, C w → ∀ j u, (lcs l)[j]? = some u → w.cell? ⟨g, off + j, none⟩ = some u)
    (h : K (a.put o.dst (.agg (lcs l)))) : if Region.wanted o (yielded ops a.tmps) = true then o.quiet Tryd.prog a C K else K (a.put o.dst undef) := by
  rw [if_pos hgd]
  refine ⟨.agg (lcs l), fun w hC => ?_, h⟩
  unfold Oper.quietAt execOp
  simp only [ho, Sem.run_bind, hp, load_lk g off l (hc w hC), Result.andThen_ok]
  exact ⟨rfl, rfl⟩
theorem wpList_lkAt {ops : Array Oper} {rest : List Oper} {o : Oper} {a : Act} {Q : Exit → Act → World → Prop} {w : World} {p : Operand} (hgd : Region.wanted o (yielded ops a.tmps) = true) (ho : o.op = .load 35 p) (g off : Nat) (l : Lk)
    (hp : a.eval p = .pointer (some ⟨g, off, none⟩)) (hc : ∀ j u, (lcs l)[j]? = some u → w.cell? ⟨g, off + j, none⟩ = some u)
    (h : wpList Tryd.prog ops Q rest (a.put o.dst (.agg (lcs l))) w) : wpList Tryd.prog ops Q (o :: rest) a w := by
  refine wpList_wanted hgd fun K hK => ?_
  unfold Oper.wp execOp
  simp only [ho, Sem.run_bind, hp, load_lk g off l hc, Result.andThen_ok]
  exact hK _ _ h
/-- The reference's Less. -/
theorem refLess_any (w : World) (a b : Lk) (ha : Lkb a) (hb : Lkb b) : Calls Tryd.prog 24 #[lkv a, lkv b] w fun e w' => e = .returned (.bool (llt a b)) ∧ Below w.heap.size w w' := by
  have h := lLess_any w a.v a.c a.h (nstr a.d) b.v b.c b.h (nstr b.d) ha.h (by rw [ha.size]; exact ha.n) hb.h (by rw [hb.size]; exact hb.n)
  unfold lb at h
  rw [sl_nstr ha.d, sl_nstr hb.d] at h
  exact h
set_option maxRecDepth 1000000 in
set_option maxHeartbeats 2000000 in
theorem order_any (w : World) (aL : Option Addr) (nL cL : Nat) (v1 v2 v3 v4 : Value) (hcb : Cb w) (hL : LinksIn w (.slice aL nL cL) nL) :
    Calls Tryd.prog 5 #[.agg #[.slice aL nL cL, v1, v2, v3, v4]] w fun e w' => e = .returned (.bool true) ∧ Below w.heap.size w w' := by
  have HX0 := hide (Lks.start #[.slice aL nL cL, v1, v2, v3, v4] hcb)
  have HL := hide hL
  have hmx := hL.max
  clear hcb hL
  go_enter Tryd.func5, Tryd.ntmps5
  go_wp2_with fail
  generalize w.alloc (.cells #[.slice aL nL cL, v1, v2, v3, v4] 28) = w0 at *
  refine (begun4_any w0 HX0.out.c).mono ?_
  rintro e w1 ⟨rfl, hb1⟩
  have HX1 := hide (HX0.out.below hb1)
  clear hb1 HX0
  go_wp2_with fail
  go_loopw [3] (fun ii wx => ∃ i : Nat, i ≤ 60 ∧ ii = .int .i64 (i : Nat) ∧ Hid (Lks w wx #[.slice aL nL cL, v1, v2, v3, v4])) (fun ii _ => 60 - (intOf ii).toNat)
  case atStart => exact ⟨0, by omega, rfl, HX1⟩
  case round =>
    obtain ⟨i, hi, rfl, HX⟩ := hrel
    clear HX1
    have q0 : wr.cell? ⟨w.heap.size, 0, none⟩ = some (.slice aL nL cL) := blk_cell HX.out.t rfl
    by_cases hil : i < nL ∧ i < 60
    · obtain ⟨hil, hi60⟩ := hil
      have g1 : (i : Int) < (nL : Int) := by omega
      have g2 : (i : Int) < 60 := by omega
      obtain ⟨a', cap', hv, hform⟩ := HL.out.form
      injection hv with e1 e2 e3
      subst e1
      obtain ⟨b, off, rfl, hcells⟩ := hform.resolve_left (by omega)
      obtain ⟨li, hli, hci⟩ := hcells i hil
      have HLI := hide hli
      have HCI := hide hci
      have HCS := hide hcells
      clear hform hcells hli hci e2 e3
      go_wp2_with fail
      go_loopw [4] (fun kk wx => ∃ k : Nat, k ≤ 60 ∧ kk = .int .i64 (k : Nat) ∧ Hid (Lks w wx #[.slice (some ⟨b, off, none⟩) nL cL, v1, v2, v3, v4])) (fun kk _ => 60 - (intOf kk).toNat)
      case atStart => exact ⟨0, by omega, rfl, HX⟩
      case round => as_aux_lemma =>
        rename World => wz
        obtain ⟨k, hk, rfl, HY⟩ := hrel
        clear HX q0
        have q0 : wz.cell? ⟨w.heap.size, 0, none⟩ = some (.slice (some ⟨b, off, none⟩) nL cL) := blk_cell HY.out.t rfl
        by_cases hkl : k < nL ∧ k < 60
        · obtain ⟨hkl, hk60⟩ := hkl
          have g3 : (k : Int) < (nL : Int) := by omega
          have g4 : (k : Int) < 60 := by omega
          obtain ⟨lk, hlk, hck⟩ := HCS.out k hkl
          go_wp2_with fail
          have k0 : ∀ t : Ext wz, t.w'.cell? ⟨w.heap.size, 0, none⟩ = some (.slice (some ⟨b, off, none⟩) nL cL) := fun t => Ext.cell q0 t
          have HQI : Hid (∀ wx, (∃ t : Ext wz, wx = t.w') → ∀ j u, (lcs li)[j]? = some u → wx.cell? ⟨b, off + i * 4 + j, none⟩ = some u) := by
            rintro _ ⟨t, rfl⟩ j u hu
            exact keep_below t.h _ _ (keep_below HY.out.b _ _ (HCI.out j u hu))
          have HQK : Hid (∀ wx, (∃ t : Ext wz, wx = t.w') → ∀ j u, (lcs lk)[j]? = some u → wx.cell? ⟨b, off + k * 4 + j, none⟩ = some u) := by
            rintro _ ⟨t, rfl⟩ j u hu
            exact keep_below t.h _ _ (keep_below HY.out.b _ _ (hck j u hu))
          have HC1 : Hid (∀ t : Ext wz, Calls Tryd.prog 23 #[.agg (lcs li), .agg (lcs lk)] t.w' fun e w'' => e = .returned (.bool (llt li lk)) ∧ ∃ t' : Ext wz, w'' = t'.w') := fun t => Calls.ext_below (less4_any t.w' li lk HLI.out hlk)
          have HC2 : Hid (∀ t : Ext wz, Calls Tryd.prog 24 #[.agg (lcs li), .agg (lcs lk)] t.w' fun e w'' => e = .returned (.bool (llt li lk)) ∧ ∃ t' : Ext wz, w'' = t'.w') := fun t => Calls.ext_below (refLess_any t.w' li lk HLI.out hlk)
          generalize llt li lk = lt at *
          refine region_ext (by kernel_rfl) (by kernel_rfl) ?_
          repeat (
            refine wpQuiet_step (fun K hK => ?_)
            first
              | (refine qstep_lkAt rfl rfl b (off + i * 4) li rfl HQI.out (hK _ ?_); clear hK K)
              | (refine qstep_lkAt rfl rfl b (off + k * 4) lk rfl HQK.out (hK _ ?_); clear hK K)
              | (go_simp
                 first
                   | (refine hK _ ?_; clear hK K)
                   | (apply Exists.intro
                      refine ⟨fun _ => ?_, hK _ ?_⟩
                      (first
                        | (go_at_call 23; exact HC1.out _)
                        | (go_at_call 24; exact HC2.out _))
                      clear hK K)))
          refine wpQuiet_nil ?_
          rintro _ ⟨tq, rfl⟩
          have HZ := hide (HY.out.below tq.h)
          go_wp2_with fail
          go_roundw
          case rel => exact ⟨k + 1, by omega, by go_num, HZ⟩
          case measure => simp [intOf]; omega
        · by_cases h3 : k < nL
          · have g3 : (k : Int) < (nL : Int) := by omega
            have g4 : ¬ (k : Int) < 60 := by omega
            go_wp2_with fail
            go_roundw
            case rel => exact ⟨i + 1, by omega, by go_num, HY⟩
            case measure => simp [intOf]; omega
          · have g3 : ¬ (k : Int) < (nL : Int) := by omega
            go_wp2_with fail
            go_roundw
            case rel => exact ⟨i + 1, by omega, by go_num, HY⟩
            case measure => simp [intOf]; omega
    · by_cases h3 : i < nL
      · have g3 : (i : Int) < (nL : Int) := by omega
        have g4 : ¬ (i : Int) < 60 := by omega
        go_wp2_with fail
        refine (begun4_any wr HX.out.c).mono ?_
        rintro e w9 ⟨rfl, hb9⟩
        have HB9 := hide (HX.out.below hb9).b
        clear hb9
        go_wp2_with fail
        go_ret
        exact ⟨rfl, HB9.out⟩
      · have g3 : ¬ (i : Int) < (nL : Int) := by omega
        go_wp2_with fail
        refine (begun4_any wr HX.out.c).mono ?_
        rintro e w9 ⟨rfl, hb9⟩
        have HB9 := hide (HX.out.below hb9).b
        clear hb9
        go_wp2_with fail
        go_ret
        exact ⟨rfl, HB9.out⟩
end
section
open Go.ChangeShapes Go.WideShapes Go.ChangeAt Go.RowKit Go.Deep Go.Joins Go
/-- A slice of uint64. -/
structure U64In (w : World) (v : Value) (hs : List Nat) : Prop where
  form : ∃ a c, v = .slice a hs.length c ∧ (hs = [] ∨ ∃ b off, a = some ⟨b, off, none⟩ ∧ ∀ j, j < hs.length → w.cell? ⟨b, off + j, none⟩ = some (.int .u64 ((hs.getD j 0 : Nat) : Int)))
  lt : ∀ x ∈ hs, x < 18446744073709551616
  max : hs.length ≤ 9223372036854775807
theorem U64In.move {w w' : World} {v : Value} {hs : List Nat} (h : U64In w v hs) (hm : ∀ p u, w.cell? p = some u → w'.cell? p = some u) : U64In w' v hs := by
  obtain ⟨⟨a, c, hv, hc⟩, h1, h2⟩ := h
  refine ⟨⟨a, c, hv, ?_⟩, h1, h2⟩
  rcases hc with hc | ⟨b, off, ha, hc⟩
  · exact .inl hc
  · exact .inr ⟨b, off, ha, fun j hj => hm _ _ (hc j hj)⟩
/-- What the way down gives of a slice of uint64. -/
theorem u64_open {H : Type} {enc : TypeId × Value → H} {W : World} {base fuel : Nat} {held : Bool} {v : Value} {y : DataW H × List MemPlace} (h : DataW.trod enc Tryd.prog W base (fun _ => true) held fuel 23 [v] = some y) : ∃ hs, U64In W v hs := by
  rcases open_ints Tryd.underlying23 Tryd.underlying33 Tryd.cells_u64 h with ⟨hcs, _⟩ | ⟨a, len, cap, zs, hcs, _, hl, hm, hz, _, hcell, hwf⟩
  · injection hcs with hcs _
    subst hcs
    exact ⟨[], ⟨none, 0, rfl, .inl rfl⟩, by simp, by simp⟩
  · injection hcs with hcs _
    subst hcs
    simp only [if_true] at hz
    have hlen : ((zs.take len).map Int.toNat).length = len := by simp; omega
    refine ⟨(zs.take len).map Int.toNat, ⟨some a, cap, by rw [hlen], ?_⟩, ?_, by rw [hlen]; unfold maxLen at hm; omega⟩
    · by_cases h0 : len = 0
      · left; subst h0; simp
      · right
        obtain ⟨b, off, spot⟩ := a
        have h1 := hcell 0 (by omega)
        have hspot : spot = none := by simpa [Addr.add] using World.cell?_spot h1
        subst hspot
        refine ⟨b, off, rfl, fun j hj => ?_⟩
        rw [hlen] at hj
        have h2 := hcell j (by omega)
        have hadd : (⟨b, off, none⟩ : Addr).add j = ⟨b, off + j, none⟩ := by unfold Addr.add; split <;> simp_all
        rw [hadd] at h2
        rw [h2]
        have hjz : j < zs.length := by omega
        have hb := bounds_u64 (hwf zs[j] (List.getElem_mem hjz))
        simp [List.getD, hj, hjz]
        omega
    · intro x hx
      simp only [List.mem_map] at hx
      obtain ⟨n, hn', rfl⟩ := hx
      have := bounds_u64 (hwf n (List.mem_of_mem_take hn'))
      omega

set_option maxRecDepth 1000000 in
/-- The argument opened, with its codecs. -/
theorem links_arg2 {H : Type} {enc : TypeId × Value → H} {W : World} {base : Nat} {r : Reach} {b0 : Nat} {held : Bool} {v0 : Value} {d0 : DataW H} {p : List MemPlace} (hv : Value.okWide Tryd.prog W r b0 28 v0)
    (h0 : DataW.Trod enc Tryd.prog W base (fun _ => true) held 28 v0 d0 p) (hsz : (d0.weights Tryd.prog 28).all (· ≤ reachBytes) = true) :
    ∃ aL nL cL aC hs cC aB nB cB v3 v4, v0 = .agg #[.slice aL nL cL, .slice aC (List.length hs) cC, .slice aB nB cB, v3, v4] ∧ LinksIn W (.slice aL nL cL) nL ∧ U64In W (.slice aC hs.length cC) hs ∧ RowsIn W (.slice aB nB cB) nB := by
  obtain ⟨c0, c1, c2, c3, c4, y0, y1, y2, y3, y4, m, rfl, hd, hy0, hy1, hy2, hy3, hy4⟩ := open_agg5 Tryd.underlying28 (by kernel_rfl) Tryd.cellsLinks hv h0
  subst hd
  have hs2 : (DataW.weightsEach Tryd.prog [22, 23, 24, 25, 26] [y0.1, y1.1, y2.1, y3.1, y4.1]).all (· ≤ reachBytes) = true := by
    simp only [DataW.weights, Tryd.underlying28] at hsz
    exact hsz
  obtain ⟨nL, hL⟩ := links_open hy0
  obtain ⟨nB, hB⟩ := rows_open hy2 hs2 (j := 2) rfl rfl
  obtain ⟨hs, hC⟩ := u64_open hy1
  obtain ⟨aL, cL, rfl, _⟩ := id hL.form
  obtain ⟨aB, cB, rfl, _⟩ := id hB.form
  obtain ⟨aC, cC, rfl, _⟩ := id hC.form
  exact ⟨aL, nL, cL, aC, hs, cC, aB, nB, cB, c3, c4, rfl, hL, hC, hB⟩

/-- The cells of links in a row. -/
def fcl (rs : List Lk) : List Value := rs.flatMap fun l => (lcs l).toList
theorem fcl_app (a b : List Lk) : fcl (a ++ b) = fcl a ++ fcl b := by simp [fcl]
theorem fcl_len : ∀ rs : List Lk, (fcl rs).length = rs.length * 4
  | [] => rfl
  | r :: rs => by
    have h := fcl_len rs
    have e : fcl (r :: rs) = (lcs r).toList ++ fcl rs := by simp [fcl]
    rw [e, List.length_append, h, List.length_cons]
    have : (lcs r).toList.length = 4 := rfl
    omega
theorem fcl_get : ∀ (rs : List Lk) (k : Nat) (l : Lk) (j : Nat) (u : Value), rs[k]? = some l → (lcs l)[j]? = some u → (fcl rs)[k * 4 + j]? = some u
  | [], k, l, j, u, h, _ => by simp at h
  | r :: rs, 0, l, j, u, h, hu => by
    simp at h
    subst h
    have e : fcl (r :: rs) = (lcs r).toList ++ fcl rs := by simp [fcl]
    have hj : j < (lcs r).size := by
      rcases Array.getElem?_eq_some_iff.1 hu with ⟨hj, _⟩
      exact hj
    rw [e, List.getElem?_append_left (by simpa using hj)]
    simpa using hu
  | r :: rs, k + 1, l, j, u, h, hu => by
    simp at h
    have e : fcl (r :: rs) = (lcs r).toList ++ fcl rs := by simp [fcl]
    have h4 : (lcs r).toList.length = 4 := rfl
    rw [e, List.getElem?_append_right (by omega)]
    have e2 : (k + 1) * 4 + j - (lcs r).toList.length = k * 4 + j := by omega
    rw [e2]
    exact fcl_get rs k l j u h hu
theorem fcl_one (rs : List Lk) : ∀ u ∈ fcl rs, u.oneCell' = true := by
  intro u hu
  simp only [fcl, List.mem_flatMap] at hu
  obtain ⟨l, _, hl⟩ := hu
  simp only [lcs, List.mem_cons, List.not_mem_nil, or_false] at hl
  rcases hl with rfl | rfl | rfl | rfl <;> rfl
theorem infoLk_ex : ∃ i, Tryd.prog.info? 35 = some i ∧ i.zero = some (.agg zlk) ∧ i.size = 4 ∧ i.bytes = 40 := by
  have h : (Tryd.prog.info? 35).map (fun i => (i.zero, i.size, i.bytes)) = some (some (.agg zlk), 4, 40) := by kernel_rfl
  cases hi : Tryd.prog.info? 35 with
  | none => rw [hi] at h; cases h
  | some i =>
    rw [hi] at h
    injection h with h
    injection h with h1 h2
    injection h2 with h2 h3
    exact ⟨i, rfl, h1, h2, h3⟩
theorem zip_parts (rs : List Lk) (i0 : Nat) : (rs.map lkv).zipIdx i0 = (rs.zipIdx i0).map fun x => (lkv x.1, x.2) := by
  rw [List.zipIdx_map]
  rfl
theorem fill_lks (rs : List Lk) (cells : Array Value) (hc : cells.size = rs.length * 4) : Instr.fill (fun i => some (i * 4, 4)) cells ((rs.zipIdx 0).map fun x => (x.2, lkv x.1)) = some (fcl rs).toArray := by
  obtain ⟨r, hr, hsz, hk⟩ := Great.fill_dense (s := 4) (by decide) (rs.map lkv) 0 cells (by
    intro v hv
    simp only [List.mem_map] at hv
    obtain ⟨l, _, rfl⟩ := hv
    rfl) (by rw [List.length_map, hc]; omega)
  have e : r = (fcl rs).toArray := by
    apply Array.ext_getElem?
    intro k
    have et : (fcl rs).toArray[k]? = (fcl rs)[k]? := List.getElem?_toArray
    rw [hk k, List.length_map, et]
    by_cases h : k < rs.length * 4
    · rw [if_pos ⟨by omega, by omega⟩, Nat.sub_zero, List.getElem?_map]
      have h4 : k / 4 < rs.length := by omega
      rw [List.getElem?_eq_getElem h4]
      simp only [Option.map_some, Option.bind_some]
      have hx : ∃ u, (lcs rs[k / 4])[k % 4]? = some u := by
        have : k % 4 < (lcs rs[k / 4]).size := by show k % 4 < 4; omega
        exact ⟨_, Array.getElem?_eq_getElem this⟩
      obtain ⟨u, hu⟩ := hx
      have hg := fcl_get rs (k / 4) rs[k / 4] (k % 4) u (List.getElem?_eq_getElem h4) hu
      have ek : k / 4 * 4 + k % 4 = k := by omega
      rw [ek] at hg
      rw [hg]
      exact hu
    · rw [if_neg (by omega), Array.getElem?_eq_none (by omega), List.getElem?_eq_none (by rw [fcl_len]; omega)]
  rw [e] at hr
  rw [zip_parts, List.map_map] at hr
  exact hr
theorem big24 {n : Nat} (h : n ≤ 1000) : ¬ n * 4 > 2 ^ 24 := by
  have : (2 : Nat) ^ 24 = 16777216 := by decide
  omega
theorem wpList_lks {ops : Array Oper} {rest : List Oper} {o : Oper} {a : Act} {w : World} {Q : Exit → Act → World → Prop} (hg : o.guard = none) (n : Nat) (parts : Array (Nat × Operand)) (ho : o.op = .buildSlice 22 n parts) (rs : List Lk) (hn : rs.length = n) (h0 : 0 < n) (h8 : n ≤ 1000)
    (hx : (parts.map fun (i, x) => (i, a.eval x)).toList = (rs.zipIdx 0).map fun x => (x.2, lkv x.1))
    (h : wpList Tryd.prog ops Q rest (a.put o.dst (.slice (some ⟨w.heap.size, 0, none⟩) n n)) (w.alloc (.cells (fcl rs).toArray 35))) : wpList Tryd.prog ops Q (o :: rest) a w := by
  obtain ⟨i, hi, hz, hs, _⟩ := infoLk_ex
  refine wpList_buildSlice hg 22 35 n _ ho (fcl rs).toArray i _ Tryd.underlying22 hi hz (by rw [hs]; exact big24 h8) (by rw [hs]; omega) ?_ h
  rw [hs, hx]
  exact fill_lks rs _ (by simp [hn])
/-- append of one link. -/
theorem append_lk {ops : Array Oper} {rest : List Oper} {o : Oper} {a : Act} {Q : Exit → Act → World → Prop} {w : World} (hgd : o.guard = none) (s x : Operand)
    (ho : o.op = .call { callee := .builtin .append, args := #[s, x], argTypes := #[22, 22] }) (B : Nat) (v : Value) (n : Nat) (rs : List Lk) (hs : a.eval s = v) (hown : w.ownsRow B 35 4 v n (fcl rs))
    (g : Nat) (l : Lk) (hx : a.eval x = .slice (some ⟨g, 0, none⟩) 1 1) (hg : w.heap[g]? = some (.cells (fcl [l]).toArray 35 (0, 0))) (hlen : n < 1099511627776) (hbase : B ≤ w.heap.size)
    (h : ∀ v' w', w'.ownsRow B 35 4 v' (n + 1) (fcl (rs ++ [l])) → w.grownBy w' v.ownBlock → wpList Tryd.prog ops Q rest (a.put o.dst v') w') : wpList Tryd.prog ops Q (o :: rest) a w := by
  obtain ⟨i, hi, hz0, hz1, hz2⟩ := infoLk_ex
  refine wpList_append_own_at w hgd s x 22 ho B 35 i _ 4 40 Tryd.underlying22 hi hz0 hz1 hz2 rfl (by decide) v n (fcl rs) hs hown ⟨g, 0, none⟩ 1 1 (fcl [l]) hx (by rw [fcl_len]; rfl) (fun j u hu => ?_) (fcl_one [l]) (by unfold maxLen; omega) (by omega) hbase fun v' w' h1 h2 _ _ => h v' w' (by rw [fcl_app]; exact h1) h2
  have hadd : (⟨g, 0, none⟩ : Addr).add j = ⟨g, j, none⟩ := by unfold Addr.add; split <;> simp_all
  rw [hadd]
  exact blk_cell hg (by rw [List.getElem?_toArray]; exact hu)
theorem own_form4 {w : World} {B : Nat} {e : TypeId} {v : Value} {n : Nat} {xs : List Value} (h : w.ownsRow B e 4 v n xs) : ∃ a cap, v = .slice a n cap ∧ (0 < n → ∃ g, a = some ⟨g, 0, none⟩) := by
  rcases h.2 with ⟨rfl, h0⟩ | ⟨g, cap, cur, rfl, _⟩
  · exact ⟨none, 0, by rw [h0], fun hp => by omega⟩
  · exact ⟨_, cap, rfl, fun _ => ⟨g, rfl⟩⟩
theorem own_lk {w : World} {B g n cap k : Nat} {rs : List Lk} {l : Lk} (h : w.ownsRow B 35 4 (.slice (some ⟨g, 0, none⟩) n cap) n (fcl rs)) (hk : rs[k]? = some l) : ∀ j u, (lcs l)[j]? = some u → w.cell? ⟨g, k * 4 + j, none⟩ = some u := fun j u hu => by
  have := h.cells (g := g) rfl (k * 4 + j) u (fcl_get rs k l j u hk hu)
  have hadd : (⟨g, 0, none⟩ : Addr).add (k * 4 + j) = ⟨g, k * 4 + j, none⟩ := by unfold Addr.add; split <;> simp_all
  rw [hadd] at this
  exact this
theorem own_lks (w : World) (rs : List Lk) (hn : 0 < rs.length) (hx : rs.length ≤ 1000) : (w.alloc (.cells (fcl rs).toArray 35)).ownsRow w.heap.size 35 4 (.slice (some ⟨w.heap.size, 0, none⟩) rs.length rs.length) rs.length (fcl rs) :=
  ⟨fcl_len rs, .inr ⟨w.heap.size, rs.length, _, rfl, Nat.le_refl _, heap_alloc_new w _, Nat.le_refl _, by unfold maxLen; omega, by simp [fcl_len], by
    show (fcl rs).toArray.toList.take (rs.length * 4) = fcl rs
    rw [List.toList_toArray, ← fcl_len, List.take_length]⟩⟩
end
section
open Go.RowKit Go
set_option maxRecDepth 1000000 in
set_option maxHeartbeats 1000000 in
theorem holds4_any (w : World) (l : Lk) (vb : Value) (b : List Nat) (hcb : Cb w) (hl : Lkb l) (hb : BSl w vb b) (hbl : b.length ≤ 140737488351232) :
    Calls Tryd.prog 21 #[lkv l, vb] w fun e w' => e = .returned (.bool (decide (lok l) && dholds l.h l.d b)) ∧ Below w.heap.size w w' := by
  have HB := hide hb
  have HBL := hide hbl
  have HL := hide hl
  have HCB := hide hcb
  obtain ⟨⟨a, cap, rfl, hn, hc⟩, hmax, hby⟩ := hb
  have HT : Hid ((w.alloc (.cells #[.int .i64 l.v, .int .u64 (l.c : Nat), .int .u64 (l.h : Nat), .string (nstr l.d)] 35)).heap[w.heap.size]? = some (.cells (lcs l) 35 (0, 0))) := heap_alloc_new w _
  have HB0 := hide (below_alloc4 w (.cells #[.int .i64 l.v, .int .u64 (l.c : Nat), .int .u64 (l.h : Nat), .string (nstr l.d)] 35))
  clear hn hc hby hbl hcb hl
  simp only [lkv]
  go_enter Tryd.func21, Tryd.ntmps21
  go_wp2_with fail
  generalize w.alloc (.cells #[.int .i64 l.v, .int .u64 (l.c : Nat), .int .u64 (l.h : Nat), .string (nstr l.d)] 35) = w0 at *
  refine (check_any w0 l HL.out).mono ?_
  rintro e w1 ⟨rfl, hb1⟩
  have q0 : w1.heap[w.heap.size]? = some (.cells (lcs l) 35 (0, 0)) := (hb1.block _ (blk_lt HT.out)).trans HT.out
  have HB1 : Hid (Below w.heap.size w w1) := HB0.out.trans (hb1.mono HB0.out.size)
  have c2 : w1.cell? ⟨w.heap.size, 2, none⟩ = some (.int .u64 (l.h : Nat)) := blk_cell q0 rfl
  have c3 : w1.cell? ⟨w.heap.size, 3, none⟩ = some (.string (nstr l.d)) := blk_cell q0 rfl
  have cv := conv_sb w1 (nstr l.d)
  clear hb1 q0
  by_cases hl : lok l
  · as_aux_lemma =>
    rw [if_pos hl]
    have HLK := hide hl
    clear hl
    have HS1 : Hid (BSl (Lib.bytesWorld w1 5 (nstr l.d)) (.slice (some ⟨w1.heap.size, 0, none⟩) (nstr l.d).size (grownCap w1 (nstr l.d).size 0 5)) l.d) := by
      have h := conv_sb_bsl w1 (nstr l.d) (by rw [HL.out.size]; have := HL.out.n; omega)
      rw [sl_nstr HL.out.d] at h
      exact h
    have HB2 : Hid (Below w.heap.size w (Lib.bytesWorld w1 5 (nstr l.d))) := HB1.out.trans ((conv_sb_below w1 _).mono HB1.out.size)
    go_wp2_with fail
    clear cv c2 c3
    generalize grownCap w1 (nstr l.d).size 0 5 = G at *
    generalize w1.heap.size = gg at *
    generalize Lib.bytesWorld w1 5 (nstr l.d) = w2 at *
    refine (holds3_any w2 l.h _ _ l.d b (HCB.out.below HB2.out) HL.out.h HS1.out (HB.out.move (keep_below HB2.out)) HBL.out).mono ?_
    rintro e w3 ⟨rfl, hb3⟩
    have HB3 : Hid (Below w.heap.size w w3) := HB2.out.trans (hb3.mono HB2.out.size)
    clear hb3
    go_wp2_with fail
    go_ret
    exact ⟨by rw [decide_eq_true HLK.out, Bool.true_and]; rfl, HB3.out⟩
  · as_aux_lemma =>
    rw [if_neg hl]
    have HLK := hide hl
    clear hl
    go_wp2_with fail
    go_ret
    exact ⟨by rw [decide_eq_false HLK.out, Bool.false_and]; rfl, HB1.out⟩
end
section
open Go.RowKit Go
section
variable {P : Program} {Q : Exit → Act → World → Prop} {S : World → Prop} {l : List Oper} {fuel : Nat} {listed : Array Bool} {a : Act} {w : World}
/-- A region that draws its order, by hand: begin. -/
theorem heldStart {id : Nat} (hm : P.follows .mixedOrders = true) (h : wpAnyH P .any l.toArray Q S l.length (Array.replicate l.length false) a w.drew) : (Code.region id l.toArray true).wp P Q a w :=
  wp_region_held (S := S) hm (by simpa using h)
/-- Take one first that reads alone. -/
theorem heldTake (i : Nat) {oi : Oper} (v : Value) (hi : l[i]? = some oi) (hs : Region.noSelect l.toArray = true) (hf : Region.free .any l.toArray listed i = true) (hr : (Region.ready .any l.toArray listed).contains i = true)
    (hQ : ∀ c a w, Q (.panic c) (a.put oi.dst v) w → Q (.panic c) a w) (hw : Region.wanted oi (yielded l.toArray a.tmps) = true) (hS : S w) (hy : ∀ w, S w → (execOp a.eval oi).run P w = .ok (.value v) w)
    (h : wpAnyH P .any l.toArray Q S fuel (listed.setIfInBounds i true) (a.put oi.dst v) w) : wpAnyH P .any l.toArray Q S (fuel + 1) listed a w :=
  wpAnyH_take (by simpa using hi) hs hf hr hQ (.inl ⟨hw, hy⟩) hS h
/-- The only one that may come up. -/
theorem heldStep (i : Nat) {oi : Oper} (hi : l[i]? = some oi) (hr : Region.ready .any l.toArray listed = [i])
    (h : ∀ K : Act → World → Prop, Hid (∀ a w, S w → (S w → wpAnyH P .any l.toArray Q S fuel (listed.setIfInBounds i true) a w) → K a w) → if Region.wanted oi (yielded l.toArray a.tmps) = true then Oper.wp P oi a w K Q else K (a.put oi.dst undef) w) : wpAnyH P .any l.toArray Q S (fuel + 1) listed a w :=
  wpAnyH_ready hr (by simp) (AllReadyH.cons (by simpa using hi) (fun K hK => h K hK) AllReadyH.nil)
theorem heldDone (hr : Region.ready .any l.toArray listed = []) (h : Q .normal a w) : wpAnyH P .any l.toArray Q S fuel listed a w := wpAnyH_done hr h fuel
end
end
section
open Go.RowKit Go
theorem cells_of {w : World} {d : Nat} {l : List Value} {t : TypeId} (h : w.heap[d]? = some (.cells l.toArray t (0, 0))) : w.rangeAt d 0 l := fun j v hv => by
  rw [Nat.zero_add]
  exact blk_cell h (by rw [List.getElem?_toArray]; exact hv)
theorem bslD_of {w : World} {d : Nat} {D : List Nat} {t : TypeId} (h : w.heap[d]? = some (.cells (bv D).toArray t (0, 0))) (hb : ∀ x ∈ D, x < 256) (hl : D.length = 32) : BSl w (.slice (some ⟨d, 0, none⟩) 32 32) D := by
  have h2 := bsl_block h hb (by rw [hl]; decide)
  rw [hl] at h2
  exact h2
theorem exec_text {o : Oper} {a : Act} {x : Operand} {xs : List Nat} {w : World} {v : Value} (ho : o.op = .convert 47 9 x) (hx : a.eval x = v) (h : BSl w v xs) : (execOp a.eval o).run Tryd.prog w = .ok (.value (.string (nstr xs))) w := by
  unfold execOp
  simp only [ho, Sem.run_bind, hx, h.text, Result.andThen_ok]
  rfl
theorem exec_loadLk {o : Oper} {a : Act} {p : Operand} {g : Nat} {cs : Array Value} {w : World} (ho : o.op = .load 35 p) (hp : a.eval p = .pointer (some ⟨g, 0, none⟩)) (hn : cs.size = 4) (hg : w.heap[g]? = some (.cells cs 35 (0, 0))) : (execOp a.eval o).run Tryd.prog w = .ok (.value (.agg cs)) w := by
  unfold execOp
  have hr : (Instr.loadAt 35 (.pointer (some ⟨g, 0, none⟩))).run Tryd.prog w = .ok (.agg cs) w := by
    simp only [Instr.loadAt, Instr.sureAddr, Sem.run_bind, Sem.run_pure, Result.andThen]
    exact run_loadVar_row (P := Tryd.prog) w g 35 35 cs (0, 0) _ hg Tryd.underlying35 rfl (by rw [hn]; exact info61)
  simp only [ho, Sem.run_bind, hp, hr, Result.andThen_ok]
  rfl
/-- What LinkNamed has in hand. -/
structure Nn (w wx : World) (cs : Array Value) (gl : Nat) (cl : Array Value) : Prop where
  x : Lks w wx cs
  l : wx.heap[gl]? = some (.cells cl 35 (0, 0))
  g : w.heap.size < gl
theorem Nn.below {w wx wy : World} {cs : Array Value} {gl : Nat} {cl : Array Value} (h : Nn w wx cs gl cl) (hb : Below wx.heap.size wx wy) : Nn w wy cs gl cl := ⟨h.x.below hb, (hb.block _ (blk_lt h.l)).trans h.l, h.g⟩
theorem bv_set2 (l : List Nat) (j x : Nat) : (bv l).set j (.int .u8 ((x : Nat) : Int)) = bv (l.set j x) := by simp [bv, List.map_set]
theorem flip_bit (q j : Nat) (hq : q < 256) (hj : j < 8) : ∃ z : Nat, bits .xor .u8 (q : Int) (2 ^ j % 256) = (z : Int) ∧ z < 256 ∧ z ≠ q := by
  have h2 : 2 ^ j < 256 := by
    have : 2 ^ j ≤ 2 ^ 7 := Nat.pow_le_pow_right (by decide) (by omega)
    have e : 2 ^ 7 = 128 := rfl
    omega
  have e : (2 : Int) ^ j % 256 = ((2 ^ j : Nat) : Int) := by
    rw [Int.emod_eq_of_lt (Int.pow_nonneg (by decide))]
    · rw [Int.natCast_pow]; rfl
    · have : ((2 ^ j : Nat) : Int) < 256 := by omega
      rw [Int.natCast_pow] at this
      exact this
  refine ⟨q ^^^ 2 ^ j, by rw [e, u8_xor_nat _ _ hq h2], Nat.xor_lt_two_pow (n := 8) hq h2, fun h => ?_⟩
  have h3 : q ^^^ 2 ^ j ^^^ q = 0 := by rw [h, Nat.xor_self]
  rw [Nat.xor_comm, ← Nat.xor_assoc, Nat.xor_self, Nat.zero_xor] at h3
  have : 0 < 2 ^ j := Nat.pow_pos (by decide)
  omega
theorem set_ne {D : List Nat} {k z q : Nat} (hk : k < D.length) (hq : D.getD k 0 = q) (hz : z ≠ q) : D.set k z ≠ D := fun e => hz (by
  have h2 := congrArg (fun l => l.getD k 0) e
  have h3 : (D.set k z).getD k 0 = z := by rw [List.getD_eq_getElem?_getD, List.getElem?_set_self hk, Option.getD_some]
  rw [← h3, ← hq]
  exact h2)
theorem mod256 (i : Nat) : (i : Int) % 256 = ((i % 256 : Nat) : Int) := by omega
theorem own_ok {xs : List Nat} : lok ⟨1, 85, 0, xs⟩ ↔ xs.length ≤ 64 := by
  constructor
  · rintro (⟨h, _⟩ | ⟨_, _, h | h⟩)
    · exact absurd (show (1 : Int) = 0 from h) (by decide)
    · exact absurd (show (0 : Nat) = 18 from h.1) (by decide)
    · exact h.2
  · exact fun h => .inr ⟨rfl, (by decide : 85 < 9223372036854775808), .inr ⟨rfl, h⟩⟩
theorem own_holds {xs ys : List Nat} : (decide (lok ⟨1, 85, 0, xs⟩) && dholds 0 xs ys) = (decide (xs.length ≤ 64) && decide (xs = ys)) := by
  unfold dholds
  by_cases h : xs.length ≤ 64
  · have h1 : lok ⟨1, 85, 0, xs⟩ := own_ok.2 h
    simp [h, h1]
  · have h1 : ¬ lok ⟨1, 85, 0, xs⟩ := fun e => h (own_ok.1 e)
    simp [h, h1]
theorem Lks.kp {w wx wy : World} {c : Array Value} {gx : Nat} (h : Lks w wx c) (hk : Kp (fun q => q = gx) wx wy) (h3 : w.heap.size < gx) (hp : 0 < w.heap.size) : Lks w wy c :=
  ⟨(hk.block _ (blk_lt h.t) (by omega)).trans h.t, h.b.trans (hk.below h.b.size (fun q e => by omega)), h.c.kp hk (fun e => by omega)⟩
end
section
open Go.RowKit Go
theorem refHolds4_any (w : World) (l : Lk) (vb : Value) (b : List Nat) (hl : Lkb l) (hb : BSl w vb b) (hbl : b.length ≤ 140737488351232) :
    Calls Tryd.prog 22 #[lkv l, vb] w fun e w' => e = .returned (.bool (decide (lok l) && dholds l.h l.d b)) ∧ Below w.heap.size w w' := by
  have h := lHolds_any w l.v l.c l.h (nstr l.d) vb b hl.h (by rw [hl.size]; exact hl.n) hb hbl
  rw [sl_nstr hl.d] at h
  exact h
theorem intact_b {w : World} {base g cap : Nat} {xs : List Nat} (h : Lnt w base g cap xs) (vb : Value) (hb : BSl w vb xs) :
    Calls Tryd.prog 20 #[.slice (some ⟨g, 0, none⟩) xs.length cap, vb] w fun e w' => e = .returned (.bool true) ∧ Below w.heap.size w w' :=
  (intact_any h vb hb).mono fun _ _ ⟨he, hk⟩ => ⟨he, hk.below (Nat.le_refl _) (fun _ h => h.elim)⟩
theorem Lnt.below4 {w w' : World} {base g cap : Nat} {xs : List Nat} (h : Lnt w base g cap xs) (hb : Below w.heap.size w w') : Lnt w' base g cap xs := h.kp (Kp.of_below (S := fun _ => False) hb) (fun h => h)
/-- What LinkHolds has in hand: its argument, and what was lent. -/
structure Hw (w wx : World) (cs : Array Value) (M g cap : Nat) (xs : List Nat) : Prop where
  x : Lks w wx cs
  n : Lnt wx M g cap xs
theorem Hw.below {w wx wy : World} {cs : Array Value} {M g cap : Nat} {xs : List Nat} (h : Hw w wx cs M g cap xs) (hb : Below wx.heap.size wx wy) : Hw w wy cs M g cap xs := ⟨h.x.below hb, h.n.below4 hb⟩
/-- A load of a link in a region that draws and then makes memory. -/
theorem still_loadLk {ops : Array Oper} {o : Oper} {a : Act} {K : Act → Prop} {p : Operand} {w : World} (hgd : Region.wanted o (yielded ops a.tmps) = true) (ho : o.op = .load 35 p) (g : Nat) (cs : Array Value)
    (hp : a.eval p = .pointer (some ⟨g, 0, none⟩)) (hn : cs.size = 4) (hg : w.heap[g]? = some (.cells cs 35 (0, 0)))
    (h : K (a.put o.dst (.agg cs))) : if Region.wanted o (yielded ops a.tmps) = true then o.still Tryd.prog a w K else K (a.put o.dst undef) := by
  rw [if_pos hgd]
  unfold Oper.still
  rw [exec_loadLk ho hp hn hg, Oper.stillUpon_value]
  exact h

theorem wpList_lks4 {ops : Array Oper} {rest : List Oper} {o : Oper} {a : Act} {w : World} {Q : Exit → Act → World → Prop} {x0 x1 x2 x3 : Operand} (hg : o.guard = none) (ho : o.op = .buildSlice 22 4 #[(0, x0), (1, x1), (2, x2), (3, x3)]) (r0 r1 r2 r3 : Lk)
    (h0 : a.eval x0 = lkv r0) (h1 : a.eval x1 = lkv r1) (h2 : a.eval x2 = lkv r2) (h3 : a.eval x3 = lkv r3)
    (h : wpList Tryd.prog ops Q rest (a.put o.dst (.slice (some ⟨w.heap.size, 0, none⟩) 4 4)) (w.alloc (.cells (fcl [r0, r1, r2, r3]).toArray 35))) : wpList Tryd.prog ops Q (o :: rest) a w :=
  wpList_lks hg 4 _ ho [r0, r1, r2, r3] rfl (by decide) (by decide) (by simp [h0, h1, h2, h3]) h
theorem wpList_lks1 {ops : Array Oper} {rest : List Oper} {o : Oper} {a : Act} {w : World} {Q : Exit → Act → World → Prop} {x0 : Operand} (hg : o.guard = none) (ho : o.op = .buildSlice 22 1 #[(0, x0)]) (r0 : Lk)
    (h0 : a.eval x0 = lkv r0)
    (h : wpList Tryd.prog ops Q rest (a.put o.dst (.slice (some ⟨w.heap.size, 0, none⟩) 1 1)) (w.alloc (.cells (fcl [r0]).toArray 35))) : wpList Tryd.prog ops Q (o :: rest) a w :=
  wpList_lks hg 1 _ ho [r0] rfl (by decide) (by decide) (by simp [h0]) h

set_option maxRecDepth 1000000 in
set_option maxHeartbeats 4000000 in
theorem hold_any (w : World) (v3 v4 : Value) (aL : Option Addr) (nL cL : Nat) (aC : Option Addr) (hs : List Nat) (cC : Nat) (aB : Option Addr) (nB cB : Nat) (hcb : Cb w) (hL : LinksIn w (.slice aL nL cL) nL) (hC : U64In w (.slice aC hs.length cC) hs) (hB : RowsIn w (.slice aB nB cB) nB) :
    Calls Tryd.prog 4 #[.agg #[.slice aL nL cL, .slice aC hs.length cC, .slice aB nB cB, v3, v4]] w fun e w' => e = .returned (.bool true) ∧ Below w.heap.size w w' := by
  have HX0 := hide (Lks.start #[.slice aL nL cL, .slice aC hs.length cC, .slice aB nB cB, v3, v4] hcb)
  have HB := hide hB
  have HL := hide hL
  have HC := hide hC
  have hmx := hB.max
  have hml := hL.max
  have hmc := hC.max
  clear hcb hB hL hC
  go_enter Tryd.func4, Tryd.ntmps4
  go_wp2_with fail
  generalize w.alloc (.cells #[.slice aL nL cL, .slice aC hs.length cC, .slice aB nB cB, v3, v4] 28) = w0 at *
  refine (begun4_any w0 HX0.out.c).mono ?_
  rintro e w1 ⟨rfl, hb1⟩
  have HX1 := hide (HX0.out.below hb1)
  clear hb1 HX0
  go_wp2_with fail
  go_loopw [3, 4] (fun aa ii wx => ∃ i al : Nat, i ≤ 1000 ∧ al ≤ 262144 ∧ aa = .int .i64 (al : Nat) ∧ ii = .int .i64 (i : Nat) ∧ Hid (Lks w wx #[.slice aL nL cL, .slice aC hs.length cC, .slice aB nB cB, v3, v4])) (fun _ ii _ => 1000 - (intOf ii).toNat)
  case atStart => exact ⟨0, 0, by omega, by omega, rfl, rfl, HX1⟩
  case round =>
    obtain ⟨i, al, hi, hal, rfl, rfl, HX⟩ := hrel
    clear HX1
    have q0 : wr.cell? ⟨w.heap.size, 2, none⟩ = some (.slice aB nB cB) := blk_cell HX.out.t rfl
    by_cases hil : i < nB ∧ i < 1000
    · obtain ⟨hil, hi60⟩ := hil
      have g1 : (i : Int) < (nB : Int) := by omega
      have g2 : (i : Int) < 1000 := by omega
      obtain ⟨a', cap', hv, _, hform⟩ := HB.out.form
      injection hv with e1 e2 e3
      subst e1
      obtain ⟨b, off, rfl, hcells⟩ := hform.resolve_left (by omega)
      obtain ⟨u, xs, hcu, hbu, hxl⟩ := hcells i hil
      have HCU := hide hcu
      have HU0 := hide hbu
      have HXL := hide hxl
      have cu : wr.cell? ⟨b, off + i, none⟩ = some u := keep_below HX.out.b _ _ hcu
      obtain ⟨⟨au, cau, hu, hnu, hcau⟩, hmu, hbyu⟩ := hbu
      subst hu
      clear hform hcells hcu hnu hcau hbyu e2 e3
      by_cases hsz : 262144 < al + xs.length
      · as_aux_lemma =>
        have g3 : (262144 : Int) < (al : Int) + (xs.length : Int) := by omega
        go_wp2_with fail
        refine (begun4_any wr HX.out.c).mono ?_
        rintro e w9 ⟨rfl, hb9⟩
        have HB9 := hide (HX.out.below hb9).b
        clear hb9
        go_wp2_with fail
        go_ret
        exact ⟨rfl, HB9.out⟩
      · have g3 : ¬ (262144 : Int) < (al : Int) + (xs.length : Int) := by omega
        have hx6 : xs.length ≤ 262144 := by omega
        have q1 : wr.cell? ⟨w.heap.size, 1, none⟩ = some (.slice aC hs.length cC) := blk_cell HX.out.t rfl
        have HAL : Hid ((al : Int) + (xs.length : Int) = ((al + xs.length : Nat) : Int)) := by show _ = _; omega
        have g4 : 0 ≤ (al : Int) + (xs.length : Int) := by omega
        have g5 : (al : Int) + (xs.length : Int) ≤ 262144 := by omega
        go_upto_if 40 with fail
        go_cut [5] (fun cc wx => ∃ c : Nat, cc = .int .u64 (c : Nat) ∧ Hid (c < 18446744073709551616) ∧ Hid (Lks w wx #[.slice aL nL cL, .slice aC hs.length cC, .slice (some ⟨b, off, none⟩) nB cB, v3, v4]))
        case first => as_aux_lemma =>
          by_cases hc0 : 0 < hs.length
          · obtain ⟨aC', cC', hvc, hcf⟩ := HC.out.form
            injection hvc with e1 e2 e3
            subst e1
            have hsne : hs ≠ [] := fun h => by rw [h] at hc0; simp at hc0
            obtain ⟨bC, oC, rfl, hcc⟩ := hcf.resolve_left hsne
            have hmod : i % hs.length < hs.length := Nat.mod_lt _ hc0
            have cc := keep_below HX.out.b _ _ (hcc (i % hs.length) hmod)
            have gc0 : (0 : Int) < (hs.length : Int) := by omega
            have htm : (i : Int).tmod (hs.length : Int) = ((i % hs.length : Nat) : Int) := by rw [Int.tmod_eq_emod_of_nonneg (by omega)]; omega
            have hml2 : ((i % hs.length : Nat) : Int) < (hs.length : Int) := by omega
            have HCC : Hid (hs.getD (i % hs.length) 0 < 18446744073709551616) := by
              show _ < _
              rw [List.getD_eq_getElem?_getD, List.getElem?_eq_getElem hmod, Option.getD_some]
              exact HC.out.lt _ (List.getElem_mem hmod)
            clear hcf hcc e2 e3 hmod
            generalize hs.getD (i % hs.length) 0 = c at *
            generalize i % hs.length = im at *
            go_wp2_with fail
            go_region
            go_wp2_with fail
            go_meet
            case rel => exact ⟨c, rfl, HCC, HX.out.below ((Below.refl _ _).drew)⟩
          · have gc0 : ¬ (0 : Int) < (hs.length : Int) := by omega
            go_wp2_with fail
            go_meet
            case rel => exact ⟨85, rfl, by show _ < _; decide, HX⟩
        case rest =>
          rename World => wq
          obtain ⟨c, rfl, HCC, HX2⟩ := hcut
          clear HX q0 cu q1
          have HX := HX2
          clear HX2
          have q0 : wq.cell? ⟨w.heap.size, 2, none⟩ = some (.slice (some ⟨b, off, none⟩) nB cB) := blk_cell HX.out.t rfl
          have cu : wq.cell? ⟨b, off + i, none⟩ = some (.slice au xs.length cau) := keep_below HX.out.b _ _ HCU.out
          go_wp2_with fail
          refine (lend_any wq _ xs (HU0.out.move (keep_below HX.out.b)) HXL.out).mono ?_
          rintro e y1 ⟨gb, capb, rfl, hob, hbb⟩
          have HX1 := hide (HX.out.below hbb)
          have HN1 : Hid (Lnt y1 wq.heap.size gb capb xs) := ⟨hob, HU0.out.byte, HXL.out⟩
          clear hob hbb HX q0 cu
          have q0 : y1.cell? ⟨w.heap.size, 2, none⟩ = some (.slice (some ⟨b, off, none⟩) nB cB) := blk_cell HX1.out.t rfl
          have cu : y1.cell? ⟨b, off + i, none⟩ = some (.slice au xs.length cau) := keep_below HX1.out.b _ _ HCU.out
          go_wp2_with fail
          refine (of_any y1 c _ xs HX1.out.c HN1.out.bsl HXL.out).mono ?_
          rintro e y2 ⟨rfl, hb2⟩
          have HW2 := hide (Hw.mk (HX1.out.below hb2) (HN1.out.below4 hb2))
          clear hb2 HX1 HN1 q0 cu
          have HLB := hide (lof_lkb xs HCC.out)
          have HRO := hide (fun wx h => lOf_any wx c (.slice au xs.length cau) xs h HXL.out)
          generalize hlof : lof c xs = r at *
          clear hlof
          obtain ⟨x, bad⟩ := r
          have HLB : Hid (Lkb x) := HLB.out
          simp only [lkv] at *
          have HW3 := hide (HW2.out.below (below_alloc4 y2 (.cells #[.int .i64 x.v, .int .u64 (x.c : Int), .int .u64 (x.h : Int), .string (nstr x.d)] 35)))
          have HG3 : Hid ((y2.alloc (.cells #[.int .i64 x.v, .int .u64 (x.c : Int), .int .u64 (x.h : Int), .string (nstr x.d)] 35)).heap[y2.heap.size]? = some (.cells (lcs x) 35 (0, 0))) := heap_alloc_new y2 _
          clear HW2
          have q0 := blk_cell (j := 2) HW3.out.x.t rfl
          have cu := keep_below HW3.out.x.b _ _ HCU.out
          go_wp2_with fail
          generalize y2.alloc (.cells #[.int .i64 x.v, .int .u64 (x.c : Int), .int .u64 (x.h : Int), .string (nstr x.d)] 35) = y3 at *
          generalize y2.heap.size = gl at *
          refine (HRO.out y3 (HU0.out.move (keep_below HW3.out.x.b))).mono ?_
          rintro e y4 ⟨rfl, hb4⟩
          have HW4 := hide (HW3.out.below hb4)
          have HG4 : Hid (y4.heap[gl]? = some (.cells (lcs x) 35 (0, 0))) := (hb4.block _ (blk_lt HG3.out)).trans HG3.out
          clear hb4 HW3 HG3 q0 cu HRO
          have HW5 := hide (HW4.out.below (below_alloc4 y4 (.cells #[.int .i64 x.v, .int .u64 (x.c : Int), .int .u64 (x.h : Int), .string (nstr x.d)] 35)))
          have HG5 : Hid ((y4.alloc (.cells #[.int .i64 x.v, .int .u64 (x.c : Int), .int .u64 (x.h : Int), .string (nstr x.d)] 35)).heap[gl]? = some (.cells (lcs x) 35 (0, 0))) := blk_alloc _ HG4.out
          have HM5 : Hid ((y4.alloc (.cells #[.int .i64 x.v, .int .u64 (x.c : Int), .int .u64 (x.h : Int), .string (nstr x.d)] 35)).heap[y4.heap.size]? = some (.cells (lcs x) 35 (0, 0))) := heap_alloc_new y4 _
          clear HW4 HG4
          have HEQ : Hid (∀ wx, (Op.equalIn 10000 35 (.agg (lcs x)) (.agg (lcs x))).run Tryd.prog wx = .ok true wx) := fun wx => by
            have h := eqlk wx (a := x) (b := x) HLB.out.d HLB.out.d
            rw [decide_eq_true rfl] at h
            exact h
          have q0 := blk_cell (j := 2) HW5.out.x.t rfl
          have cu := keep_below HW5.out.x.b _ _ HCU.out
          go_wp2_with (first
            | (refine wpList_loadLk rfl rfl gl _ rfl rfl HG5.out ?_)
            | (refine wpList_loadLk rfl rfl y4.heap.size _ rfl rfl HM5.out ?_)
            | (refine wpList_nelk rfl rfl _ _ true rfl rfl (HEQ.out _) ?_)
            | (go_at_call 11; refine (num4_any _ _).mono ?_; rintro e wn ⟨rfl, rfl⟩))
          generalize y4.alloc (.cells #[.int .i64 x.v, .int .u64 (x.c : Int), .int .u64 (x.h : Int), .string (nstr x.d)] 35) = y5 at *
          generalize y4.heap.size = gm at *
          refine (intact_b HW5.out.n _ (HU0.out.move (keep_below HW5.out.x.b))).mono ?_
          rintro e y6 ⟨rfl, hb6⟩
          have HW7 := hide (HW5.out.below hb6)
          have HW6 := hide (HW5.out.below (hb6.trans ((Below.refl _ _).drew)))
          have HM6 : Hid (y6.drew.heap[gm]? = some (.cells (lcs x) 35 (0, 0))) := (hb6.block _ (blk_lt HM5.out)).trans HM5.out
          clear hb6 HW5 HG5 HM5 q0 cu HEQ
          have q0 := blk_cell (j := 2) HW6.out.x.t rfl
          have cu := keep_below HW6.out.x.b _ _ HCU.out
          have cd : y6.drew.cell? ⟨gm, 3, none⟩ = some (.string (nstr x.d)) := blk_cell HM6.out rfl
          have cv := (HU0.out.move (keep_below HW6.out.x.b)).text
          go_wp2_with fail
          refine wp_region_still_tail 20 (by kernel_rfl) (by kernel_rfl) ?_
          simp only [List.take_succ_cons, List.take_zero, List.drop_succ_cons, List.drop_zero]
          refine wpStill_step (fun K hK => ?_)
          refine still_loadLk rfl rfl gm (lcs x) rfl rfl HM6.out (hK _ ?_)
          clear hK K
          repeat (
            refine wpStill_step (fun K hK => ?_)
            go_simp
            (refine hK _ ?_; clear hK K))
          refine wpStill_nil ?_
          go_wp2_with (refine wpList_lks4 rfl rfl x ⟨1, c, 0, xs⟩ ⟨0, 112, 18, x.d⟩ ⟨1, c, 18, xs⟩ rfl rfl rfl rfl ?_)
          have HRB : Hid (∀ l ∈ [x, ⟨1, c, 0, xs⟩, ⟨0, 112, 18, x.d⟩, ⟨1, c, 18, xs⟩], Lkb l) := by
            have hx9 : xs.length ≤ 9223372036854775807 := by omega
            intro l hl
            simp only [List.mem_cons, List.not_mem_nil, or_false] at hl
            rcases hl with rfl | rfl | rfl | rfl
            · exact HLB.out
            · exact ⟨HCC.out, by show 0 < _; decide, HU0.out.byte, hx9⟩
            · exact ⟨by show 112 < _; decide, by show 18 < _; decide, HLB.out.d, HLB.out.n⟩
            · exact ⟨HCC.out, by show 18 < _; decide, HU0.out.byte, hx9⟩
          have HRO : Hid ((y6.alloc (.cells (fcl [x, ⟨1, c, 0, xs⟩, ⟨0, 112, 18, x.d⟩, ⟨1, c, 18, xs⟩]).toArray 35)).drew.ownsRow y6.heap.size 35 4 (.slice (some ⟨y6.heap.size, 0, none⟩) 4 4) 4 (fcl [x, ⟨1, c, 0, xs⟩, ⟨0, 112, 18, x.d⟩, ⟨1, c, 18, xs⟩])) := own_lks y6 [x, ⟨1, c, 0, xs⟩, ⟨0, 112, 18, x.d⟩, ⟨1, c, 18, xs⟩] (by show 0 < 4; decide) (by show 4 ≤ 1000; decide)
          have HBR := hide ((below_alloc4 y6 (.cells (fcl [x, ⟨1, c, 0, xs⟩, ⟨0, 112, 18, x.d⟩, ⟨1, c, 18, xs⟩]).toArray 35)).drew)
          have HRL : Hid ([x, ⟨1, c, 0, xs⟩, ⟨0, 112, 18, x.d⟩, ⟨1, c, 18, xs⟩].length = 4) := rfl
          clear HW6 HM6 HLB HCC cd cv q0 cu
          generalize (y6.alloc (.cells (fcl [x, ⟨1, c, 0, xs⟩, ⟨0, 112, 18, x.d⟩, ⟨1, c, 18, xs⟩]).toArray 35)).drew = y7 at *
          generalize [x, ⟨1, c, 0, xs⟩, ⟨0, 112, 18, x.d⟩, ⟨1, c, 18, xs⟩] = rs0 at *
          go_wp2_with fail
          go_loopw [11, 12] (fun rr kk wx => ∃ (k : Nat) (rs : List Lk), k ≤ 8 ∧ kk = .int .i64 (k : Nat) ∧ Hid (rs.length = 4 + k) ∧ Hid (∀ l ∈ rs, Lkb l) ∧ Hid (wx.ownsRow y6.heap.size 35 4 rr (4 + k) (fcl rs)) ∧ Hid (Below y6.heap.size y6 wx)) (fun _ kk _ => 8 - (intOf kk).toNat)
          case atStart => exact ⟨0, rs0, by omega, rfl, HRL, HRB, HRO, HBR⟩
          case round =>
            rename World => wz
            obtain ⟨k, rs, hk, rfl, HLn, HLb, HO, HBy⟩ := hrel
            clear HRL HRB HRO HBR
            have HWz := hide (HW7.out.below HBy.out)
            have q0 : wz.cell? ⟨w.heap.size, 0, none⟩ = some (.slice aL nL cL) := blk_cell HWz.out.x.t rfl
            obtain ⟨ar, cr, hvr, hrg⟩ := own_form4 HO.out
            subst hvr
            obtain ⟨g, rfl⟩ := hrg (by omega)
            clear hrg
            by_cases hkl : k < nL ∧ k < 8
            · as_aux_lemma =>
              obtain ⟨hkl, hk8⟩ := hkl
              have g6 : (k : Int) < (nL : Int) := by omega
              have g7 : (k : Int) < 8 := by omega
              obtain ⟨a', cap', hv, hform⟩ := HL.out.form
              injection hv with e1 e2 e3
              subst e1
              obtain ⟨bl, ol, rfl, hcells⟩ := hform.resolve_left (by omega)
              obtain ⟨lk, hlk, hck⟩ := hcells k hkl
              have HLK := hide hlk
              have HQ : Hid (∀ j u, (lcs lk)[j]? = some u → wz.cell? ⟨bl, ol + k * 4 + j, none⟩ = some u) := fun j u hu => keep_below HWz.out.x.b _ _ (hck j u hu)
              have HOa := hide (own_below (B := 0) HO.out (below_alloc4 wz (.cells (fcl [lk]).toArray 35)) rfl)
              have HBa : Hid (Below y6.heap.size y6 (wz.alloc (.cells (fcl [lk]).toArray 35))) := HBy.out.alloc HBy.out.size _
              clear hform hcells hck hlk e2 e3
              go_wp2_with (first
                | (refine wpList_lkAt rfl rfl bl (ol + k * 4) lk rfl HQ.out ?_)
                | (refine wpList_lks1 rfl rfl lk rfl ?_)
                | (at_builtin; refine append_lk rfl _ _ rfl y6.heap.size _ (4 + k) rs rfl HOa.out wz.heap.size lk rfl (heap_alloc_new wz _) (by omega) HBa.out.size ?_))
              intro v7 w7 ho7 hg7
              have HB7 : Hid (Below y6.heap.size y6 w7) := HBa.out.grown hg7 HBa.out.size (fun g hg => (HOa.out.lt g hg).1)
              have HO7 := hide ho7
              have HLb7 : Hid (∀ l ∈ rs ++ [lk], Lkb l) := fun l hl => by
                rcases List.mem_append.1 hl with h | h
                · exact HLb.out l h
                · simp only [List.mem_singleton] at h
                  rw [h]
                  exact HLK.out
              have HLn7 : Hid ((rs ++ [lk]).length = 4 + (k + 1)) := by
                show _ = _
                rw [List.length_append, HLn.out, List.length_singleton, Nat.add_assoc]
              clear ho7 hg7 HOa HBa HO HBy HWz q0 HQ
              go_wp2_with fail
              go_roundw
              case rel => exact ⟨k + 1, rs ++ [lk], by omega, by go_num, HLn7, HLb7, HO7, HB7⟩
              case measure => simp [intOf]; omega
            · have g67 : ((k : Int) < (nL : Int) ∧ ¬ (k : Int) < 8) ∨ ¬ (k : Int) < (nL : Int) := by omega
              clear hkl
              have hn12 : 4 + k ≤ 12 := by omega
              clear hk
              generalize 4 + k = n at *
              rcases g67 with ⟨g6, g7⟩ | g6
              all_goals (
                go_wp2_with fail
                clear q0
                go_loopw [13] (fun kk wx => ∃ j : Nat, j ≤ n ∧ kk = .int .i64 (j : Nat) ∧ Hid (Below wz.heap.size wz wx)) (fun kk _ => n - (intOf kk).toNat)
                case atStart => exact ⟨0, by omega, rfl, Below.refl _ _⟩
                case round => as_aux_lemma =>
                  rename World => wy
                  obtain ⟨j, hj, rfl, HY⟩ := hrel
                  have HWy := hide (HWz.out.below HY.out)
                  by_cases hjn : j < n
                  · have g8 : (j : Int) < (n : Int) := by omega
                    have hjl : j < rs.length := by rw [HLn.out]; exact hjn
                    obtain ⟨l, hl⟩ : ∃ l, rs[j]? = some l := ⟨rs[j], List.getElem?_eq_getElem hjl⟩
                    have HLl := hide (HLb.out l (List.mem_of_getElem? hl))
                    have HQ : Hid (∀ wx, (∃ t : Ext wy, wx = t.w') → ∀ p u, (lcs l)[p]? = some u → wx.cell? ⟨g, j * 4 + p, none⟩ = some u) := by
                      rintro _ ⟨t, rfl⟩ p u hu
                      exact keep_below t.h _ _ (keep_below HY.out _ _ (own_lk HO.out hl p u hu))
                    have q0 := blk_cell (j := 2) HWy.out.x.t rfl
                    have cu := keep_below HWy.out.x.b _ _ HCU.out
                    have k0 := fun t : Ext wy => Ext.cell q0 t
                    have k1 := fun t : Ext wy => Ext.cell cu t
                    have HC1 : Hid (∀ t : Ext wy, Calls Tryd.prog 21 #[.agg (lcs l), .slice (some ⟨gb, 0, none⟩) xs.length capb] t.w' fun e w'' => e = .returned (.bool (decide (lok l) && dholds l.h l.d xs)) ∧ ∃ t' : Ext wy, w'' = t'.w') := fun t => Calls.ext_below (holds4_any t.w' l _ xs (HWy.out.x.c.below t.h) HLl.out (Ext.bsl HWy.out.n.bsl t) HXL.out)
                    have HC2 : Hid (∀ t : Ext wy, Calls Tryd.prog 22 #[.agg (lcs l), .slice au xs.length cau] t.w' fun e w'' => e = .returned (.bool (decide (lok l) && dholds l.h l.d xs)) ∧ ∃ t' : Ext wy, w'' = t'.w') := fun t => Calls.ext_below (refHolds4_any t.w' l _ xs HLl.out (Ext.bsl (HU0.out.move (keep_below HWy.out.x.b)) t) HXL.out)
                    have HC3 : Hid (∀ t : Ext wy, Calls Tryd.prog 20 #[.slice (some ⟨gb, 0, none⟩) xs.length capb, .slice au xs.length cau] t.w' fun e w'' => e = .returned (.bool true) ∧ ∃ t' : Ext wy, w'' = t'.w') := fun t => Calls.ext_below (intact_b (HWy.out.n.below4 t.h) _ (Ext.bsl (HU0.out.move (keep_below HWy.out.x.b)) t))
                    generalize (decide (lok l) && dholds l.h l.d xs) = bb at *
                    clear hl
                    go_wp2_with fail
                    refine region_ext (by kernel_rfl) (by kernel_rfl) ?_
                    repeat (
                      refine wpQuiet_step (fun K hK => ?_)
                      first
                        | (refine qstep_lkAt rfl rfl g (j * 4) l rfl HQ.out (hK _ ?_); clear hK K)
                        | (go_simp
                           first
                             | (refine hK _ ?_; clear hK K)
                             | (apply Exists.intro
                                refine ⟨fun _ => ?_, hK _ ?_⟩
                                (first
                                  | (go_at_call 21; exact HC1.out _)
                                  | (go_at_call 22; exact HC2.out _)
                                  | (go_at_call 20; exact HC3.out _))
                                clear hK K)))
                    refine wpQuiet_nil ?_
                    rintro _ ⟨tq, rfl⟩
                    have HZ : Hid (Below wz.heap.size wz tq.w') := HY.out.trans (tq.h.mono HY.out.size)
                    go_wp2_with fail
                    go_roundw
                    case rel => exact ⟨j + 1, by omega, by go_num, HZ⟩
                    case measure => simp [intOf]; omega
                  · have g8 : ¬ (j : Int) < (n : Int) := by omega
                    go_wp2_with fail
                    go_roundw
                    case rel => exact ⟨i + 1, al + xs.length, by omega, by omega, by rw [HAL.out], by go_num, HWy.out.x⟩
                    case measure => simp [intOf]; omega)
    · have g34 : ((i : Int) < (nB : Int) ∧ ¬ (i : Int) < 1000) ∨ ¬ (i : Int) < (nB : Int) := by omega
      clear hil
      rcases g34 with ⟨g3, g4⟩ | g3
      all_goals (
        go_wp2_with fail
        refine (begun4_any wr HX.out.c).mono ?_
        rintro e w9 ⟨rfl, hb9⟩
        have HB9 := hide (HX.out.below hb9).b
        clear hb9
        go_wp2_with fail
        go_ret
        exact ⟨rfl, HB9.out⟩)
end
section
open Go.ChangeShapes Go.WideShapes Go.ChangeAt Go.RowKit Go.Deep Go.Joins
set_option maxRecDepth 100000 in
theorem lhold_lifted (os : Os) (started : os.Started) (H : Type) (enc : TypeId × Value → H) :
    ReturnsInHanded {} Tryd.checked os 4 .any (fun w args => (Rows.linkHoldsSpec.pre enc Tryd.prog Tryd.f4 Rows.linkHoldsRow.domain false w args ∧ laidMet Tryd.prog Rows.linkHoldsRow.laid w) ∧ sizedMet enc Tryd.prog Tryd.f4 (OpenSpec.ofChange Rows.linkHoldsSpec) false w args)
      (Rows.linkHoldsSpec.post enc Tryd.prog Tryd.f4 false true false false) := by
  refine returnsInHanded_of_change_and (C := Tryd.checked) (X := fun w _ => laidMet Tryd.prog Rows.linkHoldsRow.laid w) (fun _ _ _ hh h => h.of_heap hh) Tryd.own started (by kernel_rfl) Tryd.func4
    (ChangeSpec.witness_at (enc := enc) (C := Tryd.checked) (os := os) (X := fun w _ => laidMet Tryd.prog Rows.linkHoldsRow.laid w) false (laidWorld os) #[.agg #[.slice none 0 0, .slice none 0 0, .slice none 0 0, .slice none 0 0, .slice none 0 0]] 8 rfl (by kernel_rfl) (by kernel_rfl) (by kernel_rfl) (by kernel_rfl) (by kernel_rfl) (laid_met os _)) ?_
  intro W base args ds gs before hval0 hW _ hsz0 hLd _
  have hval : ∀ (j : Nat) t v, Tryd.f4.params[j]? = some t → args[j]? = some v → Value.okWide Tryd.prog W .any base t v := hval0
  have hsz : (DataW.weightsEach Tryd.prog (Tryd.f4.params.toList ++ Rows.linkHoldsSpec.plain.varTypes Tryd.prog) (ds ++ gs)).all (· ≤ reachBytes) = true := hsz0
  have hW' := hW
  have hcb : Cb W := cb_of_laid hLd
  obtain ⟨p, q, hA0, hV, rfl, hfz, hnd⟩ := hW
  have hA : DataW.TrodAll enc Tryd.prog W 0 (fun _ => true) true Tryd.f4.params.toList args.toList ds p := hA0
  rw [Tryd.params4] at hA hval hsz
  obtain ⟨v0, d0, rfl, rfl, h0⟩ := trodAll_one hA
  obtain ⟨rfl, rfl⟩ := trodVars_none hV
  have k0 := h0
  have lt0 : ∀ x ∈ p, x.block < W.heap.size := by obtain ⟨m, hm⟩ := k0; exact DataW.trod_lt m _ _ _ hm
  have hwalk : Calls Tryd.prog 4 #[v0] W fun e w' => e = .returned (.bool true) ∧ Below W.heap.size W w' := by
    have hs1 : (d0.weights Tryd.prog 28).all (· ≤ reachBytes) = true := by
      have e : DataW.weightsEach Tryd.prog ([28] ++ Rows.linkHoldsSpec.plain.varTypes Tryd.prog) ([d0] ++ []) = d0.weights Tryd.prog 28 ++ DataW.weightsEach Tryd.prog (Rows.linkHoldsSpec.plain.varTypes Tryd.prog) [] := rfl
      rw [e, List.all_append, Bool.and_eq_true] at hsz
      exact hsz.1
    obtain ⟨aL, nL, cL, aC, hs, cC, aB, nB, cB, v3, v4, rfl, hL, hC, hB⟩ := links_arg2 (hval 0 28 v0 rfl rfl) h0 hs1
    exact hold_any W _ _ aL nL cL aC hs cC aB nB cB hcb hL hC hB
  clear hA0 hval0
  refine hwalk.mono fun e W' ⟨he, bel⟩ => ?_
  subst he
  exact ⟨_, rfl, _, _, _, [], _, [], hW', trodAll_mk1 (shut_bool Tryd.underlying4 _), trodAll_mk1 (Below.trod Tryd.laidOut (by kernel_rfl) (of_decide_eq_true (by kernel_rfl)) k0 bel lt0), rfl, bel.frame _, fun h => by cases h⟩

theorem lhold_row : Rows.LinkHoldsSaid :=
  OpenClaim.holds_of_wide 4 Tryd.f4 rfl rfl rfl rfl rfl rfl rfl ⟨rfl, rfl, rfl, rfl, rfl⟩ rfl rfl rfl rfl rfl (by kernel_rfl) Tryd.func4 (by kernel_rfl)
    (of_decide_eq_true (by kernel_rfl)) (by unfold Func.isWrapper; first | (rw [if_pos (by decide +kernel)]; kernel_rfl) | (rw [if_neg (by decide +kernel)]; exact ⟨rfl, rfl⟩))
    (fun os started H enc _ => lhold_lifted os started H enc)

theorem lhold_holds : Rows.LinkHoldsCardSaid :=
  Claim7.holds_tied_plain_at .later [] [.data] true (true, "acb858d1d2edd2252cede6da87f18234aef21eb2925c22bf7a018d6de849c8c4") false
    lhold_row (fun _ h => by cases h) (by kernel_rfl) (fun _ h => by cases h) linkHolds_row_tie rfl ⟨rfl, rfl⟩ (by kernel_rfl) rfl
    (fun f fn hf hfn => by
      obtain rfl : f = 4 := Option.some.inj ((show Tryd.prog.funcNamed "trellis/trellislaw4.LinkHolds" = some 4 by kernel_rfl).symm.trans hf) |>.symm
      obtain rfl : fn = Tryd.f4 := (Option.some.inj (Tryd.func4.symm.trans hfn)).symm
      exact ⟨by kernel_rfl, fun j t ht => by
        rw [Tryd.params4] at ht
        have h3 : t = 28 := by
          rcases j with _ | j
          · simpa using ht.symm
          · simp at ht
        subst h3
        exact (show Tryd.prog.wantsStandIn 28 = false by kernel_rfl)⟩)
    (by kernel_rfl)
#print axioms lhold_holds
end
end Go.Proofs.YtidglddjinfncaaDoor

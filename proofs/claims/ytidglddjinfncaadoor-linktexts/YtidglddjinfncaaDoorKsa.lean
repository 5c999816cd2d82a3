import Derived.Test.YtidglddjinfncaaDoorJg
import Derived.Great.BuildSlice
import Derived.Great.FillDense
import Derived.Maps.AppendAt
import Derived.Deep.RegionHeld
import Derived.Test.YtidglddjinfncaaDoorTie
import Derived.Test.YtidglddjinfncaaDoorCards
import Derived.ProofKit
namespace Go.Proofs.YtidglddjinfncaaDoor
section
open Go.RowKit Go
/-- What a walk over links has in hand. -/
structure Lks (w wx : World) (c : Array Value) : Prop where
  t : wx.heap[w.heap.size]? = some (.cells c 28 (0, 0))
  b : Below w.heap.size w wx
  c : Cb wx
theorem Lks.below {w wx wy : World} {c : Array Value} (h : Lks w wx c) (hb : Below wx.heap.size wx wy) : Lks w wy c := ⟨(hb.block _ (blk_lt h.t)).trans h.t, h.b.trans (hb.mono h.b.size), h.c.below hb⟩
theorem Lks.start {w : World} (c : Array Value) (hcb : Cb w) : Lks w (w.alloc (.cells c 28)) c := ⟨heap_alloc_new w _, below_alloc4 w _, hcb.below (below_alloc4 w _)⟩
/-- A link somewhere in a block. -/
theorem load_lk {w : World} (g o : Nat) (l : Lk) (hc : ∀ j u, (lcs l)[j]? = some u → w.cell? ⟨g, o + j, none⟩ = some u) : (Instr.loadAt 35 (.pointer (some ⟨g, o, none⟩))).run Tryd.prog w = .ok (.agg (lcs l)) w := by
  have hl := run_loadCells_list (P := Tryd.prog) (w := w) ⟨g, o, none⟩ (lcs l).toList (fun j v hv => by rw [addr_add]; exact hc j v (by simpa using hv))
  have hi := info61
  simp only [Instr.loadAt, Instr.sureAddr, Sem.run_bind, Sem.run_pure, Result.andThen]
  cases hq : Tryd.prog.info? 35 with
  | none => simp [hq] at hi
  | some i =>
    have hs : i.size = 4 := by simpa [hq] using hi
    have hn : (lcs l).toList.length = 4 := rfl
    rw [hn] at hl
    have ha : (isAgg 35).run Tryd.prog w = .ok true w := by
      unfold isAgg
      rw [Sem.run_bind, run_underlying Tryd.underlying35 w]
      simp
    simp [loadVar, ha, sizeOf, typeInfo, hq, hs, hl]
theorem qstep_lkAt {C : World → Prop} {ops : Array Oper} {o : Oper} {a : Act} {K : Act → Prop} {p : Operand} (hgd : Region.wanted o (yielded ops a.tmps) = true) (ho : o.op = .load 35 p) (g off : Nat) (l : Lk)
    (hp : a.eval p = .pointer (some ⟨g, off, none⟩)) (hc : ∀ w, C w → ∀ j u, (lcs l)[j]? = some u → w.cell? ⟨g, off + j, none⟩ = some u)
    (h : K (a.put o.dst (.agg (lcs l)))) : if Region.wanted o (yielded ops a.tmps) = true then o.quiet Tryd.prog a C K else K (a.put o.dst undef) := by
  rw [if_pos hgd]
  refine ⟨.agg (lcs l), fun w hC => ?_, h⟩
  unfold Oper.quietAt execOp
  simp only [ho, Sem.run_bind, hp, load_lk g off l (hc w hC), Result.andThen_ok]
  exact ⟨rfl, rfl⟩
theorem wpList_lkAt {ops : Array Oper} {rest : List Oper} {o : Oper} {a : Act} {Q : Exit → Act → World → Prop} {w : World} {p : Operand} (hgd : Region.wanted o (yielded ops a.tmps) = true) (ho : o.op = .load 35 p) (g off : Nat) (l : Lk)
    (hp : a.eval p = .pointer (some ⟨g, off, none⟩)) (hc : ∀ j u, (lcs l)[j]? = some u → w.cell? ⟨g, off + j, none⟩ = some u)
    (h : wpList Tryd.prog ops Q rest (a.put o.dst (.agg (lcs l))) w) : wpList Tryd.prog ops Q (o :: rest) a w := by
  refine wpList_wanted hgd fun K hK => ?_
  unfold Oper.wp execOp
  simp only [ho, Sem.run_bind, hp, load_lk g off l hc, Result.andThen_ok]
  exact hK _ _ h
/-- The reference's Less. -/
theorem refLess_any (w : World) (a b : Lk) (ha : Lkb a) (hb : Lkb b) : Calls Tryd.prog 24 #[lkv a, lkv b] w fun e w' => e = .returned (.bool (llt a b)) ∧ Below w.heap.size w w' := by
  have h := lLess_any w a.v a.c a.h (nstr a.d) b.v b.c b.h (nstr b.d) ha.h (by rw [ha.size]; exact ha.n) hb.h (by rw [hb.size]; exact hb.n)
  unfold lb at h
  rw [sl_nstr ha.d, sl_nstr hb.d] at h
  exact h
set_option maxRecDepth 1000000 in
set_option maxHeartbeats 2000000 in
theorem order_any (w : World) (aL : Option Addr) (nL cL : Nat) (v1 v2 v3 v4 : Value) (hcb : Cb w) (hL : LinksIn w (.slice aL nL cL) nL) :
    Calls Tryd.prog 5 #[.agg #[.slice aL nL cL, v1, v2, v3, v4]] w fun e w' => e = .returned (.bool true) ∧ Below w.heap.size w w' := by
  have HX0 := hide (Lks.start #[.slice aL nL cL, v1, v2, v3, v4] hcb)
  have HL := hide hL
  have hmx := hL.max
  clear hcb hL
  go_enter Tryd.func5, Tryd.ntmps5
  go_wp2_with fail
  generalize w.alloc (.cells #[.slice aL nL cL, v1, v2, v3, v4] 28) = w0 at *
  refine (begun4_any w0 HX0.out.c).mono ?_
  rintro e w1 ⟨rfl, hb1⟩
  have HX1 := hide (HX0.out.below hb1)
  clear hb1 HX0
  go_wp2_with fail
  go_loopw [3] (fun ii wx => ∃ i : Nat, i ≤ 60 ∧ ii = .int .i64 (i : Nat) ∧ Hid (Lks w wx #[.slice aL nL cL, v1, v2, v3, v4])) (fun ii _ => 60 - (intOf ii).toNat)
  case atStart => exact ⟨0, by omega, rfl, HX1⟩
  case round =>
    obtain ⟨i, hi, rfl, HX⟩ := hrel
    clear HX1
    have q0 : wr.cell? ⟨w.heap.size, 0, none⟩ = some (.slice aL nL cL) := blk_cell HX.out.t rfl
    by_cases hil : i < nL ∧ i < 60
    · obtain ⟨hil, hi60⟩ := hil
      have g1 : (i : Int) < (nL : Int) := by omega
      have g2 : (i : Int) < 60 := by omega
      obtain ⟨a', cap', hv, hform⟩ := HL.out.form
      injection hv with e1 e2 e3
      subst e1
      obtain ⟨b, off, rfl, hcells⟩ := hform.resolve_left (by omega)
      obtain ⟨li, hli, hci⟩ := hcells i hil
      have HLI := hide hli
      have HCI := hide hci
      have HCS := hide hcells
      clear hform hcells hli hci e2 e3
      go_wp2_with fail
      go_loopw [4] (fun kk wx => ∃ k : Nat, k ≤ 60 ∧ kk = .int .i64 (k : Nat) ∧ Hid (Lks w wx #[.slice (some ⟨b, off, none⟩) nL cL, v1, v2, v3, v4])) (fun kk _ => 60 - (intOf kk).toNat)
      case atStart => exact ⟨0, by omega, rfl, HX⟩
      case round => as_aux_lemma =>
        rename World => wz
        obtain ⟨k, hk, rfl, HY⟩ := hrel
        clear HX q0
        have q0 : wz.cell? ⟨w.heap.size, 0, none⟩ = some (.slice (some ⟨b, off, none⟩) nL cL) := blk_cell HY.out.t rfl
        by_cases hkl : k < nL ∧ k < 60
        · obtain ⟨hkl, hk60⟩ := hkl
          have g3 : (k : Int) < (nL : Int) := by omega
          have g4 : (k : Int) < 60 := by omega
          obtain ⟨lk, hlk, hck⟩ := HCS.out k hkl
          go_wp2_with fail
          have k0 : ∀ t : Ext wz, t.w'.cell? ⟨w.heap.size, 0, none⟩ = some (.slice (some ⟨b, off, none⟩) nL cL) := fun t => Ext.cell q0 t
          have HQI : Hid (∀ wx, (∃ t : Ext wz, wx = t.w') → ∀ j u, (lcs li)[j]? = some u → wx.cell? ⟨b, off + i * 4 + j, none⟩ = some u) := by
            rintro _ ⟨t, rfl⟩ j u hu
            exact keep_below t.h _ _ (keep_below HY.out.b _ _ (HCI.out j u hu))
          have HQK : Hid (∀ wx, (∃ t : Ext wz, wx = t.w') → ∀ j u, (lcs lk)[j]? = some u → wx.cell? ⟨b, off + k * 4 + j, none⟩ = some u) := by
            rintro _ ⟨t, rfl⟩ j u hu
            exact keep_below t.h _ _ (keep_below HY.out.b _ _ (hck j u hu))
          have HC1 : Hid (∀ t : Ext wz, Calls Tryd.prog 23 #[.agg (lcs li), .agg (lcs lk)] t.w' fun e w'' => e = .returned (.bool (llt li lk)) ∧ ∃ t' : Ext wz, w'' = t'.w') := fun t => Calls.ext_below (less4_any t.w' li lk HLI.out hlk)
          have HC2 : Hid (∀ t : Ext wz, Calls Tryd.prog 24 #[.agg (lcs li), .agg (lcs lk)] t.w' fun e w'' => e = .returned (.bool (llt li lk)) ∧ ∃ t' : Ext wz, w'' = t'.w') := fun t => Calls.ext_below (refLess_any t.w' li lk HLI.out hlk)
          generalize llt li lk = lt at *
          refine region_ext (by kernel_rfl) (by kernel_rfl) ?_
          repeat (
            refine wpQuiet_step (fun K hK => ?_)
            first
              | (refine qstep_lkAt rfl rfl b (off + i * 4) li rfl HQI.out (hK _ ?_); clear hK K)
              | (refine qstep_lkAt rfl rfl b (off + k * 4) lk rfl HQK.out (hK _ ?_); clear hK K)
              | (go_simp
                 first
                   | (refine hK _ ?_; clear hK K)
                   | (apply Exists.intro
                      refine ⟨fun _ => ?_, hK _ ?_⟩
                      (first
                        | (go_at_call 23; exact HC1.out _)
                        | (go_at_call 24; exact HC2.out _))
                      clear hK K)))
          refine wpQuiet_nil ?_
          rintro _ ⟨tq, rfl⟩
          have HZ := hide (HY.out.below tq.h)
          go_wp2_with fail
          go_roundw
          case rel => exact ⟨k + 1, by omega, by go_num, HZ⟩
          case measure => simp [intOf]; omega
        · by_cases h3 : k < nL
          · have g3 : (k : Int) < (nL : Int) := by omega
            have g4 : ¬ (k : Int) < 60 := by omega
            go_wp2_with fail
            go_roundw
            case rel => exact ⟨i + 1, by omega, by go_num, HY⟩
            case measure => simp [intOf]; omega
          · have g3 : ¬ (k : Int) < (nL : Int) := by omega
            go_wp2_with fail
            go_roundw
            case rel => exact ⟨i + 1, by omega, by go_num, HY⟩
            case measure => simp [intOf]; omega
    · by_cases h3 : i < nL
      · have g3 : (i : Int) < (nL : Int) := by omega
        have g4 : ¬ (i : Int) < 60 := by omega
        go_wp2_with fail
        refine (begun4_any wr HX.out.c).mono ?_
        rintro e w9 ⟨rfl, hb9⟩
        have HB9 := hide (HX.out.below hb9).b
        clear hb9
        go_wp2_with fail
        go_ret
        exact ⟨rfl, HB9.out⟩
      · have g3 : ¬ (i : Int) < (nL : Int) := by omega
        go_wp2_with fail
        refine (begun4_any wr HX.out.c).mono ?_
        rintro e w9 ⟨rfl, hb9⟩
        have HB9 := hide (HX.out.below hb9).b
        clear hb9
        go_wp2_with fail
        go_ret
        exact ⟨rfl, HB9.out⟩
end
section
open Go.ChangeShapes Go.WideShapes Go.ChangeAt Go.RowKit Go.Deep Go.Joins Go
/-- A slice of uint64. -/
structure U64In (w : World) (v : Value) (hs : List Nat) : Prop where
  form : ∃ a c, v = .slice a hs.length c ∧ (hs = [] ∨ ∃ b off, a = some ⟨b, off, none⟩ ∧ ∀ j, j < hs.length → w.cell? ⟨b, off + j, none⟩ = some (.int .u64 ((hs.getD j 0 : Nat) : Int)))
  lt : ∀ x ∈ hs, x < 18446744073709551616
  max : hs.length ≤ 9223372036854775807
theorem U64In.move {w w' : World} {v : Value} {hs : List Nat} (h : U64In w v hs) (hm : ∀ p u, w.cell? p = some u → w'.cell? p = some u) : U64In w' v hs := by
  obtain ⟨⟨a, c, hv, hc⟩, h1, h2⟩ := h
  refine ⟨⟨a, c, hv, ?_⟩, h1, h2⟩
  rcases hc with hc | ⟨b, off, ha, hc⟩
  · exact .inl hc
  · exact .inr ⟨b, off, ha, fun j hj => hm _ _ (hc j hj)⟩
/-- What the way down gives of a slice of uint64. -/
theorem u64_open {H : Type} {enc : TypeId × Value → H} {W : World} {base fuel : Nat} {held : Bool} {v : Value} {y : DataW H × List MemPlace} (h : DataW.trod enc Tryd.prog W base (fun _ => true) held fuel 23 [v] = some y) : ∃ hs, U64In W v hs := by
  rcases open_ints Tryd.underlying23 Tryd.underlying33 Tryd.cells_u64 h with ⟨hcs, _⟩ | ⟨a, len, cap, zs, hcs, _, hl, hm, hz, _, hcell, hwf⟩
  · injection hcs with hcs _
    subst hcs
    exact ⟨[], ⟨none, 0, rfl, .inl rfl⟩, by simp, by simp⟩
  · injection hcs with hcs _
    subst hcs
    simp only [if_true] at hz
    have hlen : ((zs.take len).map Int.toNat).length = len := by simp; omega
    refine ⟨(zs.take len).map Int.toNat, ⟨some a, cap, by rw [hlen], ?_⟩, ?_, by rw [hlen]; unfold maxLen at hm; omega⟩
    · by_cases h0 : len = 0
      · left; subst h0; simp
      · right
        obtain ⟨b, off, spot⟩ := a
        have h1 := hcell 0 (by omega)
        have hspot : spot = none := by simpa [Addr.add] using World.cell?_spot h1
        subst hspot
        refine ⟨b, off, rfl, fun j hj => ?_⟩
        rw [hlen] at hj
        have h2 := hcell j (by omega)
        have hadd : (⟨b, off, none⟩ : Addr).add j = ⟨b, off + j, none⟩ := by unfold Addr.add; split <;> simp_all
        rw [hadd] at h2
        rw [h2]
        have hjz : j < zs.length := by omega
        have hb := bounds_u64 (hwf zs[j] (List.getElem_mem hjz))
        simp [List.getD, hj, hjz]
        omega
    · intro x hx
      simp only [List.mem_map] at hx
      obtain ⟨n, hn', rfl⟩ := hx
      have := bounds_u64 (hwf n (List.mem_of_mem_take hn'))
      omega

set_option maxRecDepth 1000000 in
/-- The argument opened, with its codecs. -/
theorem links_arg2 {H : Type} {enc : TypeId × Value → H} {W : World} {base : Nat} {r : Reach} {b0 : Nat} {held : Bool} {v0 : Value} {d0 : DataW H} {p : List MemPlace} (hv : Value.okWide Tryd.prog W r b0 28 v0)
    (h0 : DataW.Trod enc Tryd.prog W base (fun _ => true) held 28 v0 d0 p) (hsz : (d0.weights Tryd.prog 28).all (· ≤ reachBytes) = true) :
    ∃ aL nL cL aC hs cC aB nB cB v3 v4, v0 = .agg #[.slice aL nL cL, .slice aC (List.length hs) cC, .slice aB nB cB, v3, v4] ∧ LinksIn W (.slice aL nL cL) nL ∧ U64In W (.slice aC hs.length cC) hs ∧ RowsIn W (.slice aB nB cB) nB := by
  obtain ⟨c0, c1, c2, c3, c4, y0, y1, y2, y3, y4, m, rfl, hd, hy0, hy1, hy2, hy3, hy4⟩ := open_agg5 Tryd.underlying28 (by kernel_rfl) Tryd.cellsLinks hv h0
  subst hd
  have hs2 : (DataW.weightsEach Tryd.prog [22, 23, 24, 25, 26] [y0.1, y1.1, y2.1, y3.1, y4.1]).all (· ≤ reachBytes) = true := by
    simp only [DataW.weights, Tryd.underlying28] at hsz
    exact hsz
  obtain ⟨nL, hL⟩ := links_open hy0
  obtain ⟨nB, hB⟩ := rows_open hy2 hs2 (j := 2) rfl rfl
  obtain ⟨hs, hC⟩ := u64_open hy1
  obtain ⟨aL, cL, rfl, _⟩ := id hL.form
  obtain ⟨aB, cB, rfl, _⟩ := id hB.form
  obtain ⟨aC, cC, rfl, _⟩ := id hC.form
  exact ⟨aL, nL, cL, aC, hs, cC, aB, nB, cB, c3, c4, rfl, hL, hC, hB⟩

/-- The cells of links in a row. -/
def fcl (rs : List Lk) : List Value := rs.flatMap fun l => (lcs l).toList
theorem fcl_app (a b : List Lk) : fcl (a ++ b) = fcl a ++ fcl b := by simp [fcl]
theorem fcl_len : ∀ rs : List Lk, (fcl rs).length = rs.length * 4
  | [] => rfl
  | r :: rs => by
    have h := fcl_len rs
    have e : fcl (r :: rs) = (lcs r).toList ++ fcl rs := by simp [fcl]
    rw [e, List.length_append, h, List.length_cons]
    have : (lcs r).toList.length = 4 := rfl
    omega
theorem fcl_get : ∀ (rs : List Lk) (k : Nat) (l : Lk) (j : Nat) (u : Value), rs[k]? = some l → (lcs l)[j]? = some u → (fcl rs)[k * 4 + j]? = some u
  | [], k, l, j, u, h, _ => by simp at h
  | r :: rs, 0, l, j, u, h, hu => by
    simp at h
    subst h
    have e : fcl (r :: rs) = (lcs r).toList ++ fcl rs := by simp [fcl]
    have hj : j < (lcs r).size := by
      rcases Array.getElem?_eq_some_iff.1 hu with ⟨hj, _⟩
      exact hj
    rw [e, List.getElem?_append_left (by simpa using hj)]
    simpa using hu
  | r :: rs, k + 1, l, j, u, h, hu => by
    simp at h
    have e : fcl (r :: rs) = (lcs r).toList ++ fcl rs := by simp [fcl]
    have h4 : (lcs r).toList.length = 4 := rfl
    rw [e, List.getElem?_append_right (by omega)]
    have e2 : (k + 1) * 4 + j - (lcs r).toList.length = k * 4 + j := by omega
    rw [e2]
    exact fcl_get rs k l j u h hu
theorem fcl_one (rs : List Lk) : ∀ u ∈ fcl rs, u.oneCell' = true := by
  intro u hu
  simp only [fcl, List.mem_flatMap] at hu
  obtain ⟨l, _, hl⟩ := hu
  simp only [lcs, List.mem_cons, List.not_mem_nil, or_false] at hl
  rcases hl with rfl | rfl | rfl | rfl <;> rfl
theorem infoLk_ex : ∃ i, Tryd.prog.info? 35 = some i ∧ i.zero = some (.agg zlk) ∧ i.size = 4 ∧ i.bytes = 40 := by
  have h : (Tryd.prog.info? 35).map (fun i => (i.zero, i.size, i.bytes)) = some (some (.agg zlk), 4, 40) := by kernel_rfl
  cases hi : Tryd.prog.info? 35 with
  | none => rw [hi] at h; cases h
  | some i =>
    rw [hi] at h
    injection h with h
    injection h with h1 h2
    injection h2 with h2 h3
    exact ⟨i, rfl, h1, h2, h3⟩
theorem zip_parts (rs : List Lk) (i0 : Nat) : (rs.map lkv).zipIdx i0 = (rs.zipIdx i0).map fun x => (lkv x.1, x.2) := by
  rw [List.zipIdx_map]
  rfl
theorem fill_lks (rs : List Lk) (cells : Array Value) (hc : cells.size = rs.length * 4) : Instr.fill (fun i => some (i * 4, 4)) cells ((rs.zipIdx 0).map fun x => (x.2, lkv x.1)) = some (fcl rs).toArray := by
  obtain ⟨r, hr, hsz, hk⟩ := Great.fill_dense (s := 4) (by decide) (rs.map lkv) 0 cells (by
    intro v hv
    simp only [List.mem_map] at hv
    obtain ⟨l, _, rfl⟩ := hv
    rfl) (by rw [List.length_map, hc]; omega)
  have e : r = (fcl rs).toArray := by
    apply Array.ext_getElem?
    intro k
    have et : (fcl rs).toArray[k]? = (fcl rs)[k]? := List.getElem?_toArray
    rw [hk k, List.length_map, et]
    by_cases h : k < rs.length * 4
    · rw [if_pos ⟨by omega, by omega⟩, Nat.sub_zero, List.getElem?_map]
      have h4 : k / 4 < rs.length := by omega
      rw [List.getElem?_eq_getElem h4]
      simp only [Option.map_some, Option.bind_some]
      have hx : ∃ u, (lcs rs[k / 4])[k % 4]? = some u := by
        have : k % 4 < (lcs rs[k / 4]).size := by show k % 4 < 4; omega
        exact ⟨_, Array.getElem?_eq_getElem this⟩
      obtain ⟨u, hu⟩ := hx
      have hg := fcl_get rs (k / 4) rs[k / 4] (k % 4) u (List.getElem?_eq_getElem h4) hu
      have ek : k / 4 * 4 + k % 4 = k := by omega
      rw [ek] at hg
      rw [hg]
      exact hu
    · rw [if_neg (by omega), Array.getElem?_eq_none (by omega), List.getElem?_eq_none (by rw [fcl_len]; omega)]
  rw [e] at hr
  rw [zip_parts, List.map_map] at hr
  exact hr
theorem big24 {n : Nat} (h : n ≤ 1000) : ¬ n * 4 > 2 ^ 24 := by
  have : (2 : Nat) ^ 24 = 16777216 := by decide
  omega
theorem wpList_lks {ops : Array Oper} {rest : List Oper} {o : Oper} {a : Act} {w : World} {Q : Exit → Act → World → Prop} (hg : o.guard = none) (n : Nat) (parts : Array (Nat × Operand)) (ho : o.op = .buildSlice 22 n parts) (rs : List Lk) (hn : rs.length = n) (h0 : 0 < n) (h8 : n ≤ 1000)
    (hx : (parts.map fun (i, x) => (i, a.eval x)).toList = (rs.zipIdx 0).map fun x => (x.2, lkv x.1))
    (h : wpList Tryd.prog ops Q rest (a.put o.dst (.slice (some ⟨w.heap.size, 0, none⟩) n n)) (w.alloc (.cells (fcl rs).toArray 35))) : wpList Tryd.prog ops Q (o :: rest) a w := by
  obtain ⟨i, hi, hz, hs, _⟩ := infoLk_ex
  refine wpList_buildSlice hg 22 35 n _ ho (fcl rs).toArray i _ Tryd.underlying22 hi hz (by rw [hs]; exact big24 h8) (by rw [hs]; omega) ?_ h
  rw [hs, hx]
  exact fill_lks rs _ (by simp [hn])
/-- append of one link. -/
theorem append_lk {ops : Array Oper} {rest : List Oper} {o : Oper} {a : Act} {Q : Exit → Act → World → Prop} {w : World} (hgd : o.guard = none) (s x : Operand)
    (ho : o.op = .call { callee := .builtin .append, args := #[s, x], argTypes := #[22, 22] }) (B : Nat) (v : Value) (n : Nat) (rs : List Lk) (hs : a.eval s = v) (hown : w.ownsRow B 35 4 v n (fcl rs))
    (g : Nat) (l : Lk) (hx : a.eval x = .slice (some ⟨g, 0, none⟩) 1 1) (hg : w.heap[g]? = some (.cells (fcl [l]).toArray 35 (0, 0))) (hlen : n < 1099511627776) (hbase : B ≤ w.heap.size)
    (h : ∀ v' w', w'.ownsRow B 35 4 v' (n + 1) (fcl (rs ++ [l])) → w.grownBy w' v.ownBlock → wpList Tryd.prog ops Q rest (a.put o.dst v') w') : wpList Tryd.prog ops Q (o :: rest) a w := by
  obtain ⟨i, hi, hz0, hz1, hz2⟩ := infoLk_ex
  refine wpList_append_own_at w hgd s x 22 ho B 35 i _ 4 40 Tryd.underlying22 hi hz0 hz1 hz2 rfl (by decide) v n (fcl rs) hs hown ⟨g, 0, none⟩ 1 1 (fcl [l]) hx (by rw [fcl_len]; rfl) (fun j u hu => ?_) (fcl_one [l]) (by unfold maxLen; omega) (by omega) hbase fun v' w' h1 h2 _ _ => h v' w' (by rw [fcl_app]; exact h1) h2
  have hadd : (⟨g, 0, none⟩ : Addr).add j = ⟨g, j, none⟩ := by unfold Addr.add; split <;> simp_all
  rw [hadd]
  exact blk_cell hg (by rw [List.getElem?_toArray]; exact hu)
theorem own_form4 {w : World} {B : Nat} {e : TypeId} {v : Value} {n : Nat} {xs : List Value} (h : w.ownsRow B e 4 v n xs) : ∃ a cap, v = .slice a n cap ∧ (0 < n → ∃ g, a = some ⟨g, 0, none⟩) := by
  rcases h.2 with ⟨rfl, h0⟩ | ⟨g, cap, cur, rfl, _⟩
  · exact ⟨none, 0, by rw [h0], fun hp => by omega⟩
  · exact ⟨_, cap, rfl, fun _ => ⟨g, rfl⟩⟩
theorem own_lk {w : World} {B g n cap k : Nat} {rs : List Lk} {l : Lk} (h : w.ownsRow B 35 4 (.slice (some ⟨g, 0, none⟩) n cap) n (fcl rs)) (hk : rs[k]? = some l) : ∀ j u, (lcs l)[j]? = some u → w.cell? ⟨g, k * 4 + j, none⟩ = some u := fun j u hu => by
  have := h.cells (g := g) rfl (k * 4 + j) u (fcl_get rs k l j u hk hu)
  have hadd : (⟨g, 0, none⟩ : Addr).add (k * 4 + j) = ⟨g, k * 4 + j, none⟩ := by unfold Addr.add; split <;> simp_all
  rw [hadd] at this
  exact this
theorem own_lks (w : World) (rs : List Lk) (hn : 0 < rs.length) (hx : rs.length ≤ 1000) : (w.alloc (.cells (fcl rs).toArray 35)).ownsRow w.heap.size 35 4 (.slice (some ⟨w.heap.size, 0, none⟩) rs.length rs.length) rs.length (fcl rs) :=
  ⟨fcl_len rs, .inr ⟨w.heap.size, rs.length, _, rfl, Nat.le_refl _, heap_alloc_new w _, Nat.le_refl _, by unfold maxLen; omega, by simp [fcl_len], by
    show (fcl rs).toArray.toList.take (rs.length * 4) = fcl rs
    rw [List.toList_toArray, ← fcl_len, List.take_length]⟩⟩
end
section
open Go.ChangeShapes Go.WideShapes Go.ChangeAt Go.RowKit Go.Deep Go.Joins Go
/-- A slice of int. -/
structure IntsIn (w : World) (v : Value) (len : Nat) : Prop where
  form : ∃ a c, v = .slice a len c ∧ (len = 0 ∨ ∃ b off, a = some ⟨b, off, none⟩ ∧ ∀ j, j < len → ∃ z : Int, w.cell? ⟨b, off + j, none⟩ = some (.int .i64 z))
  max : len ≤ 9223372036854775807
theorem IntsIn.move {w w' : World} {v : Value} {len : Nat} (h : IntsIn w v len) (hm : ∀ p u, w.cell? p = some u → w'.cell? p = some u) : IntsIn w' v len := by
  obtain ⟨⟨a, c, hv, hc⟩, h1⟩ := h
  refine ⟨⟨a, c, hv, ?_⟩, h1⟩
  rcases hc with hc | ⟨b, off, ha, hc⟩
  · exact .inl hc
  · exact .inr ⟨b, off, ha, fun j hj => (hc j hj).imp fun z hz => hm _ _ hz⟩
theorem ints_open {H : Type} {enc : TypeId × Value → H} {W : World} {base fuel : Nat} {held : Bool} {v : Value} {y : DataW H × List MemPlace} (h : DataW.trod enc Tryd.prog W base (fun _ => true) held fuel 26 [v] = some y) : ∃ len, IntsIn W v len := by
  rcases open_ints Tryd.underlying26 Tryd.underlying3 Tryd.cells_int h with ⟨hcs, _⟩ | ⟨a, len, cap, zs, hcs, _, hl, hm, hz, _, hcell, hwf⟩
  · injection hcs with hcs _
    subst hcs
    exact ⟨0, ⟨none, 0, rfl, .inl rfl⟩, by simp⟩
  · injection hcs with hcs _
    subst hcs
    simp only [if_true] at hz
    refine ⟨len, ⟨some a, cap, rfl, ?_⟩, by unfold maxLen at hm; omega⟩
    by_cases h0 : len = 0
    · exact .inl h0
    · right
      obtain ⟨b, off, spot⟩ := a
      have h1 := hcell 0 (by omega)
      have hspot : spot = none := by simpa [Addr.add] using World.cell?_spot h1
      subst hspot
      refine ⟨b, off, rfl, fun j hj => ?_⟩
      have h2 := hcell j (by omega)
      have hadd : (⟨b, off, none⟩ : Addr).add j = ⟨b, off + j, none⟩ := by unfold Addr.add; split <;> simp_all
      rw [hadd] at h2
      exact ⟨_, h2⟩
set_option maxRecDepth 1000000 in
/-- The argument opened, with its bases. -/
theorem links_arg3 {H : Type} {enc : TypeId × Value → H} {W : World} {base : Nat} {r : Reach} {b0 : Nat} {held : Bool} {v0 : Value} {d0 : DataW H} {p : List MemPlace} (hv : Value.okWide Tryd.prog W r b0 28 v0)
    (h0 : DataW.Trod enc Tryd.prog W base (fun _ => true) held 28 v0 d0 p) :
    ∃ aL nL cL v1 v2 aS nS cS aI nI cI, v0 = .agg #[.slice aL nL cL, v1, v2, .slice aS nS cS, .slice aI nI cI] ∧ LinksIn W (.slice aL nL cL) nL ∧ StrsIn W (.slice aS nS cS) nS ∧ IntsIn W (.slice aI nI cI) nI := by
  obtain ⟨c0, c1, c2, c3, c4, y0, y1, y2, y3, y4, m, rfl, hd, hy0, hy1, hy2, hy3, hy4⟩ := open_agg5 Tryd.underlying28 (by kernel_rfl) Tryd.cellsLinks hv h0
  subst hd
  obtain ⟨nL, hL⟩ := links_open hy0
  obtain ⟨nS, hS⟩ := strs_open hy3
  obtain ⟨nI, hI⟩ := ints_open hy4
  obtain ⟨aL, cL, rfl, _⟩ := id hL.form
  obtain ⟨aS, cS, rfl, _⟩ := id hS.form
  obtain ⟨aI, cI, rfl, _⟩ := id hI.form
  exact ⟨aL, nL, cL, c1, c2, aS, nS, cS, aI, nI, cI, rfl, hL, hS, hI⟩
set_option maxRecDepth 1000000 in
/-- Links.base: some number. -/
theorem lbase_any (w : World) (v0 v1 v2 v3 : Value) (aI : Option Addr) (nI cI i : Nat) (hI : IntsIn w (.slice aI nI cI) nI) (hi : i ≤ 1000) :
    Calls Tryd.prog 12 #[.agg #[v0, v1, v2, v3, .slice aI nI cI], .int .i64 (i : Nat)] w fun e w' => ∃ z : Int, e = .returned (.int .i64 z) ∧ Below w.heap.size w w' := by
  have HT : Hid ((w.alloc (.cells #[v0, v1, v2, v3, .slice aI nI cI] 28)).heap[w.heap.size]? = some (.cells #[v0, v1, v2, v3, .slice aI nI cI] 28 (0, 0))) := heap_alloc_new w _
  have HB := hide (below_alloc4 w (.cells #[v0, v1, v2, v3, .slice aI nI cI] 28))
  have HI := hide hI
  have hmx := hI.max
  clear hI
  go_enter Tryd.func12, Tryd.ntmps12
  by_cases h0 : nI = 0
  · have g0 : ((nI : Int) == 0) = true := beq_iff_eq.2 (by omega)
    clear h0
    go_wp2_with fail
    go_ret
    exact ⟨_, rfl, HB.out⟩
  · have g0 : ((nI : Int) == 0) = false := beq_eq_false_iff_ne.2 (by omega)
    have q4 : (w.alloc (.cells #[v0, v1, v2, v3, .slice aI nI cI] 28)).cell? ⟨w.heap.size, 4, none⟩ = some (.slice aI nI cI) := blk_cell HT.out rfl
    obtain ⟨a', c', hv, hform⟩ := HI.out.form
    injection hv with e1 e2 e3
    subst e1
    obtain ⟨b, off, rfl, hcells⟩ := hform.resolve_left h0
    have hmod : i % nI < nI := Nat.mod_lt _ (by omega)
    obtain ⟨z, hz⟩ := hcells (i % nI) hmod
    have cz := keep_below HB.out _ _ hz
    have htm : (i : Int).tmod (nI : Int) = ((i % nI : Nat) : Int) := by rw [Int.tmod_eq_emod_of_nonneg (by omega)]; omega
    have hml : ((i % nI : Nat) : Int) < (nI : Int) := by omega
    have gp : (0 : Int) < (nI : Int) := by omega
    clear hform hcells hmod hz e2 e3
    generalize i % nI = im at *
    go_wp2_with fail
    generalize w.alloc (.cells #[v0, v1, v2, v3, .slice (some ⟨b, off, none⟩) nI cI] 28) = w0 at *
    go_region
    go_wp2_with fail
    go_ret
    exact ⟨z, rfl, HB.out.trans ((Below.refl _ _).drew)⟩
end
section
open Go.RowKit Go
/-- Numbers as the cells of a []int. -/
def ivs (l : List Nat) : List Value := l.map fun n : Nat => .int .i64 (n : Int)
theorem ivs_len (l : List Nat) : (ivs l).length = l.length := by simp [ivs]
theorem ivs_get {l : List Nat} {j : Nat} (h : j < l.length) : (ivs l)[j]? = some (.int .i64 ((l.getD j 0 : Nat) : Int)) := by simp [ivs, List.getD, h]
theorem ivs_snoc (l : List Nat) (n : Nat) : ivs (l ++ [n]) = ivs l ++ [.int .i64 (n : Int)] := by simp [ivs]
/-- A slice's length. -/
def slen : Value → Nat
  | .slice _ n _ => n
  | _ => 0
theorem append_nat {ops : Array Oper} {rest : List Oper} {o : Oper} {a : Act} {Q : Exit → Act → World → Prop} {w : World} (hgd : o.guard = none) (s x : Operand)
    (ho : o.op = .call { callee := .builtin .append, args := #[s, x], argTypes := #[26, 26] }) (B : Nat) (v : Value) (ds : List Nat) (hs : a.eval s = v) (hown : w.ownsRow B 3 1 v ds.length (ivs ds))
    (y : Nat) (hx : a.eval x = .slice (some ⟨w.heap.size, 0, none⟩) 1 1) (hlen : ds.length < 1099511627776) (hbase : B ≤ w.heap.size)
    (h : ∀ v' w', w'.ownsRow B 3 1 v' (ds ++ [y]).length (ivs (ds ++ [y])) → Below B w w' → wpList Tryd.prog ops Q rest (a.put o.dst v') w') : wpList Tryd.prog ops Q (o :: rest) a (w.alloc (.cells #[.int .i64 (y : Int)] 3)) := by
  refine append_int hgd s x ho B v ds.length (ivs ds) hs hown (y : Int) _ rfl hx hlen hbase fun v' w' h1 h2 _ => h v' w' (by rw [ivs_snoc, List.length_append]; exact h1) ?_
  exact ((Below.refl B w).alloc hbase _).grown h2 (by simp; omega) (fun g hg => (hown.lt g hg).1)
theorem append_byte {ops : Array Oper} {rest : List Oper} {o : Oper} {a : Act} {Q : Exit → Act → World → Prop} {w : World} (hgd : o.guard = none) (s x : Operand)
    (ho : o.op = .call { callee := .builtin .append, args := #[s, x], argTypes := #[47, 47] }) (B : Nat) (v : Value) (ds : List Nat) (hs : a.eval s = v) (hown : w.ownsRow B 5 1 v ds.length (bv ds))
    (y : Nat) (hy : y < 256) (hx : a.eval x = .slice (some ⟨w.heap.size, 0, none⟩) 1 1) (hlen : ds.length < 1099511627776) (hbase : B ≤ w.heap.size)
    (h : ∀ v' w', w'.ownsRow B 5 1 v' (ds ++ [y]).length (bv (ds ++ [y])) → Below B w w' → wpList Tryd.prog ops Q rest (a.put o.dst v') w') : wpList Tryd.prog ops Q (o :: rest) a (w.alloc (.cells #[.int .u8 (y : Int)] 5)) := by
  have hA := hown.alloc (.cells #[.int .u8 ((y : Nat) : Int)] 5)
  refine append_bsl hgd s x ho B v ds.length ds hs hA _ [y] hx (one_bsl w y hy) (by rw [List.length_singleton]; omega) (by simp; omega) fun v' w' h1 h2 => h v' w' (by rw [List.length_append]; exact h1) ?_
  exact ((Below.refl B w).alloc hbase _).grown h2 (by simp; omega) (fun g hg => (hA.lt g hg).1)

/-- The reference's digits. -/
def rdg (base : Nat) : List Nat := if base = 1 then d16 else if base = 2 then d32 else d58
def rdb (base : Nat) : ByteArray := nstr (rdg base)
theorem rdg_byte (base : Nat) : ∀ x ∈ rdg base, x < 256 := by
  unfold rdg
  split
  · decide
  · split <;> decide
theorem rdb_sl (base : Nat) : sl (rdb base) = rdg base := sl_nstr (rdg_byte base)
theorem rdb_size (base : Nat) : (rdb base).size = (rdg base).length := nstr_size (rdg_byte base)
theorem rdg_len (base : Nat) : (rdg base).length ≤ 58 := by
  unfold rdg
  split
  · decide
  · split <;> decide
set_option maxRecDepth 1000000 in
theorem rdigits_any (w : World) (base : Nat) (hb : base = 1 ∨ base = 2 ∨ base = 3) : Calls Tryd.prog 61 #[.int .i64 (base : Nat)] w fun e w' => e = .returned (.string (rdb base)) ∧ w' = w := by
  have e1 : rdb 1 = ⟨#[48, 49, 50, 51, 52, 53, 54, 55, 56, 57, 97, 98, 99, 100, 101, 102]⟩ := by kernel_rfl
  have e2 : rdb 2 = ⟨#[97, 98, 99, 100, 101, 102, 103, 104, 105, 106, 107, 108, 109, 110, 111, 112, 113, 114, 115, 116, 117, 118, 119, 120, 121, 122, 50, 51, 52, 53, 54, 55]⟩ := by kernel_rfl
  have e3 : rdb 3 = ⟨#[49, 50, 51, 52, 53, 54, 55, 56, 57, 65, 66, 67, 68, 69, 70, 71, 72, 74, 75, 76, 77, 78, 80, 81, 82, 83, 84, 85, 86, 87, 88, 89, 90, 97, 98, 99, 100, 101, 102, 103, 104, 105, 106, 107, 109, 110, 111, 112, 113, 114, 115, 116, 117, 118, 119, 120, 121, 122]⟩ := by kernel_rfl
  rcases hb with rfl | rfl | rfl
  · rw [e1]
    clear e1 e2 e3
    go_enter Tryd.func61, Tryd.ntmps61
    go_wp2_with fail
    go_ret
    exact ⟨rfl, rfl⟩
  · rw [e2]
    clear e1 e2 e3
    go_enter Tryd.func61, Tryd.ntmps61
    go_wp2_with fail
    go_ret
    exact ⟨rfl, rfl⟩
  · rw [e3]
    clear e1 e2 e3
    go_enter Tryd.func61, Tryd.ntmps61
    go_wp2_with fail
    go_ret
    exact ⟨rfl, rfl⟩

theorem look_drop {t : List Nat} {c : Nat} (i : Nat) (hi : i < t.length) : look (t.drop i) c = if t.getD i 0 = c then some 0 else (look (t.drop (i + 1)) c).map (· + 1) := by
  rw [List.drop_eq_getElem_cons hi, look]
  have e : t.getD i 0 = t[i] := by rw [List.getD_eq_getElem?_getD, List.getElem?_eq_getElem hi]; rfl
  rw [e]
/-- What value tells. -/
def lkn (o : Option Nat) : Int := match o with | some i => (i : Int) | none => -1
set_option maxRecDepth 1000000 in
theorem rvalue_any (w : World) (base c : Nat) (hb : base = 1 ∨ base = 2 ∨ base = 3) : Calls Tryd.prog 65 #[.int .i64 (base : Nat), .int .u8 (c : Nat)] w fun e w' => e = .returned (.int .i64 (lkn (look (rdg base) c))) ∧ w' = w := by
  go_enter Tryd.func65, Tryd.ntmps65
  go_wp2_with fail
  refine (rdigits_any w base hb).mono ?_
  rintro e w1 ⟨rfl, hw1⟩
  subst hw1
  have HSZ := hide (rdb_size base)
  have h58 := rdg_len base
  have HSL := hide (rdb_sl base)
  generalize hT : rdg base = t at *
  have HTE := hide hT
  clear hT
  generalize rdb base = D at *
  rw [← HSZ.out] at h58
  go_wp2_with fail
  go_loopw [6] (fun ii wx => ∃ i : Nat, i ≤ D.size ∧ ii = .int .i64 (i : Nat) ∧ Hid (look t c = (look (t.drop i) c).map (· + i)) ∧ wx = w1) (fun ii _ => 58 - (intOf ii).toNat)
  case atStart => exact ⟨0, by omega, rfl, by show _ = _; simp, rfl⟩
  case round =>
    obtain ⟨i, hi, rfl, HL, rfl⟩ := hrel
    by_cases hlt : i < D.size
    · have g1 : (i : Int) < (D.size : Int) := by omega
      have HT : Hid (i < t.length) := by have := HSZ.out; show _ < _; omega
      have HX : Hid (t.getD i 0 = D[i].toNat) := by
        have h := sl_at D i hlt
        rw [HSL.out] at h
        exact h
      have HD := hide (look_drop (c := c) i HT.out)
      rw [HX.out] at HD
      by_cases hc : D[i].toNat = c
      · have g2 : ((D[i].toNat : Int) == (c : Int)) = true := beq_iff_eq.2 (by omega)
        have HR : Hid (look t c = some i) := by
          show _ = _
          rw [HL.out, HD.out, if_pos hc]
          simp
        clear HL HD HX hc
        go_wp2_with fail
        go_ret
        exact ⟨by rw [HTE.out, HR.out]; rfl, rfl⟩
      · have g2 : ((D[i].toNat : Int) == (c : Int)) = false := beq_eq_false_iff_ne.2 (by omega)
        have HR : Hid (look t c = (look (t.drop (i + 1)) c).map (· + (i + 1))) := by
          show _ = _
          rw [HL.out, HD.out, if_neg hc, Option.map_map]
          congr 1
          funext j
          simp only [Function.comp]
          omega
        clear HL HD HX hc
        go_wp2_with fail
        go_roundw
        case rel => exact ⟨i + 1, by omega, by go_num, HR, trivial⟩
        case measure => simp [intOf]; omega
    · have g1 : ¬ (i : Int) < (D.size : Int) := by omega
      have HR : Hid (look t c = none) := by
        show _ = _
        rw [HL.out, List.drop_of_length_le (by have := HSZ.out; omega)]
        rfl
      clear HL
      go_wp2_with fail
      go_ret
      exact ⟨by rw [HTE.out, HR.out]; rfl, rfl⟩
end
section
open Go.RowKit Go
theorem bitsW_take (w x k : Nat) (hk : k < w) : (bitsW w x).take (w - k) = (bitsW w x).take (w - (k + 1)) ++ [x / 2 ^ k % 2] := by
  obtain ⟨n, hn⟩ : ∃ n, w - k = n + 1 := ⟨w - k - 1, by omega⟩
  have e2 : w - (k + 1) = n := by omega
  have e3 : w - 1 - n = k := by omega
  have hl : n < (bitsW w x).length := by rw [bitsW_len]; omega
  rw [hn, e2, List.take_succ_eq_append_getElem hl]
  congr 2
  simp only [bitsW, List.getElem_map, List.getElem_range]
  rw [e3]
/-- A row of numbers that stands in memory of the call's own. -/
structure Ivw (w wx : World) (v : Value) (l : List Nat) : Prop where
  o : wx.ownsRow w.heap.size 3 1 v l.length (ivs l)
  b : Below w.heap.size w wx
theorem Ivw.more {w wx wy : World} {v v' : Value} {l l' : List Nat} (h : Ivw w wx v l) (ho : wy.ownsRow w.heap.size 3 1 v' l'.length (ivs l')) (hb : Below w.heap.size wx wy) : Ivw w wy v' l' := ⟨ho, h.b.trans hb⟩
theorem half_bit (x k : Nat) : ((x : Int) / 2 ^ k).tmod 2 = ((x / 2 ^ k % 2 : Nat) : Int) := by
  have e1 : (x : Int) / 2 ^ k = ((x / 2 ^ k : Nat) : Int) := by rw [Int.natCast_ediv, Int.natCast_pow]; rfl
  rw [e1, Int.tmod_eq_emod_of_nonneg (Int.natCast_nonneg _)]
  rfl
/-- The bits of a number, one by one. -/
theorem valB_step (BS : List Nat) (q k : Nat) (h : q + k < BS.length) : valB 2 ((BS.drop q).take (k + 1)) = 2 * valB 2 ((BS.drop q).take k) + BS.getD (q + k) 0 := by
  have hl : k < (BS.drop q).length := by rw [List.length_drop]; omega
  rw [List.take_succ_eq_append_getElem hl, valB_snoc, Nat.mul_comm]
  congr 1
  rw [List.getElem_drop, List.getD_eq_getElem?_getD, List.getElem?_eq_getElem h]
  rfl
theorem valB2_lt {l : List Nat} {w : Nat} (h : ∀ x ∈ l, x < 2) (hl : l.length ≤ w) (hw : w ≤ 8) : valB 2 l < 256 := by
  have h1 := valB_lt (b := 2) (by decide) h
  have h2 : 2 ^ l.length ≤ 2 ^ 8 := Nat.pow_le_pow_right (by decide) (by omega)
  omega
/-- A base and how many bits its digits have. -/
def bw (base w : Nat) : Prop := (base = 1 ∧ w = 4) ∨ (base = 2 ∧ w = 5)
theorem bw_base {base w : Nat} (h : bw base w) : base = 1 ∨ base = 2 ∨ base = 3 := by
  rcases h with h | h
  · exact .inl h.1
  · exact .inr (.inl h.1)
theorem bw_len {base w : Nat} (h : bw base w) : (rdg base).length = 2 ^ w := by
  rcases h with ⟨rfl, rfl⟩ | ⟨rfl, rfl⟩ <;> decide
theorem bw_w {base w : Nat} (h : bw base w) : 0 < w ∧ w ≤ 8 := by
  rcases h with ⟨rfl, rfl⟩ | ⟨rfl, rfl⟩ <;> decide
/-- A text of bytes in a base. -/
def ofB (base w : Nat) (b : List Nat) : List Nat := (encW w b).map ((rdg base).getD · 0)
theorem ofB1 (b : List Nat) : ofB 1 4 b = of16 b := rfl
theorem ofB2 (b : List Nat) : ofB 2 5 b = of32 b := rfl
theorem pad_more {L r w : Nat} (hw : 0 < w) (h : (L + r) % w ≠ 0) (hr : r ≤ (w - L % w) % w) : r + 1 ≤ (w - L % w) % w := by
  have h0 : L % w < w := Nat.mod_lt _ hw
  by_cases hz : L % w = 0
  · rw [hz, Nat.sub_zero, Nat.mod_self] at hr
    have : r = 0 := by omega
    subst this
    exact absurd hz (by simpa using h)
  · rw [Nat.mod_eq_of_lt (a := w - L % w) (by omega)] at hr ⊢
    rcases Nat.lt_or_ge r (w - L % w) with h1 | h1
    · omega
    · have e : r = w - L % w := by omega
      exfalso
      apply h
      have e2 : L + r = w * (L / w + 1) := by
        have := Nat.div_add_mod L w
        rw [Nat.mul_add, Nat.mul_one]
        omega
      rw [e2, Nat.mul_mod_right]
theorem pad_done {L r w : Nat} (hw : 0 < w) (h : (L + r) % w = 0) (hr : r ≤ (w - L % w) % w) : r = (w - L % w) % w := by
  have h0 : L % w < w := Nat.mod_lt _ hw
  by_cases hz : L % w = 0
  · rw [hz, Nat.sub_zero, Nat.mod_self] at hr ⊢
    omega
  · rw [Nat.mod_eq_of_lt (a := w - L % w) (by omega)] at hr ⊢
    rcases Nat.lt_or_ge r (w - L % w) with h1 | h1
    · exfalso
      have e2 : (L + r) % w = L % w + r := by
        have := Nat.div_add_mod L w
        have e3 : L + r = w * (L / w) + (L % w + r) := by omega
        rw [e3, Nat.mul_add_mod, Nat.mod_eq_of_lt (by omega)]
      omega
    · omega

set_option maxRecDepth 1000000 in
set_option maxHeartbeats 2000000 in
theorem rofBits_any (w : World) (v : Value) (xs : List Nat) (base wd : Nat) (hb : BSl w v xs) (hw : bw base wd) (hl : xs.length ≤ 100000) :
    Calls Tryd.prog 37 #[v, .int .i64 (base : Nat), .int .i64 (wd : Nat)] w fun e w' => e = .returned (.string (nstr (ofB base wd xs))) ∧ Below w.heap.size w w' := by
  have HB := hide hb
  have HBW := hide hw
  obtain ⟨hw0, hw8⟩ := bw_w hw
  obtain ⟨⟨a, cap, rfl, hn, hc⟩, hmax, hby⟩ := hb
  have HC := hide hc
  clear hn hc hby hw
  go_enter Tryd.func37, Tryd.ntmps37
  go_wp2_with fail
  go_loopw [7, 8] (fun vv ii wx => ∃ i : Nat, i ≤ xs.length ∧ ii = .int .i64 (i : Nat) ∧ Hid (Ivw w wx vv ((xs.take i).flatMap (bitsW 8)))) (fun _ ii _ => xs.length - (intOf ii).toNat)
  case atStart => exact ⟨0, by omega, rfl, ⟨World.ownsRow_nil _ _ _ _, Below.refl _ _⟩⟩
  case round =>
    obtain ⟨i, hi, rfl, HI⟩ := hrel
    by_cases hlt : i < xs.length
    · have g1 : (i : Int) < (xs.length : Int) := by omega
      obtain ⟨b, off, rfl, hcc⟩ := HC.out.resolve_left (by intro e; rw [e] at hlt; simp at hlt)
      have HCX := hide (hcc i hlt)
      have HTK := hide (take_at xs i hlt)
      have HX6 := hide (getD_lt HB.out.byte i)
      generalize xs.getD i 0 = x at *
      have HLN : Hid (((xs.take i).flatMap (bitsW 8)).length ≤ 800000) := by
        show _ ≤ _
        rw [flat_len, List.length_take]
        omega
      clear hcc
      generalize hbs : (xs.take i).flatMap (bitsW 8) = bs at *
      have HBS := hide hbs
      clear hbs
      go_wp2_with fail
      go_loopw [7, 9] (fun vv kk wx => ∃ (m : Nat) (z : Int), m ≤ 8 ∧ z = (m : Int) - 1 ∧ kk = .int .i64 z ∧ Hid (Ivw w wx vv (bs ++ (bitsW 8 x).take (8 - m)))) (fun _ kk _ => (intOf kk + 1).toNat)
      case atStart => exact ⟨8, 7, by omega, by omega, rfl, by simpa using HI⟩
      case round => as_aux_lemma =>
        rename World => wz
        obtain ⟨m, z, hm, hz, rfl, HJ⟩ := hrel
        clear HI
        by_cases hm0 : 0 < m
        · obtain ⟨k, rfl⟩ : ∃ k, m = k + 1 := ⟨m - 1, by omega⟩
          obtain rfl : z = (k : Int) := by omega
          clear hz
          have g2 : (0 : Int) ≤ (k : Int) := by omega
          have g3 : (k : Int) ≤ 7 := by omega
          have cx := keep_below HJ.out.b _ _ HCX.out
          have HT8 := hide (bitsW_take 8 x k (by omega))
          have hhb := half_bit x k
          have hx2 := HX6.out
          have HLJ : Hid ((bs ++ (bitsW 8 x).take (8 - (k + 1))).length < 1099511627776) := by
            have := HLN.out
            show _ < _
            rw [List.length_append, List.length_take]
            omega
          have HJ2 : Hid (bs ++ (bitsW 8 x).take (8 - k) = (bs ++ (bitsW 8 x).take (8 - (k + 1))) ++ [x / 2 ^ k % 2]) := by show _ = _; rw [HT8.out, List.append_assoc]
          obtain ⟨a2, c2, hv2, _⟩ := own_form HJ.out.o
          subst hv2
          generalize bs ++ (bitsW 8 x).take (8 - (k + 1)) = ys at *
          generalize x / 2 ^ k % 2 = bt at *
          go_wp2_with (at_builtin; refine append_nat rfl _ _ rfl w.heap.size _ ys rfl HJ.out.o bt rfl HLJ.out HJ.out.b.size ?_)
          intro v7 w7 ho7 hb7
          have HJ7 := hide (HJ.out.more (l' := ys ++ [bt]) (by rw [List.length_append]; exact ho7) hb7)
          rw [← HJ2.out] at HJ7
          clear ho7 hb7 HJ
          go_wp2_with fail
          go_roundw
          case rel => exact ⟨k, (k : Int) - 1, by omega, rfl, by go_num, HJ7⟩
          case measure => simp [intOf]; try omega
        · obtain rfl : m = 0 := by omega
          have g2 : ¬ (0 : Int) ≤ z := by omega
          go_wp2_with fail
          go_roundw
          case rel =>
            refine ⟨i + 1, by omega, by go_num, ?_⟩
            rw [HTK.out, List.flatMap_append, List.flatMap_singleton, HBS.out]
            have h := HJ.out
            rw [List.take_of_length_le (by rw [bitsW_len]; omega)] at h
            exact h
          case measure => simp [intOf]; omega
    · have g1 : ¬ (i : Int) < (xs.length : Int) := by omega
      have HJ : Hid (Ivw w wr u7 (xs.flatMap (bitsW 8))) := by
        have h := HI.out
        rw [List.take_of_length_le (by omega)] at h
        exact h
      have HL8 := hide (flat_len 8 xs)
      have hL8 : (xs.flatMap (bitsW 8)).length ≤ 800000 := by rw [HL8.out]; omega
      have HL2 := hide (flat_lt 8 xs)
      clear HI
      go_wp2_with fail
      go_loopw [7] (fun vv wx => ∃ r : Nat, Hid (r ≤ (wd - xs.length * 8 % wd) % wd) ∧ Hid (Ivw w wx vv (xs.flatMap (bitsW 8) ++ List.replicate r 0))) (fun vv _ => xs.length * 8 + 8 - slen vv)
      case atStart => exact ⟨0, Nat.zero_le _, by simpa using HJ⟩
      case round =>
        rename World => wz
        obtain ⟨r, HR, HK⟩ := hrel
        clear HJ
        have hr8 : r ≤ 8 := by
          have h1 := HR.out
          have h2 : (wd - xs.length * 8 % wd) % wd < wd := Nat.mod_lt _ hw0
          omega
        have HLR : Hid ((xs.flatMap (bitsW 8) ++ List.replicate r 0).length = xs.length * 8 + r) := by show _ = _; rw [List.length_append, HL8.out, List.length_replicate]
        obtain ⟨a2, c2, hv2, _⟩ := own_form HK.out.o
        subst hv2
        by_cases hm : (xs.length * 8 + r) % wd = 0
        · as_aux_lemma =>
          have g2 : ((((xs.flatMap (bitsW 8) ++ List.replicate r 0).length : Nat) : Int) % (wd : Int) != 0) = false := by
            rw [HLR.out]
            exact bne_eq_false_iff_eq.2 (by exact_mod_cast hm)
          have HRE := hide (pad_done hw0 hm HR.out)
          have HEN : Hid (encW wd xs = grp wd (xs.flatMap (bitsW 8) ++ List.replicate r 0)) := by show _ = _; unfold encW; rw [← HRE.out]
          have HB2 : Hid (∀ x ∈ xs.flatMap (bitsW 8) ++ List.replicate r 0, x < 2) := fun x hx => by
            rcases List.mem_append.1 hx with h | h
            · exact HL2.out x h
            · have := List.eq_of_mem_replicate h
              omega
          obtain ⟨Q, hQ⟩ : ∃ Q, xs.length * 8 + r = Q * wd := ⟨(xs.length * 8 + r) / wd, (Nat.div_mul_cancel (Nat.dvd_of_mod_eq_zero hm)).symm⟩
          have HQ : Hid ((xs.flatMap (bitsW 8) ++ List.replicate r 0).length = Q * wd) := by show _ = _; rw [HLR.out, hQ]
          have hQ8 : Q * wd ≤ 800008 := by omega
          have HD := hide (fun wx => rdigits_any wx base (bw_base HBW.out))
          have HDS := hide (rdb_size base)
          have HDL := hide (bw_len HBW.out)
          have HDT := hide (rdb_sl base)
          have HOF : Hid (ofB base wd xs = (grp wd (xs.flatMap (bitsW 8) ++ List.replicate r 0)).map ((rdg base).getD · 0)) := by show _ = _; unfold ofB; rw [HEN.out]
          clear HR HRE HEN HLR hm hQ HL8 HL2 hL8 hr8
          generalize xs.flatMap (bitsW 8) ++ List.replicate r 0 = BS at *
          generalize rdb base = D at *
          generalize hT : rdg base = T at *
          have HTE := hide hT
          clear hT
          go_wp2_with fail
          have HBL : Hid (∀ j, j < Q * wd → ∃ g, a2 = some ⟨g, 0, none⟩ ∧ wz.cell? ⟨g, j, none⟩ = some (.int .i64 ((BS.getD j 0 : Nat) : Int))) := fun j hj => by
            obtain ⟨a3, c3, hv3, _, _, h3⟩ := own_form HK.out.o
            injection hv3 with e1 e2 e3
            subst e1
            exact h3 j _ (ivs_get (by rw [HQ.out]; exact hj))
          generalize hN : Q * wd = N at *
          have HN := hide hN
          clear hN
          go_loopw [10, 11] (fun oo ii wx => ∃ (q p : Nat) (out : List Nat), p ≤ N ∧ ii = .int .i64 (p : Nat) ∧ Hid (p = q * wd ∧ out.length = q) ∧ Hid (Rg wd BS out (BS.drop p)) ∧ Hid (wx.ownsRow wz.heap.size 5 1 oo (out.map (T.getD · 0)).length (bv (out.map (T.getD · 0)))) ∧ Hid (Below wz.heap.size wz wx)) (fun _ ii _ => N - (intOf ii).toNat)
          case atStart => exact ⟨0, 0, [], by omega, rfl, ⟨by simp, rfl⟩, ⟨by simp, by simp, by simpa using HB2.out⟩, World.ownsRow_nil _ _ _ _, Below.refl _ _⟩
          case round =>
            rename World => wy
            obtain ⟨q, p, out, hp, rfl, HPQ, HRg, HO, HBy⟩ := hrel
            by_cases hlp : p < N
            · have g3 : (p : Int) < (BS.length : Int) := by rw [HQ.out]; omega
              have hpn : p + wd ≤ N := by
                have h1 := HPQ.out.1
                have h2 := HN.out
                have h3 : q < Q := by
                  rcases Nat.lt_or_ge q Q with h | h
                  · exact h
                  · have := Nat.mul_le_mul_right wd h
                    omega
                have h4 : (q + 1) * wd ≤ Q * wd := Nat.mul_le_mul_right wd h3
                rw [Nat.add_mul, Nat.one_mul] at h4
                omega
              have HC2 : Hid (∀ k, k < wd → ∃ g, a2 = some ⟨g, 0, none⟩ ∧ wy.cell? ⟨g, p + k, none⟩ = some (.int .i64 ((BS.getD (p + k) 0 : Nat) : Int))) := fun k hk => by
                obtain ⟨g, e, h⟩ := HBL.out (p + k) (by omega)
                exact ⟨g, e, keep_below HBy.out _ _ h⟩
              obtain ⟨g, rfl, _⟩ := HC2.out 0 hw0
              have HB2p : Hid (∀ k, k < wd → BS.getD (p + k) 0 < 2) := fun k hk => by
                have h1 : p + k < BS.length := by rw [HQ.out]; omega
                rw [List.getD_eq_getElem?_getD, List.getElem?_eq_getElem h1]
                exact HB2.out _ (List.getElem_mem h1)
              have hN8 : N ≤ 800008 := hQ8
              go_wp2_with fail
              go_loopw [12, 13] (fun nn kk wx => ∃ k n : Nat, k ≤ wd ∧ n < 256 ∧ kk = .int .i64 (k : Nat) ∧ nn = .int .i64 (n : Nat) ∧ Hid (n = valB 2 ((BS.drop p).take k)) ∧ wx = wy) (fun _ kk _ => wd - (intOf kk).toNat)
              case atStart => exact ⟨0, 0, by omega, by omega, rfl, rfl, by show _ = _; simp [valB], rfl⟩
              case round => as_aux_lemma =>
                obtain ⟨k, n, hk, hn, rfl, rfl, HV, rfl⟩ := hrel
                by_cases hkw : k < wd
                · have g4 : (k : Int) < (wd : Int) := by omega
                  have g6 : (p : Int) + (k : Int) < (BS.length : Int) := by rw [HQ.out]; omega
                  obtain ⟨g', e, ck⟩ := HC2.out k hkw
                  injection e with e
                  injection e with e
                  subst e
                  have hbt := HB2p.out k hkw
                  have HV2 := hide (valB_step BS p k (by rw [HQ.out]; omega))
                  have hV8 : valB 2 ((BS.drop p).take (k + 1)) < 256 := valB2_lt (w := k + 1) (fun x hx => HB2.out x (List.mem_of_mem_drop (List.mem_of_mem_take hx))) (by rw [List.length_take]; omega) (by omega)
                  rw [HV2.out, ← HV.out] at hV8
                  rw [← HV.out] at HV2
                  generalize BS.getD (p + k) 0 = bt at *
                  go_wp2_with fail
                  go_roundw
                  case rel => exact ⟨k + 1, 2 * n + bt, by omega, by omega, by go_num, by go_num, HV2.out.symm, trivial⟩
                  case measure => simp [intOf]; omega
                · have hkw2 : k = wd := by omega
                  subst hkw2
                  have g4 : ¬ (k : Int) < (k : Int) := by omega
                  have HRd := hide (HRg.out.take (by rw [List.length_drop, HQ.out]; omega))
                  rw [← HV.out, List.drop_drop] at HRd
                  have HT2 : Hid (n < T.length) := by
                    have h1 := HRd.out.o n (by simp)
                    show _ < _
                    rw [HDL.out]
                    exact h1
                  have hD : n < D.size := by rw [HDS.out]; exact HT2.out
                  have HDn : Hid (D[n].toNat = T.getD n 0) := by
                    have h := sl_at D n hD
                    rw [HDT.out] at h
                    exact h.symm
                  have g5 : (n : Int) < (D.size : Int) := by omega
                  have hby : D[n].toNat < 256 := (D[n]).toNat_lt
                  have HMP : Hid ((out ++ [n]).map (T.getD · 0) = out.map (T.getD · 0) ++ [D[n].toNat]) := by show _ = _; rw [List.map_append, HDn.out]; rfl
                  have HLJ : Hid ((out.map (T.getD · 0)).length < 1099511627776) := by
                    show _ < _
                    rw [List.length_map, HPQ.out.2]
                    have h1 := HPQ.out.1
                    have h2 : q * 1 ≤ q * k := Nat.mul_le_mul_left q hw0
                    omega
                  have HPQ2 : Hid (p + k = (q + 1) * k ∧ (out ++ [n]).length = q + 1) := ⟨by rw [Nat.add_mul, Nat.one_mul, ← HPQ.out.1], by rw [List.length_append, HPQ.out.2]; rfl⟩
                  obtain ⟨a5, c5, hv5, _⟩ := own_form HO.out
                  subst hv5
                  generalize out.map (T.getD · 0) = ys at *
                  go_wp2_with (first
                    | (go_at_call 61; refine (HD.out _).mono ?_; rintro e wn ⟨rfl, rfl⟩)
                    | (at_builtin; refine append_byte rfl _ _ rfl wz.heap.size _ ys rfl HO.out D[n].toNat hby rfl HLJ.out HBy.out.size ?_))
                  intro v7 w7 ho7 hb7
                  have HO7 : Hid (w7.ownsRow wz.heap.size 5 1 v7 ((out ++ [n]).map (T.getD · 0)).length (bv ((out ++ [n]).map (T.getD · 0)))) := by
                    show World.ownsRow _ _ _ _ _ _ _
                    rw [HMP.out, List.length_append]
                    exact ho7
                  have HB7 := hide (HBy.out.trans hb7)
                  clear ho7 hb7 HO HBy HC2 HMP
                  go_wp2_with fail
                  go_roundw
                  case rel => exact ⟨q + 1, p + k, out ++ [n], by omega, by go_num, HPQ2, HRd, HO7, HB7⟩
                  case measure => simp [intOf]; omega
            · have g3 : ¬ (p : Int) < (BS.length : Int) := by rw [HQ.out]; omega
              have HRG : Hid (ofB base wd xs = out.map (T.getD · 0)) := by
                have h := HRg.out.grp hw0 (by rw [List.length_drop, HQ.out]; omega)
                show _ = _
                rw [HOF.out, ← h]
              have HTB : Hid (∀ x ∈ T, x < 256) := by
                have h := rdg_byte base
                rw [HTE.out] at h
                exact h
              have cv := (BSl.own HO.out (fun x hx => by
                obtain ⟨n, hn, rfl⟩ := List.mem_map.1 hx
                exact getD_lt HTB.out n)).text
              have HB9 : Hid (Below w.heap.size w wy) := HK.out.b.trans (HBy.out.mono HK.out.b.size)
              go_wp2_with fail
              go_ret
              exact ⟨by rw [HRG.out]; rfl, HB9.out⟩
        · have g2 : ((((xs.flatMap (bitsW 8) ++ List.replicate r 0).length : Nat) : Int) % (wd : Int) != 0) = true := by
            rw [HLR.out]
            exact bne_iff_ne.2 (fun h => hm (by exact_mod_cast h))
          have HR2 := hide (pad_more hw0 hm HR.out)
          have HRS : Hid (xs.flatMap (bitsW 8) ++ List.replicate (r + 1) 0 = (xs.flatMap (bitsW 8) ++ List.replicate r 0) ++ [0]) := by show _ = _; rw [List.replicate_succ', List.append_assoc]
          have HLJ : Hid ((xs.flatMap (bitsW 8) ++ List.replicate r 0).length < 1099511627776) := by show _ < _; rw [HLR.out]; omega
          generalize xs.flatMap (bitsW 8) ++ List.replicate r 0 = ys at *
          go_wp2_with (at_builtin; refine append_nat rfl _ _ rfl w.heap.size _ ys rfl HK.out.o 0 rfl HLJ.out HK.out.b.size ?_)
          intro v7 w7 ho7 hb7
          have HJ7 := hide (HK.out.more (l' := ys ++ [0]) (by rw [List.length_append]; exact ho7) hb7)
          obtain ⟨a3, c3, hv3, _⟩ := own_form ho7
          subst hv3
          rw [← HRS.out] at HJ7
          clear ho7 hb7 HK
          go_wp2_with fail
          go_roundw
          case rel => exact ⟨r + 1, HR2, HJ7⟩
          case measure =>
            have h1 := HLR.out
            have h2 := HR2.out
            have h3 : (wd - xs.length * 8 % wd) % wd < wd := Nat.mod_lt _ hw0
            simp only [slen]
            omega
end
section
open Go.RowKit Go
/-- A []int that reads as numbers. -/
structure IvR (w : World) (v : Value) (l : List Nat) : Prop where
  form : ∃ a cap, v = .slice a l.length cap ∧ (a = none → cap = 0) ∧ (∀ ad, a = some ad → ∃ b, ad = ⟨b, 0, none⟩) ∧ l.length ≤ cap ∧ ∀ j, j < l.length → ∃ b, a = some ⟨b, 0, none⟩ ∧ w.cell? ⟨b, j, none⟩ = some (.int .i64 ((l.getD j 0 : Nat) : Int))
theorem IvR.move {w w' : World} {v : Value} {l : List Nat} (h : IvR w v l) (hm : ∀ p u, w.cell? p = some u → w'.cell? p = some u) : IvR w' v l := by
  obtain ⟨a, cap, hv, h0, ho, hc, hj⟩ := h.form
  exact ⟨a, cap, hv, h0, ho, hc, fun j h => (hj j h).imp fun b hb => ⟨hb.1, hm _ _ hb.2⟩⟩
theorem IvR.own {w : World} {B : Nat} {v : Value} {l : List Nat} (h : w.ownsRow B 3 1 v l.length (ivs l)) : IvR w v l := by
  obtain ⟨a, cap, hv, hc, _, hj⟩ := own_form h
  refine ⟨a, cap, hv, fun ha => ?_, fun ad hd => ?_, hc, fun j hl => hj j _ (ivs_get hl)⟩
  · subst ha
    rcases h.2 with ⟨rfl, h0⟩ | ⟨g, cap', cur, rfl, _⟩
    · injection hv with _ _ e
      exact e.symm
    · cases hv
  · rcases h.2 with ⟨rfl, h0⟩ | ⟨g, cap', cur, rfl, _⟩
    · injection hv with e
      rw [hd] at e
      cases e
    · injection hv with e
      rw [hd] at e
      injection e with e
      exact ⟨g, e.symm⟩
set_option maxRecDepth 100000 in
theorem append_nats {ops : Array Oper} {rest : List Oper} {o : Oper} {a : Act} {Q : Exit → Act → World → Prop} {w : World} (hgd : o.guard = none) (s x : Operand)
    (ho : o.op = .call { callee := .builtin .append, args := #[s, x], argTypes := #[26, 26] }) (B : Nat) (v : Value) (ds : List Nat) (hs : a.eval s = v) (hown : w.ownsRow B 3 1 v ds.length (ivs ds))
    (u : Value) (es : List Nat) (hx : a.eval x = u) (hu : IvR w u es) (hlen : ds.length + es.length < 1099511627776) (hbase : B ≤ w.heap.size)
    (h : ∀ v' w', w'.ownsRow B 3 1 v' (ds ++ es).length (ivs (ds ++ es)) → Below B w w' → wpList Tryd.prog ops Q rest (a.put o.dst v') w') : wpList Tryd.prog ops Q (o :: rest) a w := by
  obtain ⟨i, hi, hz0, hz1, hz2⟩ := info3_ex
  obtain ⟨ad, cap, rfl, h0, hoff, hc, hj⟩ := hu.form
  cases ad with
  | none =>
    have hc0 := h0 rfl
    have he : es = [] := by
      cases es with
      | nil => rfl
      | cons y ys => simp at hc; omega
    subst hc0
    subst he
    refine wpList_append_own_none hgd s x 26 ho B 3 i 1 Tryd.underlying26 hi v ds.length (ivs ds) hs hown hx (h v w (by simpa using hown) (Below.refl _ _))
  | some ad =>
    obtain ⟨b, rfl⟩ := hoff ad rfl
    refine wpList_append_own_at w hgd s x 26 ho B 3 i (.int .i64 0) 1 8 Tryd.underlying26 hi hz0 hz1 hz2 rfl (by decide) v ds.length (ivs ds) hs hown ⟨b, 0, none⟩ es.length cap (ivs es) hx (by rw [ivs_len, Nat.mul_one]) (fun j u hu => ?_) (fun u hu => ?_) (by unfold maxLen; omega) (by omega) hbase fun v' w' h1 h2 _ _ => h v' w' ?_ ?_
    · have hjl : j < es.length := by
        rcases Nat.lt_or_ge j es.length with h | h
        · exact h
        · rw [List.getElem?_eq_none (by rw [ivs_len]; exact h)] at hu
          cases hu
      rw [ivs_get hjl] at hu
      injection hu with hu
      obtain ⟨b', e, hcell⟩ := hj j hjl
      injection e with e
      injection e with e
      subst e
      have hadd : (⟨b, 0, none⟩ : Addr).add j = ⟨b, j, none⟩ := by unfold Addr.add; split <;> simp_all
      rw [hadd, hcell, hu]
    · simp only [ivs, List.mem_map] at hu
      obtain ⟨_, _, rfl⟩ := hu
      rfl
    · have e : ivs (ds ++ es) = ivs ds ++ ivs es := by simp [ivs]
      rw [e, List.length_append]
      exact h1
    · exact (Below.refl B w).grown h2 hbase (fun g hg => (hown.lt g hg).1)
theorem own_one3 (w : World) (r : Nat) : (w.alloc (.cells #[.int .i64 (r : Int)] 3)).ownsRow w.heap.size 3 1 (.slice (some ⟨w.heap.size, 0, none⟩) 1 1) [r].length (ivs [r]) :=
  ⟨rfl, .inr ⟨w.heap.size, 1, _, rfl, Nat.le_refl _, heap_alloc_new w _, Nat.le_refl _, by decide, rfl, rfl⟩⟩
/-- Long division: what has been divided, the quotient's digits, what is left. -/
structure Dv (fr tb : Nat) (p nx : List Nat) (r : Nat) : Prop where
  q : valB fr nx = valB fr p / tb
  r : r = valB fr p % tb
  d : ∀ x ∈ nx, x < fr
  h : nx.head? ≠ some 0
  n : nx.length ≤ p.length
theorem Dv.start (fr tb : Nat) : Dv fr tb [] [] 0 := ⟨by simp [valB], by simp [valB], by simp, by simp, by simp⟩
theorem Dv.eqs {fr tb : Nat} {p nx : List Nat} {r x : Nat} (h : Dv fr tb p nx r) (ht : 0 < tb) : valB fr (p ++ [x]) / tb = valB fr nx * fr + (fr * r + x) / tb ∧ valB fr (p ++ [x]) % tb = (fr * r + x) % tb := by
  have h1 := Nat.div_add_mod (valB fr p) tb
  have e : valB fr (p ++ [x]) = tb * (valB fr nx * fr) + (fr * r + x) := by
    rw [valB_snoc]
    have h2 : valB fr p = tb * valB fr nx + r := by rw [h.q, h.r]; exact h1.symm
    rw [h2, Nat.add_mul, Nat.mul_assoc, Nat.add_assoc, Nat.mul_comm r fr]
  rw [e]
  exact ⟨Nat.mul_add_div ht _ _, Nat.mul_add_mod _ _ _⟩
theorem Dv.lt {fr tb : Nat} {p nx : List Nat} {r : Nat} (h : Dv fr tb p nx r) (ht : 0 < tb) : r < tb := by rw [h.r]; exact Nat.mod_lt _ ht
theorem quo_lt {fr tb r x : Nat} (hr : r < tb) (hx : x < fr) : (fr * r + x) / tb < fr := by
  apply Nat.div_lt_of_lt_mul
  have : fr * r + fr ≤ fr * tb := by
    have h := Nat.mul_le_mul_left fr (Nat.succ_le_of_lt hr)
    rw [Nat.mul_succ] at h
    exact h
  rw [Nat.mul_comm tb fr]
  omega
theorem Dv.app {fr tb : Nat} {p nx : List Nat} {r x : Nat} (h : Dv fr tb p nx r) (ht : 0 < tb) (hx : x < fr) (hq : nx ≠ [] ∨ 0 < (fr * r + x) / tb) : Dv fr tb (p ++ [x]) (nx ++ [(fr * r + x) / tb]) ((fr * r + x) % tb) := by
  obtain ⟨e1, e2⟩ := h.eqs (x := x) ht
  refine ⟨by rw [valB_snoc, e1], e2.symm, fun y hy => ?_, ?_, by simp; exact h.n⟩
  · rcases List.mem_append.1 hy with hy | hy
    · exact h.d y hy
    · simp only [List.mem_singleton] at hy
      rw [hy]
      exact quo_lt (h.lt ht) hx
  · cases hn : nx with
    | nil =>
      rw [hn] at hq
      have h0 := hq.resolve_left (fun h => h rfl)
      simp only [List.nil_append, List.head?_cons]
      intro e
      injection e with e
      omega
    | cons y ys =>
      have := h.h
      rw [hn] at this
      simpa using this
theorem Dv.skip {fr tb : Nat} {p : List Nat} {r x : Nat} (h : Dv fr tb p [] r) (ht : 0 < tb) (hq : (fr * r + x) / tb = 0) : Dv fr tb (p ++ [x]) [] ((fr * r + x) % tb) := by
  obtain ⟨e1, e2⟩ := h.eqs (x := x) ht
  exact ⟨by rw [e1, hq]; simp [valB], e2.symm, by simp, by simp, by simp⟩
theorem digB_lenH {b : Nat} (hb : 2 ≤ b) : ∀ (k n : Nat), n < b ^ k → (digB b n).length ≤ k
  | 0, n, h => by
    have : n = 0 := by simpa using h
    rw [this, digB_zero]
    exact Nat.le_refl _
  | k + 1, n, h => by
    by_cases h0 : n = 0
    · rw [h0, digB_zero]
      simp
    · rw [digB_pos hb (by omega), List.length_append, List.length_singleton]
      have := digB_lenH hb k (n / b) (Nat.div_lt_of_lt_mul (by rw [Nat.mul_comm]; exact h))
      omega
theorem div_len {fr tb : Nat} (ht : 2 ≤ tb) (hf : 0 < fr) (hft : fr ≤ tb ^ 2) {l : List Nat} (hl : ∀ x ∈ l, x < fr) : (digB tb (valB fr l)).length ≤ 2 * l.length := by
  refine digB_lenH ht _ _ (Nat.lt_of_lt_of_le (valB_lt hf hl) ?_)
  rw [Nat.pow_mul]
  exact Nat.pow_le_pow_left hft _
theorem Dv.done {fr tb : Nat} {l nx out D0 : List Nat} {r : Nat} (h : Dv fr tb l nx r) (ht : 2 ≤ tb) (hp : nx ≠ [] ∨ 0 < r) (hf : 2 ≤ fr) (hD : digB tb (valB fr l) ++ out = D0) : digB tb (valB fr nx) ++ ([r] ++ out) = D0 := by
  have hN : 0 < valB fr l := by
    rcases hp with hp | hp
    · have h1 := valB_pos hf hp h.h
      rw [h.q] at h1
      rcases Nat.eq_zero_or_pos (valB fr l) with e | e
      · rw [e, Nat.zero_div] at h1
        omega
      · exact e
    · rw [h.r] at hp
      rcases Nat.eq_zero_or_pos (valB fr l) with e | e
      · rw [e, Nat.zero_mod] at hp
        omega
      · exact e
  rw [← hD, digB_pos ht hN, h.q, ← h.r, List.append_assoc]
theorem Dv.none {fr tb : Nat} {l : List Nat} (h : Dv fr tb l [] 0) : valB fr l = 0 := by
  have h1 := Nat.div_add_mod (valB fr l) tb
  rw [← h.q, ← h.r] at h1
  simpa [valB] using h1.symm
set_option maxRecDepth 1000000 in
set_option maxHeartbeats 2000000 in
theorem divided_any (w : World) (v : Value) (l0 : List Nat) (fr tb : Nat) (hv : IvR w v l0) (hl : ∀ x ∈ l0, x < fr) (hf : 2 ≤ fr) (hf6 : fr ≤ 256) (ht : 2 ≤ tb) (ht6 : tb ≤ 256) (hft : fr ≤ tb ^ 2) (hn : l0.length ≤ 2000) :
    Calls Tryd.prog 60 #[v, .int .i64 (fr : Nat), .int .i64 (tb : Nat)] w fun e w' => ∃ v', e = .returned v' ∧ w'.ownsRow w.heap.size 3 1 v' (digB tb (valB fr l0)).length (ivs (digB tb (valB fr l0))) ∧ Below w.heap.size w w' := by
  have HL0 := hide hl
  have HV0 := hide hv
  have HDL : Hid ((digB tb (valB fr l0)).length ≤ 4000) := by have := div_len ht (by omega) hft hl; show _ ≤ _; omega
  have HF := hide hft
  clear hl hv hft
  have hfz : (0 : Int) < (tb : Int) := by omega
  go_enter Tryd.func60, Tryd.ntmps60
  go_wp2_with fail
  generalize hD0 : digB tb (valB fr l0) = D0 at *
  have HD0 := hide hD0
  clear hD0
  go_loopw [0, 7] (fun lv ov wx => ∃ l out : List Nat, Hid (∀ x ∈ l, x < fr) ∧ l.length ≤ 2000 ∧ Hid (digB tb (valB fr l) ++ out = D0) ∧ Hid (IvR wx lv l) ∧ Hid (wx.ownsRow w.heap.size 3 1 ov out.length (ivs out)) ∧ Hid (Below w.heap.size w wx)) (fun lv ov _ => 2 * (D0.length - slen ov) + min 1 (slen lv))
  case atStart => exact ⟨l0, [], HL0, hn, by show _ = _; rw [List.append_nil, HD0.out], HV0, World.ownsRow_nil _ _ _ _, Below.refl _ _⟩
  case round =>
    rename World => wz
    obtain ⟨l, out, HL, hln, HDD, HV, HO, HB⟩ := hrel
    clear HL0 HV0
    obtain ⟨al, cl, hvl, _, _, _, hcl⟩ := HV.out.form
    subst hvl
    have HCL := hide hcl
    clear hcl
    go_wp2_with fail
    go_loopw [8, 9, 10, 11] (fun nv rr ss ii wx => ∃ (i r : Nat) (nx : List Nat) (f : Bool), i ≤ l.length ∧ r < tb ∧ ii = .int .i64 (i : Nat) ∧ rr = .int .i64 (r : Nat) ∧ ss = .bool f ∧ Hid (f = true ↔ nx ≠ []) ∧ Hid (Dv fr tb (l.take i) nx r) ∧ Hid (wx.ownsRow wz.heap.size 3 1 nv nx.length (ivs nx)) ∧ Hid (Below wz.heap.size wz wx)) (fun _ _ _ ii _ => l.length - (intOf ii).toNat)
    case atStart => exact ⟨0, 0, [], false, by omega, by omega, rfl, rfl, rfl, by show _ ↔ _; simp, Dv.start fr tb, World.ownsRow_nil _ _ _ _, Below.refl _ _⟩
    case round =>
      rename World => wy
      obtain ⟨i, r, nx, f, hi, hr, rfl, rfl, rfl, HF2, HDv, HN, HBy⟩ := hrel
      by_cases hlt : i < l.length
      · as_aux_lemma =>
        have g1 : (i : Int) < (l.length : Int) := by omega
        obtain ⟨b, rfl, hcb⟩ := HCL.out i hlt
        have cx := keep_below HBy.out _ _ hcb
        have HX : Hid (l.getD i 0 < fr) := by
          show _ < _
          rw [List.getD_eq_getElem?_getD, List.getElem?_eq_getElem hlt]
          exact HL.out _ (List.getElem_mem hlt)
        have HTK := hide (take_at l i hlt)
        generalize l.getD i 0 = x at *
        have hx := HX.out
        have hp1 : (fr : Int) * (r : Int) ≤ 65536 := by
          have : fr * r ≤ 65536 := Nat.le_trans (Nat.mul_le_mul hf6 (show r ≤ 256 by omega)) (by decide)
          have h2 : ((fr * r : Nat) : Int) ≤ ((65536 : Nat) : Int) := Int.ofNat_le.2 this
          rw [Int.natCast_mul] at h2
          exact h2
        have hp0 : (0 : Int) ≤ (fr : Int) * (r : Int) := by exact_mod_cast Nat.zero_le (fr * r)
        have e1 : (fr : Int) * (r : Int) + (x : Int) = ((fr * r + x : Nat) : Int) := by simp
        have e2 : ((fr * r + x : Nat) : Int) / (tb : Int) = (((fr * r + x) / tb : Nat) : Int) := by rw [Int.natCast_ediv]
        have e3 : ((fr * r + x : Nat) : Int) % (tb : Int) = (((fr * r + x) % tb : Nat) : Int) := by rw [Int.natCast_emod]
        have hq := quo_lt hr hx
        have hr2 : (fr * r + x) % tb < tb := Nat.mod_lt _ (by omega)
        have hn6 : fr * r + x ≤ 65792 := by
          have : fr * r ≤ 256 * 256 := Nat.mul_le_mul hf6 (by omega)
          omega
        have HAP := hide (fun h => HDv.out.app (x := x) (by omega) hx h)
        have HSK : Hid (∀ h : nx = [], (fr * r + x) / tb = 0 → Dv fr tb (l.take i ++ [x]) [] ((fr * r + x) % tb)) := fun h h0 => by
          have hd := HDv.out
          rw [h] at hd
          exact hd.skip (by omega) h0
        have HLJ : Hid (nx.length < 1099511627776) := by
          have h := HDv.out.n
          rw [List.length_take] at h
          show _ < _
          omega
        obtain ⟨a2, c2, hv2, _⟩ := own_form HN.out
        subst hv2
        generalize fr * r + x = n at *
        generalize n / tb = q at *
        generalize n % tb = r2 at *
        clear HDv
        cases f with
        | true =>
          have hnx := HF2.out.1 rfl
          go_wp2_with (at_builtin; refine append_nat rfl _ _ rfl wz.heap.size _ nx rfl HN.out q rfl HLJ.out HBy.out.size ?_)
          intro v7 w7 ho7 hb7
          have HO7 : Hid (w7.ownsRow wz.heap.size 3 1 v7 (nx ++ [q]).length (ivs (nx ++ [q]))) := by show World.ownsRow _ _ _ _ _ _ _; rw [List.length_append]; exact ho7
          have HB7 := hide (HBy.out.trans hb7)
          have HD7 := hide (HAP.out (.inl hnx))
          rw [← HTK.out] at HD7
          clear ho7 hb7 HAP HSK HN
          go_wp2_with fail
          go_roundw
          case rel => exact ⟨i + 1, r2, nx ++ [q], true, by omega, hr2, by go_num, by go_num, rfl, by show _ ↔ _; simp, HD7, HO7, HB7⟩
          case measure => simp [intOf]; omega
        | false =>
          have HNX : Hid (nx = []) := by
            rcases Classical.em (nx = []) with h | h
            · exact h
            · exact absurd (HF2.out.2 h) (by decide)
          by_cases hq0 : 0 < q
          · have g2 : (0 : Int) < (q : Int) := by omega
            go_wp2_with (at_builtin; refine append_nat rfl _ _ rfl wz.heap.size _ nx rfl HN.out q rfl HLJ.out HBy.out.size ?_)
            intro v7 w7 ho7 hb7
            have HO7 : Hid (w7.ownsRow wz.heap.size 3 1 v7 (nx ++ [q]).length (ivs (nx ++ [q]))) := by show World.ownsRow _ _ _ _ _ _ _; rw [List.length_append]; exact ho7
            have HB7 := hide (HBy.out.trans hb7)
            have HD7 := hide (HAP.out (.inr hq0))
            rw [← HTK.out] at HD7
            clear ho7 hb7 HAP HSK HN
            go_wp2_with fail
            go_roundw
            case rel => exact ⟨i + 1, r2, nx ++ [q], true, by omega, hr2, by go_num, by go_num, rfl, by show _ ↔ _; simp, HD7, HO7, HB7⟩
            case measure => simp [intOf]; omega
          · have g2 : ¬ (0 : Int) < (q : Int) := by omega
            have HD7 := hide (HSK.out HNX.out (by omega))
            rw [← HTK.out] at HD7
            clear HAP HSK
            go_wp2_with fail
            go_roundw
            case rel => exact ⟨i + 1, r2, [], false, by omega, hr2, by go_num, by go_num, rfl, by show _ ↔ _; simp, HD7, by (have h := HN; rw [HNX.out] at h; rw [HNX.out]; exact h), HBy⟩
            case measure => simp [intOf]; omega
      · have g1 : ¬ (i : Int) < (l.length : Int) := by omega
        have HDl : Hid (Dv fr tb l nx r) := by
          have h := HDv.out
          rw [List.take_of_length_le (by omega)] at h
          exact h
        have HOy := hide (own_below (B := 0) HO.out HBy.out rfl)
        have HBw : Hid (Below w.heap.size w wy) := HB.out.trans (HBy.out.mono HB.out.size)
        have HNR := hide (IvR.own HN.out)
        have HNL : Hid (nx.length ≤ 2000) := by
          have h := HDl.out.n
          show _ ≤ _
          omega
        have HNd := hide HDl.out.d
        have HOL : Hid (out.length ≤ D0.length) := by
          show _ ≤ _
          rw [← HDD.out, List.length_append]
          omega
        obtain ⟨a2, c2, hv2, _⟩ := own_form HN.out
        subst hv2
        obtain ⟨a3, c3, hv3, _⟩ := own_form HOy.out
        subst hv3
        clear HDv HV HCL HN HO HB HBy hlt
        by_cases hl0 : l.length = 0
        · as_aux_lemma =>
          have g2 : ((l.length : Int) == 0) = true := beq_iff_eq.2 (by omega)
          have HE : Hid (out = D0) := by
            have h := HDD.out
            have hle : l = [] := List.length_eq_zero_iff.1 hl0
            rw [hle, valB_nil, digB_zero, List.nil_append] at h
            exact h
          go_wp2_with fail
          go_ret
          exact ⟨_, rfl, by rw [HD0.out, ← HE.out]; exact HOy.out, HBw.out⟩
        · have g2 : ((l.length : Int) == 0) = false := beq_eq_false_iff_ne.2 (by omega)
          have HOR := hide ((IvR.own HOy.out).move (keep_below (below_alloc4 wy (.cells #[.int .i64 (r : Int)] 3))))
          have HBA := hide ((below_alloc4 wy (.cells #[.int .i64 (r : Int)] 3)))
          have HSA := hide HBA.out.size
          have HLJ : Hid ([r].length + out.length < 1099511627776) := by
            have h1 := HOL.out
            have h2 := HDL.out
            show _ < _
            rw [List.length_singleton]
            omega
          cases f with
          | true =>
            as_aux_lemma =>
            have HDn := hide (HDl.out.done ht (.inl (HF2.out.1 rfl)) hf HDD.out)
            go_wp2_with (at_builtin; refine append_nats rfl _ _ rfl wy.heap.size _ [r] rfl (own_one3 wy r) _ out rfl HOR.out HLJ.out HSA.out ?_)
            intro v7 w7 ho7 hb7
            have HB7a : Hid (Below wy.heap.size wy w7) := HBA.out.trans hb7
            have HB7 : Hid (Below w.heap.size w w7) := HBw.out.trans (HB7a.out.mono HBw.out.size)
            have HO7 : Hid (w7.ownsRow w.heap.size 3 1 v7 ([r] ++ out).length (ivs ([r] ++ out))) := own_mono ho7 HBw.out.size
            have HN7 := hide (HNR.out.move (keep_below HB7a.out))
            have HS7 : Hid (slen v7 = 1 + out.length) := by
              obtain ⟨a4, c4, hv4, _⟩ := own_form HO7.out
              show _ = _
              rw [hv4, List.length_append]
              rfl
            clear ho7 hb7 HNR HOy HOR HBA
            go_wp2_with fail
            go_roundw
            case rel => exact ⟨nx, [r] ++ out, HNd, HNL.out, HDn, HN7, HO7, HB7⟩
            case measure =>
              have h1 := HDn.out
              have h2 := congrArg List.length h1
              rw [List.length_append, List.length_append, List.length_singleton] at h2
              rw [HS7.out]
              simp only [slen]
              omega
          | false =>
            have HNX : Hid (nx = []) := by
              rcases Classical.em (nx = []) with h | h
              · exact h
              · exact absurd (HF2.out.2 h) (by decide)
            by_cases hr0 : 0 < r
            · as_aux_lemma =>
              have g3 : (0 : Int) < (r : Int) := by omega
              have HDn := hide (HDl.out.done ht (.inr hr0) hf HDD.out)
              go_wp2_with (at_builtin; refine append_nats rfl _ _ rfl wy.heap.size _ [r] rfl (own_one3 wy r) _ out rfl HOR.out HLJ.out HSA.out ?_)
              intro v7 w7 ho7 hb7
              have HB7a : Hid (Below wy.heap.size wy w7) := HBA.out.trans hb7
              have HB7 : Hid (Below w.heap.size w w7) := HBw.out.trans (HB7a.out.mono HBw.out.size)
              have HO7 : Hid (w7.ownsRow w.heap.size 3 1 v7 ([r] ++ out).length (ivs ([r] ++ out))) := own_mono ho7 HBw.out.size
              have HN7 := hide (HNR.out.move (keep_below HB7a.out))
              have HS7 : Hid (slen v7 = 1 + out.length) := by
                obtain ⟨a4, c4, hv4, _⟩ := own_form HO7.out
                show _ = _
                rw [hv4, List.length_append]
                rfl
              clear ho7 hb7 HNR HOy HOR HBA
              go_wp2_with fail
              go_roundw
              case rel => exact ⟨nx, [r] ++ out, HNd, HNL.out, HDn, HN7, HO7, HB7⟩
              case measure =>
                have h1 := HDn.out
                have h2 := congrArg List.length h1
                rw [List.length_append, List.length_append, List.length_singleton] at h2
                rw [HS7.out]
                simp only [slen]
                omega
            · as_aux_lemma =>
              have g3 : ¬ (0 : Int) < (r : Int) := by omega
              have g4 : ¬ (0 : Int) < (nx.length : Int) := by rw [HNX.out]; decide
              have HDn : Hid (digB tb (valB fr nx) ++ out = D0) := by
                have h1 := HDl.out
                have hr1 : r = 0 := by omega
                rw [HNX.out, hr1] at h1
                have h2 := HDD.out
                rw [h1.none, digB_zero] at h2
                show _ = _
                rw [HNX.out, valB_nil, digB_zero]
                exact h2
              go_wp2_with fail
              go_roundw
              case rel => exact ⟨nx, out, HNd, HNL.out, HDn, HNR, HOy, HBw⟩
              case measure =>
                simp only [slen]
                have h1 : nx.length = 0 := by rw [HNX.out]; rfl
                omega
end
section
open Go.RowKit Go
/-- The bytes of a text in a base of so many bits. -/
def inB (base w : Nat) (s : List Nat) : Option (List Nat) := (looks (rdg base) s).bind fun l => if ofB base w (decW w l) = s then some (decW w l) else none
theorem inB1 (s : List Nat) : inB 1 4 s = in16 s := rfl
theorem inB2 (s : List Nat) : inB 2 5 s = in32 s := rfl
theorem bw_pow {base w : Nat} (h : bw base w) : 2 ^ w ≤ 256 := by
  rcases h with ⟨rfl, rfl⟩ | ⟨rfl, rfl⟩ <;> decide
theorem ofB_byte (base w : Nat) (b : List Nat) : ∀ x ∈ ofB base w b, x < 256 := fun x hx => by
  obtain ⟨n, _, rfl⟩ := List.mem_map.1 hx
  exact getD_lt (rdg_byte base) n
theorem nstr_eq {xs : List Nat} {S : ByteArray} (h : ∀ x ∈ xs, x < 256) : ((nstr xs).toList == S.toList) = decide (xs = sl S) := by
  by_cases e : xs = sl S
  · rw [e, nstr_sl]
    simp
  · rw [decide_eq_false e]
    refine beq_eq_false_iff_ne.2 fun h2 => e (nstr_inj h (sl_byte S) ?_)
    rw [nstr_sl]
    exact h2

set_option maxRecDepth 1000000 in
set_option maxHeartbeats 2000000 in
theorem rinBits_any (w : World) (S : ByteArray) (base wd : Nat) (hw : bw base wd) (hs : S.size ≤ 1000) :
    Calls Tryd.prog 41 #[.string S, .int .i64 (base : Nat), .int .i64 (wd : Nat)] w fun e w' => ∃ v, e = .returned (.tuple #[v, .bool (inB base wd (sl S)).isSome]) ∧ (∀ b, inB base wd (sl S) = some b → w'.ownsRow w.heap.size 5 1 v b.length (bv b)) ∧ Below w.heap.size w w' := by
  have HBW := hide hw
  obtain ⟨hw0, hw8⟩ := bw_w hw
  have HP6 := hide (bw_pow hw)
  have HTL := hide (bw_len hw)
  have HVA := hide (fun wx c => rvalue_any wx base c (bw_base HBW.out))
  clear hw
  go_enter Tryd.func41, Tryd.ntmps41
  go_wp2_with fail
  go_loopw [8, 9] (fun vv ii wx => ∃ (i : Nat) (l : List Nat), i ≤ S.size ∧ ii = .int .i64 (i : Nat) ∧ Hid (looks (rdg base) ((sl S).take i) = some l) ∧ Hid (Ivw w wx vv (l.flatMap (bitsW wd)))) (fun _ ii _ => S.size - (intOf ii).toNat)
  case atStart => exact ⟨0, [], by omega, rfl, rfl, ⟨World.ownsRow_nil _ _ _ _, Below.refl _ _⟩⟩
  case round =>
    obtain ⟨i, l, hi, rfl, HLK, HI⟩ := hrel
    have HLL : Hid (l.length = i) := by
      have h := looks_len HLK.out
      rw [List.length_take, sl_len] at h
      show _ = _
      omega
    by_cases hlt : i < S.size
    · have g1 : (i : Int) < (S.size : Int) := by omega
      have hx256 : (S[i].toNat : Int) < 256 := by have := (S[i]).toNat_lt; omega
      have HSN : Hid ((sl S).take (i + 1) = (sl S).take i ++ [S[i].toNat]) := by
        show _ = _
        have h1 : i < (sl S).length := by rw [sl_len]; exact hlt
        have h2 := sl_at S i hlt
        rw [take_at _ _ h1, h2]
      have HLS := hide (looks_snoc (rdg base) ((sl S).take i) S[i].toNat)
      rw [← HSN.out, HLK.out, Option.bind_some] at HLS
      cases hlo : look (rdg base) S[i].toNat with
      | none =>
        as_aux_lemma =>
        have HV1 : Hid (∀ wx, Calls Tryd.prog 65 #[.int .i64 (base : Nat), .int .u8 (S[i].toNat : Nat)] wx fun e w' => e = .returned (.int .i64 (-1)) ∧ w' = wx) := fun wx => by
          have h := HVA.out wx S[i].toNat
          rw [hlo] at h
          exact h
        have HN : Hid (inB base wd (sl S) = none) := by
          have h1 : looks (rdg base) ((sl S).take (i + 1)) = none := by rw [HLS.out, hlo]; rfl
          have h2 := looks_none (r := (sl S).drop (i + 1)) h1
          rw [List.take_append_drop] at h2
          show _ = _
          unfold inB
          rw [h2]
          rfl
        have HB := hide HI.out.b
        clear hlo HLS HVA HI
        go_wp2_with (go_at_call 65; refine (HV1.out _).mono ?_; rintro e wn ⟨rfl, rfl⟩)
        go_ret2
        exact ⟨_, by rw [HN.out]; rfl, (fun b hb => by rw [HN.out] at hb; cases hb), HB.out⟩
      | some d =>
        have HV1 : Hid (∀ wx, Calls Tryd.prog 65 #[.int .i64 (base : Nat), .int .u8 (S[i].toNat : Nat)] wx fun e w' => e = .returned (.int .i64 (d : Nat)) ∧ w' = wx) := fun wx => by
          have h := HVA.out wx S[i].toNat
          rw [hlo] at h
          exact h
        have HLK2 : Hid (looks (rdg base) ((sl S).take (i + 1)) = some (l ++ [d])) := by show _ = _; rw [HLS.out, hlo]; rfl
        have hd6 : d < 256 := by
          have h1 := (look_get hlo).1
          rw [HTL.out] at h1
          have := HP6.out
          omega
        have HLN : Hid ((l.flatMap (bitsW wd)).length ≤ 8000) := by
          show _ ≤ _
          rw [flat_len, HLL.out]
          have : i * wd ≤ 1000 * 8 := Nat.mul_le_mul (by omega) hw8
          omega
        clear hlo HLS HSN
        generalize hbs : l.flatMap (bitsW wd) = bs at *
        have HBS := hide hbs
        clear hbs
        go_wp2_with (go_at_call 65; refine (HV1.out _).mono ?_; rintro e wn ⟨rfl, rfl⟩)
        go_loopw [8, 11] (fun vv kk wx => ∃ (m : Nat) (z : Int), m ≤ wd ∧ z = (m : Int) - 1 ∧ kk = .int .i64 z ∧ Hid (Ivw w wx vv (bs ++ (bitsW wd d).take (wd - m)))) (fun _ kk _ => (intOf kk + 1).toNat)
        case atStart => exact ⟨wd, (wd : Int) - 1, by omega, rfl, by go_num, by simpa using HI⟩
        case round => as_aux_lemma =>
          rename World => wz
          obtain ⟨m, z, hm, hz, rfl, HJ⟩ := hrel
          clear HI
          by_cases hm0 : 0 < m
          · obtain ⟨k, rfl⟩ : ∃ k, m = k + 1 := ⟨m - 1, by omega⟩
            obtain rfl : z = (k : Int) := by omega
            clear hz
            have g2 : (0 : Int) ≤ (k : Int) := by omega
            have g3 : (k : Int) ≤ 7 := by omega
            have HT8 := hide (bitsW_take wd d k (by omega))
            have hhb := half_bit d k
            have HLJ : Hid ((bs ++ (bitsW wd d).take (wd - (k + 1))).length < 1099511627776) := by
              have := HLN.out
              show _ < _
              rw [List.length_append, List.length_take]
              have : (bitsW wd d).length = wd := bitsW_len wd d
              omega
            have HJ2 : Hid (bs ++ (bitsW wd d).take (wd - k) = (bs ++ (bitsW wd d).take (wd - (k + 1))) ++ [d / 2 ^ k % 2]) := by show _ = _; rw [HT8.out, List.append_assoc]
            obtain ⟨a2, c2, hv2, _⟩ := own_form HJ.out.o
            subst hv2
            generalize bs ++ (bitsW wd d).take (wd - (k + 1)) = ys at *
            generalize d / 2 ^ k % 2 = bt at *
            go_wp2_with (at_builtin; refine append_nat rfl _ _ rfl w.heap.size _ ys rfl HJ.out.o bt rfl HLJ.out HJ.out.b.size ?_)
            intro v7 w7 ho7 hb7
            have HJ7 := hide (HJ.out.more (l' := ys ++ [bt]) (by rw [List.length_append]; exact ho7) hb7)
            rw [← HJ2.out] at HJ7
            clear ho7 hb7 HJ
            go_wp2_with fail
            go_roundw
            case rel => exact ⟨k, (k : Int) - 1, by omega, rfl, by go_num, HJ7⟩
            case measure => simp [intOf]; try omega
          · obtain rfl : m = 0 := by omega
            have g2 : ¬ (0 : Int) ≤ z := by omega
            go_wp2_with fail
            go_roundw
            case rel =>
              refine ⟨i + 1, l ++ [d], by omega, by go_num, HLK2, ?_⟩
              rw [List.flatMap_append, List.flatMap_singleton, HBS.out]
              have h := HJ.out
              rw [List.take_of_length_le (by rw [bitsW_len]; omega)] at h
              exact h
            case measure => simp [intOf]; omega
    · have g1 : ¬ (i : Int) < (S.size : Int) := by omega
      have HLK2 : Hid (looks (rdg base) (sl S) = some l) := by
        have h := HLK.out
        rw [List.take_of_length_le (by rw [sl_len]; omega)] at h
        exact h
      have HIN : Hid (inB base wd (sl S) = if ofB base wd (decW wd l) = sl S then some (decW wd l) else none) := by show _ = _; unfold inB; rw [HLK2.out]; rfl
      have HDC : Hid (decW wd l = grp 8 (l.flatMap (bitsW wd))) := rfl
      have HB2 := hide (flat_lt wd l)
      have HBL : Hid ((l.flatMap (bitsW wd)).length ≤ 8000) := by
        show _ ≤ _
        rw [flat_len, HLL.out]
        have : i * wd ≤ 1000 * 8 := Nat.mul_le_mul (by omega) hw8
        omega
      obtain ⟨a2, c2, hv2, _⟩ := own_form HI.out.o
      subst hv2
      rename World => wz
      have HCL : Hid (∀ j, j < (l.flatMap (bitsW wd)).length → ∃ g, a2 = some ⟨g, 0, none⟩ ∧ wz.cell? ⟨g, j, none⟩ = some (.int .i64 (((l.flatMap (bitsW wd)).getD j 0 : Nat) : Int))) := fun j hj => by
        obtain ⟨a3, c3, hv3, _, _, h3⟩ := own_form HI.out.o
        injection hv3 with e1 e2 e3
        subst e1
        exact h3 j _ (ivs_get hj)
      clear HLK HLK2 HLL HVA HTL HP6
      generalize l.flatMap (bitsW wd) = BS at *
      go_wp2_with fail
      go_loopw [12, 13] (fun oo ii wx => ∃ (q p : Nat) (out : List Nat), p ≤ BS.length ∧ ii = .int .i64 (p : Nat) ∧ Hid (p = q * 8 ∧ out.length = q) ∧ Hid (Rg 8 BS out (BS.drop p)) ∧ Hid (wx.ownsRow wz.heap.size 5 1 oo out.length (bv out)) ∧ Hid (Below wz.heap.size wz wx)) (fun _ ii _ => BS.length - (intOf ii).toNat)
      case atStart => exact ⟨0, 0, [], by omega, rfl, ⟨by simp, rfl⟩, ⟨by simp, by simp, by simpa using HB2.out⟩, World.ownsRow_nil _ _ _ _, Below.refl _ _⟩
      case round =>
        rename World => wy
        obtain ⟨q, p, out, hp, rfl, HPQ, HRg, HO, HBy⟩ := hrel
        have hN8 : BS.length ≤ 8000 := HBL.out
        by_cases hlp : p + 8 ≤ BS.length
        · have g3 : (p : Int) + 8 ≤ (BS.length : Int) := by omega
          have HC2 : Hid (∀ k, k < 8 → ∃ g, a2 = some ⟨g, 0, none⟩ ∧ wy.cell? ⟨g, p + k, none⟩ = some (.int .i64 ((BS.getD (p + k) 0 : Nat) : Int))) := fun k hk => by
            obtain ⟨g, e, h⟩ := HCL.out (p + k) (by omega)
            exact ⟨g, e, keep_below HBy.out _ _ h⟩
          obtain ⟨g, rfl, _⟩ := HC2.out 0 (by decide)
          have HB2p : Hid (∀ k, k < 8 → BS.getD (p + k) 0 < 2) := fun k hk => by
            have h1 : p + k < BS.length := by omega
            rw [List.getD_eq_getElem?_getD, List.getElem?_eq_getElem h1]
            exact HB2.out _ (List.getElem_mem h1)
          go_wp2_with fail
          go_loopw [14, 15] (fun nn kk wx => ∃ k n : Nat, k ≤ 8 ∧ n < 256 ∧ kk = .int .i64 (k : Nat) ∧ nn = .int .i64 (n : Nat) ∧ Hid (n = valB 2 ((BS.drop p).take k)) ∧ wx = wy) (fun _ kk _ => 8 - (intOf kk).toNat)
          case atStart => exact ⟨0, 0, by omega, by omega, rfl, rfl, by show _ = _; simp [valB], rfl⟩
          case round => as_aux_lemma =>
            obtain ⟨k, n, hk, hn, rfl, rfl, HV, rfl⟩ := hrel
            by_cases hkw : k < 8
            · have g4 : (k : Int) < 8 := by omega
              have g6 : (p : Int) + (k : Int) < (BS.length : Int) := by omega
              obtain ⟨g', e, ck⟩ := HC2.out k hkw
              injection e with e
              injection e with e
              subst e
              have hbt := HB2p.out k hkw
              have HV2 := hide (valB_step BS p k (by omega))
              have hV8 : valB 2 ((BS.drop p).take (k + 1)) < 256 := valB2_lt (w := k + 1) (fun x hx => HB2.out x (List.mem_of_mem_drop (List.mem_of_mem_take hx))) (by rw [List.length_take]; omega) (by omega)
              rw [HV2.out, ← HV.out] at hV8
              rw [← HV.out] at HV2
              generalize BS.getD (p + k) 0 = bt at *
              go_wp2_with fail
              go_roundw
              case rel => exact ⟨k + 1, 2 * n + bt, by omega, by omega, by go_num, by go_num, HV2.out.symm, trivial⟩
              case measure => simp [intOf]; omega
            · have hkw2 : k = 8 := by omega
              subst hkw2
              have HRd := hide (HRg.out.take (by rw [List.length_drop]; omega))
              rw [← HV.out, List.drop_drop] at HRd
              have HLJ : Hid (out.length < 1099511627776) := by
                have h1 := HPQ.out
                show _ < _
                omega
              have HPQ2 : Hid (p + 8 = (q + 1) * 8 ∧ (out ++ [n]).length = q + 1) := ⟨by rw [Nat.add_mul, Nat.one_mul, ← HPQ.out.1], by rw [List.length_append, HPQ.out.2]; rfl⟩
              have hn2 : (n : Int) < 256 := by omega
              obtain ⟨a5, c5, hv5, _⟩ := own_form HO.out
              subst hv5
              go_wp2_with (at_builtin; refine append_byte rfl _ _ rfl wz.heap.size _ out rfl HO.out n hn rfl HLJ.out HBy.out.size ?_)
              intro v7 w7 ho7 hb7
              have HO7 : Hid (w7.ownsRow wz.heap.size 5 1 v7 (out ++ [n]).length (bv (out ++ [n]))) := by
                show World.ownsRow _ _ _ _ _ _ _
                rw [List.length_append]
                exact ho7
              have HB7 := hide (HBy.out.trans hb7)
              clear ho7 hb7 HO HBy HC2
              go_wp2_with fail
              go_roundw
              case rel => exact ⟨q + 1, p + 8, out ++ [n], by omega, by go_num, HPQ2, HRd, HO7, HB7⟩
              case measure => simp [intOf]; omega
        · have g3 : ¬ (p : Int) + 8 ≤ (BS.length : Int) := by omega
          have HG : Hid (decW wd l = out) := by
            have h := HRg.out.grp (by decide) (by rw [List.length_drop]; omega)
            show _ = _
            rw [HDC.out, ← h]
          have HOB : Hid (∀ x ∈ out, x < 256) := fun x hx => HRg.out.o x hx
          rw [HG.out] at HIN
          have HOL : Hid (out.length ≤ 100000) := by
            have h1 := HPQ.out
            show _ ≤ _
            omega
          have HNE := hide (nstr_eq (xs := ofB base wd out) (S := S) (ofB_byte base wd out))
          have HB9 : Hid (Below w.heap.size w wy) := HI.out.b.trans (HBy.out.mono HI.out.b.size)
          obtain ⟨a5, c5, hv5, _⟩ := own_form HO.out
          subst hv5
          go_wp2_with fail
          refine (rofBits_any wy _ out base wd (BSl.own HO.out HOB.out) HBW.out HOL.out).mono ?_
          rintro e w9 ⟨rfl, hb9⟩
          have HO9 := hide (own_mono (own_below (B := 0) HO.out hb9 rfl) HI.out.b.size)
          have HB10 := hide (HB9.out.trans (hb9.mono HB9.out.size))
          clear hb9 HO HB9 HBy
          go_wp2_with fail
          go_ret2
          refine ⟨.slice a5 out.length c5, ?_, ?_, HB10.out⟩
          · rw [HIN.out]
            have e : (if ofB base wd out = sl S then some out else none).isSome = ((nstr (ofB base wd out)).toList == S.toList) := by
              rw [HNE.out]
              by_cases h : ofB base wd out = sl S <;> simp [h]
            rw [e]
            rfl
          · intro b hb
            rw [HIN.out] at hb
            split at hb
            · injection hb with hb
              subst hb
              exact HO9.out
            · cases hb
end
section
open Go.RowKit Go
section
variable {P : Program} {Q : Exit → Act → World → Prop} {S : World → Prop} {l : List Oper} {fuel : Nat} {listed : Array Bool} {a : Act} {w : World}
/-- A region that draws its order, by hand: begin. -/
theorem heldStart {id : Nat} (hm : P.follows .mixedOrders = true) (h : wpAnyH P .any l.toArray Q S l.length (Array.replicate l.length false) a w.drew) : (Code.region id l.toArray true).wp P Q a w :=
  wp_region_held (S := S) hm (by simpa using h)
/-- Take one first that reads alone. -/
theorem heldTake (i : Nat) {oi : Oper} (v : Value) (hi : l[i]? = some oi) (hs : Region.noSelect l.toArray = true) (hf : Region.free .any l.toArray listed i = true) (hr : (Region.ready .any l.toArray listed).contains i = true)
    (hQ : ∀ c a w, Q (.panic c) (a.put oi.dst v) w → Q (.panic c) a w) (hw : Region.wanted oi (yielded l.toArray a.tmps) = true) (hS : S w) (hy : ∀ w, S w → (execOp a.eval oi).run P w = .ok (.value v) w)
    (h : wpAnyH P .any l.toArray Q S fuel (listed.setIfInBounds i true) (a.put oi.dst v) w) : wpAnyH P .any l.toArray Q S (fuel + 1) listed a w :=
  wpAnyH_take (by simpa using hi) hs hf hr hQ (.inl ⟨hw, hy⟩) hS h
/-- The only one that may come up. -/
theorem heldStep (i : Nat) {oi : Oper} (hi : l[i]? = some oi) (hr : Region.ready .any l.toArray listed = [i])
    (h : ∀ K : Act → World → Prop, Hid (∀ a w, S w → (S w → wpAnyH P .any l.toArray Q S fuel (listed.setIfInBounds i true) a w) → K a w) → if Region.wanted oi (yielded l.toArray a.tmps) = true then Oper.wp P oi a w K Q else K (a.put oi.dst undef) w) : wpAnyH P .any l.toArray Q S (fuel + 1) listed a w :=
  wpAnyH_ready hr (by simp) (AllReadyH.cons (by simpa using hi) (fun K hK => h K hK) AllReadyH.nil)
theorem heldDone (hr : Region.ready .any l.toArray listed = []) (h : Q .normal a w) : wpAnyH P .any l.toArray Q S fuel listed a w := wpAnyH_done hr h fuel
end
end
section
open Go.RowKit Go
/-- Noughts ahead, and the digits behind them. -/
structure Sp (p : List Nat) (z : Nat) (l : List Nat) : Prop where
  e : p = List.replicate z 0 ++ l
  h : l.head? ≠ some 0
theorem Sp.start : Sp [] 0 [] := ⟨rfl, by simp⟩
theorem Sp.zero {p : List Nat} {z : Nat} (h : Sp p z []) : Sp (p ++ [0]) (z + 1) [] := ⟨by rw [h.e, List.append_nil, List.append_nil, List.replicate_succ'], by simp⟩
theorem Sp.more {p l : List Nat} {z x : Nat} (h : Sp p z l) (hx : l ≠ [] ∨ x ≠ 0) : Sp (p ++ [x]) z (l ++ [x]) := by
  refine ⟨by rw [h.e, List.append_assoc], ?_⟩
  cases hl : l with
  | nil =>
    rw [hl] at hx
    have h0 := hx.resolve_left (fun h => h rfl)
    simpa using h0
  | cons y ys =>
    have := h.h
    rw [hl] at this
    simpa using this
theorem Sp.tw {p l : List Nat} {z : Nat} (h : Sp p z l) : (p.takeWhile (· == 0)).length = z := by
  rw [h.e]
  have h1 := h.h
  clear h
  induction z with
  | zero =>
    cases l with
    | nil => rfl
    | cons y ys =>
      simp at h1
      simp [h1]
  | succ z ih =>
    rw [List.replicate_succ, List.cons_append, List.takeWhile_cons_of_pos rfl, List.length_cons, ih]
theorem Sp.conv {p l : List Nat} {z : Nat} (h : Sp p z l) (a b : Nat) : conv a b p = List.replicate z 0 ++ digB b (valB a l) := by
  rw [conv_val, h.tw, h.e, valB_zeros]
theorem Sp.len {p l : List Nat} {z : Nat} (h : Sp p z l) : p.length = z + l.length := by rw [h.e]; simp

/-- Two rows of a call's own, one of numbers, one of bytes. -/
structure Nb (w wx : World) (lv : Value) (l : List Nat) (ov : Value) (o : List Nat) : Prop where
  l : wx.ownsRow w.heap.size 3 1 lv l.length (ivs l)
  o : wx.ownsRow w.heap.size 5 1 ov o.length (bv o)
  b : Below w.heap.size w wx
theorem Nb.nat {ops : Array Oper} {rest : List Oper} {o : Oper} {a : Act} {Q : Exit → Act → World → Prop} {w wx : World} {lv ov : Value} {l os : List Nat} (hN : Nb w wx lv l ov os) (hgd : o.guard = none) (s x : Operand)
    (ho : o.op = .call { callee := .builtin .append, args := #[s, x], argTypes := #[26, 26] }) (hs : a.eval s = lv)
    (y : Nat) (hx : a.eval x = .slice (some ⟨wx.heap.size, 0, none⟩) 1 1) (hlen : l.length < 1099511627776)
    (h : ∀ v' w', Nb w w' v' (l ++ [y]) ov os → wpList Tryd.prog ops Q rest (a.put o.dst v') w') : wpList Tryd.prog ops Q (o :: rest) a (wx.alloc (.cells #[.int .i64 (y : Int)] 3)) := by
  refine append_int hgd s x ho w.heap.size lv l.length (ivs l) hs hN.l (y : Int) _ rfl hx hlen hN.b.size fun v' w' h1 h2 _ => h v' w' ⟨?_, ?_, ?_⟩
  · rw [ivs_snoc, List.length_append]
    exact h1
  · have hk : Kp (fun q => lv.ownBlock = some q) wx w' := ((Kp.refl _ wx).alloc _).grown h2 (fun k _ h => h)
    exact hk.owns hN.o (fun k hk2 hk3 => own_apart hN.o hN.l (by decide) hk2 hk3)
  · exact (hN.b.alloc hN.b.size _).grown h2 (by have := hN.b.size; simp; omega) (fun g hg => (hN.l.lt g hg).1)
theorem Nb.byte {ops : Array Oper} {rest : List Oper} {o : Oper} {a : Act} {Q : Exit → Act → World → Prop} {w wx : World} {lv ov : Value} {l os : List Nat} (hN : Nb w wx lv l ov os) (hgd : o.guard = none) (s x : Operand)
    (ho : o.op = .call { callee := .builtin .append, args := #[s, x], argTypes := #[47, 47] }) (hs : a.eval s = ov)
    (y : Nat) (hy : y < 256) (hx : a.eval x = .slice (some ⟨wx.heap.size, 0, none⟩) 1 1) (hlen : os.length < 1099511627776)
    (h : ∀ v' w', Nb w w' lv l v' (os ++ [y]) → wpList Tryd.prog ops Q rest (a.put o.dst v') w') : wpList Tryd.prog ops Q (o :: rest) a (wx.alloc (.cells #[.int .u8 (y : Int)] 5)) := by
  have hA := hN.o.alloc (.cells #[.int .u8 ((y : Nat) : Int)] 5)
  refine append_bsl hgd s x ho w.heap.size ov os.length os hs hA _ [y] hx (one_bsl wx y hy) (by rw [List.length_singleton]; omega) (by have := hN.b.size; simp; omega) fun v' w' h1 h2 => h v' w' ⟨?_, ?_, ?_⟩
  · have hk : Kp (fun q => ov.ownBlock = some q) wx w' := ((Kp.refl _ wx).alloc _).grown h2 (fun k _ h => h)
    exact hk.owns hN.l (fun k hk2 hk3 => own_apart hN.l hN.o (by decide) hk2 hk3)
  · rw [List.length_append]
    exact h1
  · exact (hN.b.alloc hN.b.size _).grown h2 (by have := hN.b.size; simp; omega) (fun g hg => (hN.o.lt g hg).1)

theorem Nb.stepByte {ops : Array Oper} {o : Oper} {a : Act} {K : Act → World → Prop} {Q : Exit → Act → World → Prop} {E : Prop} {w wx : World} {lv ov : Value} {l os : List Nat} (hN : Nb w wx lv l ov os) (hgd : o.guard = none) (s x : Operand)
    (ho : o.op = .call { callee := .builtin .append, args := #[s, x], argTypes := #[47, 47] }) (hs : a.eval s = ov)
    (y : Nat) (hy : y < 256) (hx : a.eval x = .slice (some ⟨wx.heap.size, 0, none⟩) 1 1) (hlen : os.length < 1099511627776)
    (hK : ∀ v' w', Nb w w' lv l v' (os ++ [y]) → K (a.put o.dst v') w') : if Region.wanted o (yielded ops a.tmps) = true then Oper.wp Tryd.prog o a (wx.alloc (.cells #[.int .u8 (y : Int)] 5)) K Q else E := by
  have hA := hN.o.alloc (.cells #[.int .u8 ((y : Nat) : Int)] 5)
  refine step_append_bsl hgd s x ho w.heap.size ov os.length os hs hA _ [y] hx (one_bsl wx y hy) (by rw [List.length_singleton]; omega) (by have := hN.b.size; simp; omega) fun v' w' h1 h2 => hK v' w' ⟨?_, ?_, ?_⟩
  · have hk : Kp (fun q => ov.ownBlock = some q) wx w' := ((Kp.refl _ wx).alloc _).grown h2 (fun k _ h => h)
    exact hk.owns hN.l (fun k hk2 hk3 => own_apart hN.l hN.o (by decide) hk2 hk3)
  · rw [List.length_append]
    exact h1
  · exact (hN.b.alloc hN.b.size _).grown h2 (by have := hN.b.size; simp; omega) (fun g hg => (hN.o.lt g hg).1)
theorem Nb.below {w wx wy : World} {lv ov : Value} {l os : List Nat} (h : Nb w wx lv l ov os) (hb : Below wx.heap.size wx wy) : Nb w wy lv l ov os := ⟨own_below (B := 0) h.l hb rfl, own_below (B := 0) h.o hb rfl, h.b.trans (hb.mono h.b.size)⟩

set_option maxRecDepth 1000000 in
set_option maxHeartbeats 2000000 in
theorem rof58_any (w : World) (v : Value) (xs : List Nat) (hb : BSl w v xs) (hl : xs.length ≤ 2000) :
    Calls Tryd.prog 36 #[v] w fun e w' => e = .returned (.string (nstr (of58 xs))) ∧ Below w.heap.size w w' := by
  have HB := hide hb
  obtain ⟨⟨a, cap, rfl, hn, hc⟩, hmax, hby⟩ := hb
  have HC := hide hc
  clear hn hc hby
  go_enter Tryd.func36, Tryd.ntmps36
  go_wp2_with fail
  go_loopw [3, 4, 5] (fun lv ov ii wx => ∃ (i z : Nat) (l : List Nat), i ≤ xs.length ∧ ii = .int .i64 (i : Nat) ∧ Hid (Sp (xs.take i) z l) ∧ Hid (Nb w wx lv l ov (List.replicate z 49))) (fun _ _ ii _ => xs.length - (intOf ii).toNat)
  case atStart => exact ⟨0, 0, [], by omega, rfl, Sp.start, ⟨World.ownsRow_nil _ _ _ _, World.ownsRow_nil _ _ _ _, Below.refl _ _⟩⟩
  case round =>
    obtain ⟨i, z, l, hi, rfl, HS, HN⟩ := hrel
    have HSL : Hid (l.length + z = i) := by
      have h := HS.out.len
      rw [List.length_take] at h
      show _ = _
      omega
    obtain ⟨a2, c2, hv2, _⟩ := own_form HN.out.l
    subst hv2
    obtain ⟨a3, c3, hv3, _⟩ := own_form HN.out.o
    subst hv3
    by_cases hlt : i < xs.length
    · as_aux_lemma =>
      have g1 : (i : Int) < (xs.length : Int) := by omega
      obtain ⟨b, off, rfl, hcc⟩ := HC.out.resolve_left (by intro e; rw [e] at hlt; simp at hlt)
      have cx := keep_below HN.out.b _ _ (hcc i hlt)
      have HTK := hide (take_at xs i hlt)
      have hx6 := getD_lt HB.out.byte i
      generalize xs.getD i 0 = x at *
      clear hcc
      have HLJ : Hid (l.length < 1099511627776) := by have := HSL.out; show _ < _; omega
      have HZJ : Hid ((List.replicate z 49).length < 1099511627776) := by have := HSL.out; show _ < _; rw [List.length_replicate]; omega
      have HRS : Hid (List.replicate (z + 1) 49 = List.replicate z 49 ++ [49]) := List.replicate_succ'
      by_cases hx0 : x = 0
      · have g2 : ((x : Int) == 0) = true := beq_iff_eq.2 (by omega)
        by_cases hl0 : l.length = 0
        · have g3 : ((l.length : Int) == 0) = true := beq_iff_eq.2 (by omega)
          have HLN : Hid (l = []) := List.length_eq_zero_iff.1 hl0
          have HS2 : Hid (Sp (xs.take (i + 1)) (z + 1) l) := by
            have h := HS.out
            rw [HLN.out] at h
            have h2 := h.zero
            rw [HTK.out, hx0, HLN.out]
            exact h2
          generalize hrz : List.replicate z 49 = rz at *
          have HRZ := hide hrz
          clear hrz
          go_wp2_with (at_builtin; refine HN.out.byte rfl _ _ rfl rfl 49 (by decide) rfl HZJ.out ?_)
          intro v7 w7 hn7
          have HN7 := hide hn7
          rw [← HRS.out] at HN7
          clear hn7 HN
          go_wp2_with fail
          go_roundw
          case rel => exact ⟨i + 1, z + 1, l, by omega, by go_num, HS2, HN7⟩
          case measure => simp [intOf]; omega
        · have g3 : ((l.length : Int) == 0) = false := beq_eq_false_iff_ne.2 (by omega)
          have HS2 : Hid (Sp (xs.take (i + 1)) z (l ++ [x])) := by
            show Sp _ _ _
            rw [HTK.out]
            exact HS.out.more (.inl (fun e => hl0 (by rw [e]; rfl)))
          clear hx0
          go_wp2_with (at_builtin; refine HN.out.nat rfl _ _ rfl rfl x rfl HLJ.out ?_)
          intro v7 w7 hn7
          have HN7 := hide hn7
          clear hn7 HN
          go_wp2_with fail
          go_roundw
          case rel => exact ⟨i + 1, z, l ++ [x], by omega, by go_num, HS2, HN7⟩
          case measure => simp [intOf]; omega
      · have g2 : ((x : Int) == 0) = false := beq_eq_false_iff_ne.2 (by omega)
        have HS2 : Hid (Sp (xs.take (i + 1)) z (l ++ [x])) := by
          show Sp _ _ _
          rw [HTK.out]
          exact HS.out.more (.inr hx0)
        go_wp2_with (at_builtin; refine HN.out.nat rfl _ _ rfl rfl x rfl HLJ.out ?_)
        intro v7 w7 hn7
        have HN7 := hide hn7
        clear hn7 HN
        go_wp2_with fail
        go_roundw
        case rel => exact ⟨i + 1, z, l ++ [x], by omega, by go_num, HS2, HN7⟩
        case measure => simp [intOf]; omega
    · have g1 : ¬ (i : Int) < (xs.length : Int) := by omega
      have HSx : Hid (Sp xs z l) := by
        have h := HS.out
        rw [List.take_of_length_le (by omega)] at h
        exact h
      have HCV := hide (HSx.out.conv 256 58)
      have HLB : Hid (∀ x ∈ l, x < 256) := fun x hx => HB.out.byte x (by rw [HSx.out.e]; exact List.mem_append_right _ hx)
      have HOF : Hid (of58 xs = List.replicate z 49 ++ (digB 58 (valB 256 l)).map (d58.getD · 0)) := by
        show _ = _
        unfold of58
        rw [HCV.out, List.map_append, List.map_replicate]
        rfl
      have HDB := hide (digB_lt (b := 58) (by decide) (valB 256 l))
      have HDL : Hid ((digB 58 (valB 256 l)).length ≤ 4000) := by
        have h := div_len (fr := 256) (tb := 58) (by decide) (by decide) (by decide) HLB.out
        have := HSL.out
        show _ ≤ _
        omega
      have HLL : Hid (l.length ≤ 2000) := by have := HSL.out; show _ ≤ _; omega
      have hz2 : z ≤ 2000 := by have := HSL.out; omega
      clear HS HSx HCV hlt HC HB HSL
      go_wp2_with fail
      refine (divided_any wr _ l 256 58 (IvR.own HN.out.l) HLB.out (by decide) (by decide) (by decide) (by decide) (by decide) HLL.out).mono ?_
      rintro e w1 ⟨vd, rfl, hod, hbd⟩
      have HN1 : Hid (Nb w w1 vd (digB 58 (valB 256 l)) _ _) := ⟨own_mono hod HN.out.b.size, own_below (B := 0) HN.out.o hbd rfl, HN.out.b.trans (hbd.mono HN.out.b.size)⟩
      clear hod hbd HN
      generalize digB 58 (valB 256 l) = ds at *
      obtain ⟨ad, cd, hvd, _⟩ := own_form HN1.out.l
      subst hvd
      go_wp2_with fail
      go_loopw [4, 7] (fun ov kk wx => ∃ k : Nat, k ≤ ds.length ∧ kk = .int .i64 (k : Nat) ∧ Hid (Nb w wx (.slice ad ds.length cd) ds ov (List.replicate z 49 ++ (ds.take k).map (d58.getD · 0)))) (fun _ kk _ => ds.length - (intOf kk).toNat)
      case atStart => exact ⟨0, by omega, rfl, by simpa using HN1⟩
      case round =>
        rename World => wz
        obtain ⟨k, hk, rfl, HN⟩ := hrel
        clear HN1
        generalize hos : List.replicate z 49 ++ (ds.take k).map (d58.getD · 0) = os at *
        have HOS := hide hos
        clear hos
        obtain ⟨a3, c3, hv3, _⟩ := own_form HN.out.o
        subst hv3
        by_cases hlt : k < ds.length
        · as_aux_lemma =>
          have g2 : (k : Int) < (ds.length : Int) := by omega
          obtain ⟨_, _, hve, _, _, hcz⟩ := own_form HN.out.l
          injection hve with e1 e2 e3
          subst e1
          obtain ⟨b, rfl, ck⟩ := hcz k _ (ivs_get hlt)
          clear hcz e2 e3
          have HTK := hide (take_at ds k hlt)
          have hd58 : ds.getD k 0 < 58 := by
            rw [List.getD_eq_getElem?_getD, List.getElem?_eq_getElem hlt]
            exact HDB.out _ (List.getElem_mem hlt)
          have HD3 := hide (fun wx => rdigits_any wx 3 (.inr (.inr rfl)))
          have HDT : Hid (sl (rdb 3) = d58) := rdb_sl 3
          have HDS : Hid ((rdb 3).size = 58) := rdb_size 3
          generalize hne : ds.getD k 0 = n at *
          have HNE := hide hne
          clear hne
          generalize rdb 3 = D at *
          have hD : n < D.size := by rw [HDS.out]; exact hd58
          have HDn : Hid (D[n].toNat = d58.getD n 0) := by
            have h := sl_at D n hD
            rw [HDT.out] at h
            exact h.symm
          have g5 : (n : Int) < (D.size : Int) := by omega
          have hby : D[n].toNat < 256 := (D[n]).toNat_lt
          have HO2 : Hid (List.replicate z 49 ++ (ds.take (k + 1)).map (d58.getD · 0) = os ++ [D[n].toNat]) := by
            show _ = _
            rw [HTK.out, List.map_append, ← List.append_assoc, HOS.out, HDn.out]
            rfl
          have HLJ : Hid (os.length < 1099511627776) := by
            have h1 := HDL.out
            show _ < _
            rw [← HOS.out, List.length_append, List.length_replicate, List.length_map, List.length_take]
            omega
          have HND := hide (HN.out.below ((Below.refl _ _).drew))
          have HNC : Hid (∀ v' w', Nb w w' (.slice (some ⟨b, 0, none⟩) ds.length cd) ds v' (os ++ [D[n].toNat]) → w'.cell? ⟨b, k, none⟩ = some (.int .i64 ((n : Nat) : Int))) := fun v' w' h => by
            have h2 := (own_cell h.l (ivs_get hlt)).1
            rw [HNE.out] at h2
            exact h2
          clear HOS HTK HN
          go_wp2_with fail
          refine heldStart (S := fun w' => w'.cell? ⟨b, k, none⟩ = some (.int .i64 ((n : Nat) : Int))) (by kernel_rfl) ?_
          have hS : wz.drew.cell? ⟨b, k, none⟩ = some (.int .i64 ((n : Nat) : Int)) := ck
          refine heldTake 0 _ rfl (by kernel_rfl) (by kernel_rfl) (by kernel_rfl) (fun _ _ _ h => h) rfl hS (fun wy hy => by first | (go_simp; done) | (go_simp; rfl) | rfl) ?_
          (try simp only [Act.put]); (try simp only [List.setIfInBounds_toArray, List.set_cons_zero, List.set_cons_succ])
          refine heldTake 2 _ rfl (by kernel_rfl) (by kernel_rfl) (by kernel_rfl) (fun _ _ _ h => h) rfl hS (fun wy hy => by first | (go_simp; done) | (go_simp; rfl) | rfl) ?_
          (try simp only [Act.put]); (try simp only [List.setIfInBounds_toArray, List.set_cons_zero, List.set_cons_succ])
          refine heldTake 3 _ rfl (by kernel_rfl) (by kernel_rfl) (by kernel_rfl) (fun _ _ _ h => h) rfl hS (fun wy hy => by first | (go_simp; done) | (go_simp; rfl) | rfl) ?_
          (try simp only [Act.put]); (try simp only [List.setIfInBounds_toArray, List.set_cons_zero, List.set_cons_succ])
          refine heldTake 4 _ rfl (by kernel_rfl) (by kernel_rfl) (by kernel_rfl) (fun _ _ _ h => h) rfl hS (fun wy hy => by first | (go_simp; done) | (go_simp; rfl) | rfl) ?_
          (try simp only [Act.put]); (try simp only [List.setIfInBounds_toArray, List.set_cons_zero, List.set_cons_succ])
          refine heldTake 5 _ rfl (by kernel_rfl) (by kernel_rfl) (by kernel_rfl) (fun _ _ _ h => h) rfl hS (fun wy hy => by first | (go_simp; done) | (go_simp; rfl) | rfl) ?_
          (try simp only [Act.put]); (try simp only [List.setIfInBounds_toArray, List.set_cons_zero, List.set_cons_succ])
          refine heldStep 1 rfl (by kernel_rfl) (fun K hK => ?_)
          go_simp
          refine (HD3.out _).mono ?_
          rintro e wn ⟨rfl, hwn⟩
          subst hwn
          refine (Hid.out hK) _ _ hS (fun hS2 => ?_)
          clear hK K hS
          have hS := hS2
          clear hS2
          (try simp only [Act.put]); (try simp only [List.setIfInBounds_toArray, List.set_cons_zero, List.set_cons_succ])
          refine heldTake 6 _ rfl (by kernel_rfl) (by kernel_rfl) (by kernel_rfl) (fun _ _ _ h => h) rfl hS (fun wy hy => by first | (go_simp; done) | (go_simp; rfl) | rfl) ?_
          (try simp only [Act.put]); (try simp only [List.setIfInBounds_toArray, List.set_cons_zero, List.set_cons_succ])
          refine heldStep 7 rfl (by kernel_rfl) (fun K hK => ?_)
          go_simp
          refine (Hid.out hK) _ _ (keep_below (below_alloc4 _ _) _ _ hS) (fun hS2 => ?_)
          clear hK K hS
          have hS := hS2
          clear hS2
          (try simp only [Act.put]); (try simp only [List.setIfInBounds_toArray, List.set_cons_zero, List.set_cons_succ])
          refine heldStep 8 rfl (by kernel_rfl) (fun K hK => ?_)
          refine Nb.stepByte HND.out rfl _ _ rfl rfl D[n].toNat hby rfl HLJ.out (fun v7 w7 hn7 => ?_)
          have HN7 := hide hn7
          rw [← HO2.out] at HN7
          refine (Hid.out hK) _ _ (HNC.out v7 w7 hn7) (fun hS2 => ?_)
          clear hK K hS
          have hS := hS2
          clear hS2
          (try simp only [Act.put]); (try simp only [List.setIfInBounds_toArray, List.set_cons_zero, List.set_cons_succ])
          clear hn7 HND
          refine heldTake 9 _ rfl (by kernel_rfl) (by kernel_rfl) (by kernel_rfl) (fun _ _ _ h => h) rfl hS (fun wy hy => by first | (go_simp; done) | (go_simp; rfl) | rfl) ?_
          (try simp only [Act.put]); (try simp only [List.setIfInBounds_toArray, List.set_cons_zero, List.set_cons_succ])
          refine heldDone (by kernel_rfl) ?_
          clear hS ck HNC
          go_wp2_with fail
          go_roundw
          case rel => exact ⟨k + 1, by omega, by go_num, HN7⟩
          case measure => simp [intOf]; omega
        · as_aux_lemma =>
          have g2 : ¬ (k : Int) < (ds.length : Int) := by omega
          have HRG : Hid (of58 xs = os) := by
            show _ = _
            rw [HOF.out, ← HOS.out, List.take_of_length_le (by omega)]
          have cv := (BSl.own HN.out.o (by
            intro x hx
            rw [← HOS.out] at hx
            rcases List.mem_append.1 hx with h | h
            · have := List.eq_of_mem_replicate h
              omega
            · obtain ⟨n, hn, rfl⟩ := List.mem_map.1 h
              exact getD_lt (by decide) n)).text
          go_wp2_with fail
          go_ret
          exact ⟨by rw [HRG.out]; rfl, HN.out.b⟩
end
section
open Go.RowKit Go
set_option maxRecDepth 1000000 in
set_option maxHeartbeats 2000000 in
theorem rin58_any (w : World) (S : ByteArray) (hs : S.size ≤ 1000) :
    Calls Tryd.prog 40 #[.string S] w fun e w' => ∃ v, e = .returned (.tuple #[v, .bool (in58 (sl S)).isSome]) ∧ (∀ b, in58 (sl S) = some b → w'.ownsRow w.heap.size 5 1 v b.length (bv b)) ∧ Below w.heap.size w w' := by
  have HVA : Hid (∀ wx c, Calls Tryd.prog 65 #[.int .i64 3, .int .u8 (c : Nat)] wx fun e w' => e = .returned (.int .i64 (lkn (look d58 c))) ∧ w' = wx) := fun wx c => rvalue_any wx 3 c (.inr (.inr rfl))
  go_enter Tryd.func40, Tryd.ntmps40
  go_wp2_with fail
  go_loopw [4, 5, 6] (fun lv ov ii wx => ∃ (i z : Nat) (p l : List Nat), i ≤ S.size ∧ ii = .int .i64 (i : Nat) ∧ Hid (looks d58 ((sl S).take i) = some p) ∧ Hid (Sp p z l) ∧ Hid (Nb w wx lv l ov (List.replicate z 0))) (fun _ _ ii _ => S.size - (intOf ii).toNat)
  case atStart => exact ⟨0, 0, [], [], by omega, rfl, rfl, Sp.start, ⟨World.ownsRow_nil _ _ _ _, World.ownsRow_nil _ _ _ _, Below.refl _ _⟩⟩
  case round =>
    obtain ⟨i, z, p, l, hi, rfl, HLK, HS, HN⟩ := hrel
    have HSL : Hid (l.length + z = i) := by
      have h := HS.out.len
      have h2 := looks_len HLK.out
      rw [List.length_take, sl_len] at h2
      show _ = _
      omega
    have HZL : Hid ((List.replicate z 0).length = z) := List.length_replicate
    have HRS : Hid (List.replicate (z + 1) 0 = List.replicate z 0 ++ [0]) := List.replicate_succ'
    generalize hrz : List.replicate z 0 = rz at *
    have HRZ := hide hrz
    clear hrz
    obtain ⟨a2, c2, hv2, _⟩ := own_form HN.out.l
    subst hv2
    obtain ⟨a3, c3, hv3, _⟩ := own_form HN.out.o
    subst hv3
    by_cases hlt : i < S.size
    · have g1 : (i : Int) < (S.size : Int) := by omega
      have hx256 : (S[i].toNat : Int) < 256 := by have := (S[i]).toNat_lt; omega
      have HSN : Hid ((sl S).take (i + 1) = (sl S).take i ++ [S[i].toNat]) := by
        show _ = _
        have h1 : i < (sl S).length := by rw [sl_len]; exact hlt
        have h2 := sl_at S i hlt
        rw [take_at _ _ h1, h2]
      have HLS := hide (looks_snoc d58 ((sl S).take i) S[i].toNat)
      rw [← HSN.out, HLK.out, Option.bind_some] at HLS
      cases hlo : look d58 S[i].toNat with
      | none =>
        as_aux_lemma =>
        have HV1 : Hid (∀ wx, Calls Tryd.prog 65 #[.int .i64 3, .int .u8 (S[i].toNat : Nat)] wx fun e w' => e = .returned (.int .i64 (-1)) ∧ w' = wx) := fun wx => by
          have h := HVA.out wx S[i].toNat
          rw [hlo] at h
          exact h
        have HNo : Hid (in58 (sl S) = none) := by
          have h1 : looks d58 ((sl S).take (i + 1)) = none := by rw [HLS.out, hlo]; rfl
          have h2 := looks_none (r := (sl S).drop (i + 1)) h1
          rw [List.take_append_drop] at h2
          show _ = _
          unfold in58
          rw [h2]
          rfl
        have HB := hide HN.out.b
        clear hlo HLS HVA HN
        go_wp2_with (go_at_call 65; refine (HV1.out _).mono ?_; rintro e wn ⟨rfl, rfl⟩)
        go_ret2
        exact ⟨_, by rw [HNo.out]; rfl, (fun b hb => by rw [HNo.out] at hb; cases hb), HB.out⟩
      | some d =>
        as_aux_lemma =>
        have HV1 : Hid (∀ wx, Calls Tryd.prog 65 #[.int .i64 3, .int .u8 (S[i].toNat : Nat)] wx fun e w' => e = .returned (.int .i64 (d : Nat)) ∧ w' = wx) := fun wx => by
          have h := HVA.out wx S[i].toNat
          rw [hlo] at h
          exact h
        have HLK2 : Hid (looks d58 ((sl S).take (i + 1)) = some (p ++ [d])) := by show _ = _; rw [HLS.out, hlo]; rfl
        have HLJ : Hid (l.length < 1099511627776) := by have := HSL.out; show _ < _; omega
        have HZJ : Hid (rz.length < 1099511627776) := by have := HSL.out; have := HZL.out; show _ < _; omega
        have hd58 : d < 58 := (look_get hlo).1
        clear hlo HLS HSN HVA
        by_cases hx0 : d = 0
        · have g2 : ((d : Int) == 0) = true := beq_iff_eq.2 (by omega)
          by_cases hl0 : l.length = 0
          · have g3 : ((l.length : Int) == 0) = true := beq_iff_eq.2 (by omega)
            have HLN : Hid (l = []) := List.length_eq_zero_iff.1 hl0
            have HS2 : Hid (Sp (p ++ [d]) (z + 1) l) := by
              have h := HS.out
              rw [HLN.out] at h
              have h2 := h.zero
              rw [hx0, HLN.out]
              exact h2
            have HD0 := hide hx0
            clear hx0
            go_wp2_with (first
              | (go_at_call 65; refine (HV1.out _).mono ?_; rintro e wn ⟨rfl, rfl⟩)
              | (at_builtin; refine HN.out.byte rfl _ _ rfl rfl 0 (by decide) rfl HZJ.out ?_))
            intro v7 w7 hn7
            have HN7 := hide hn7
            rw [← HRS.out] at HN7
            clear hn7 HN
            go_wp2_with fail
            go_roundw
            case rel => exact ⟨i + 1, z + 1, p ++ [d], l, by omega, by go_num, HLK2, HS2, HN7⟩
            case measure => simp [intOf]; omega
          · have g3 : ((l.length : Int) == 0) = false := beq_eq_false_iff_ne.2 (by omega)
            have HS2 : Hid (Sp (p ++ [d]) z (l ++ [d])) := HS.out.more (.inl (fun e => hl0 (by rw [e]; rfl)))
            clear hx0
            go_wp2_with (first
              | (go_at_call 65; refine (HV1.out _).mono ?_; rintro e wn ⟨rfl, rfl⟩)
              | (at_builtin; refine HN.out.nat rfl _ _ rfl rfl d rfl HLJ.out ?_))
            intro v7 w7 hn7
            have HN7 := hide hn7
            clear hn7 HN
            go_wp2_with fail
            go_roundw
            case rel => exact ⟨i + 1, z, p ++ [d], l ++ [d], by omega, by go_num, HLK2, HS2, by (rw [HRZ.out]; exact HN7)⟩
            case measure => simp [intOf]; omega
        · have g2 : ((d : Int) == 0) = false := beq_eq_false_iff_ne.2 (by omega)
          have HS2 : Hid (Sp (p ++ [d]) z (l ++ [d])) := HS.out.more (.inr hx0)
          go_wp2_with (first
            | (go_at_call 65; refine (HV1.out _).mono ?_; rintro e wn ⟨rfl, rfl⟩)
            | (at_builtin; refine HN.out.nat rfl _ _ rfl rfl d rfl HLJ.out ?_))
          intro v7 w7 hn7
          have HN7 := hide hn7
          clear hn7 HN
          go_wp2_with fail
          go_roundw
          case rel => exact ⟨i + 1, z, p ++ [d], l ++ [d], by omega, by go_num, HLK2, HS2, by (rw [HRZ.out]; exact HN7)⟩
          case measure => simp [intOf]; omega
    · have g1 : ¬ (i : Int) < (S.size : Int) := by omega
      have HLx : Hid (looks d58 (sl S) = some p) := by
        have h := HLK.out
        rw [List.take_of_length_le (by rw [sl_len]; omega)] at h
        exact h
      have HPB : Hid (∀ x ∈ p, x < 58) := (looks_back HLx.out).2
      have HLB : Hid (∀ x ∈ l, x < 58) := fun x hx => HPB.out x (by rw [HS.out.e]; exact List.mem_append_right _ hx)
      have HOF : Hid (in58 (sl S) = some (List.replicate z 0 ++ digB 256 (valB 58 l))) := by
        show _ = _
        unfold in58
        rw [HLx.out, Option.map_some, HS.out.conv 58 256]
      rw [HRZ.out] at HOF
      have HDB := hide (digB_lt (b := 256) (by decide) (valB 58 l))
      have HDL : Hid ((digB 256 (valB 58 l)).length ≤ 4000) := by
        have h := div_len (fr := 58) (tb := 256) (by decide) (by decide) (by decide) HLB.out
        have := HSL.out
        show _ ≤ _
        omega
      have HLL : Hid (l.length ≤ 2000) := by have := HSL.out; show _ ≤ _; omega
      have hz2 : rz.length ≤ 2000 := by have := HSL.out; have := HZL.out; omega
      clear HS HLK HLx hlt HSL HZL HRS HRZ HVA HPB
      go_wp2_with fail
      refine (divided_any wr _ l 58 256 (IvR.own HN.out.l) HLB.out (by decide) (by decide) (by decide) (by decide) (by decide) HLL.out).mono ?_
      rintro e w1 ⟨vd, rfl, hod, hbd⟩
      have HN1 : Hid (Nb w w1 vd (digB 256 (valB 58 l)) _ _) := ⟨own_mono hod HN.out.b.size, own_below (B := 0) HN.out.o hbd rfl, HN.out.b.trans (hbd.mono HN.out.b.size)⟩
      clear hod hbd HN
      generalize digB 256 (valB 58 l) = ds at *
      obtain ⟨ad, cd, hvd, _⟩ := own_form HN1.out.l
      subst hvd
      go_wp2_with fail
      go_loopw [5, 9] (fun ov kk wx => ∃ k : Nat, k ≤ ds.length ∧ kk = .int .i64 (k : Nat) ∧ Hid (Nb w wx (.slice ad ds.length cd) ds ov (rz ++ ds.take k))) (fun _ kk _ => ds.length - (intOf kk).toNat)
      case atStart => exact ⟨0, by omega, rfl, by simpa using HN1⟩
      case round =>
        rename World => wz
        obtain ⟨k, hk, rfl, HN⟩ := hrel
        clear HN1
        generalize hos : rz ++ ds.take k = os at *
        have HOS := hide hos
        clear hos
        obtain ⟨a3, c3, hv3, _⟩ := own_form HN.out.o
        subst hv3
        by_cases hlt : k < ds.length
        · as_aux_lemma =>
          have g2 : (k : Int) < (ds.length : Int) := by omega
          obtain ⟨_, _, hve, _, _, hcz⟩ := own_form HN.out.l
          injection hve with e1 e2 e3
          subst e1
          obtain ⟨b, rfl, ck⟩ := hcz k _ (ivs_get hlt)
          clear hcz e2 e3
          have HTK := hide (take_at ds k hlt)
          have hd6 : ds.getD k 0 < 256 := by
            rw [List.getD_eq_getElem?_getD, List.getElem?_eq_getElem hlt]
            exact HDB.out _ (List.getElem_mem hlt)
          have HO2 : Hid (rz ++ ds.take (k + 1) = os ++ [ds.getD k 0]) := by
            show _ = _
            rw [HTK.out, ← List.append_assoc, HOS.out]
          have HLJ : Hid (os.length < 1099511627776) := by
            have h1 := HDL.out
            show _ < _
            rw [← HOS.out, List.length_append, List.length_take]
            omega
          generalize ds.getD k 0 = n at *
          have hn2 : (n : Int) < 256 := by omega
          go_wp2_with (at_builtin; refine HN.out.byte rfl _ _ rfl rfl n hd6 rfl HLJ.out ?_)
          intro v7 w7 hn7
          have HN7 := hide hn7
          rw [← HO2.out] at HN7
          clear hn7 HN
          go_wp2_with fail
          go_roundw
          case rel => exact ⟨k + 1, by omega, by go_num, HN7⟩
          case measure => simp [intOf]; omega
        · as_aux_lemma =>
          have g2 : ¬ (k : Int) < (ds.length : Int) := by omega
          have HRG : Hid (in58 (sl S) = some os) := by
            show _ = _
            rw [HOF.out, ← HOS.out, List.take_of_length_le (by omega)]
          go_wp2_with fail
          go_ret2
          exact ⟨.slice a3 os.length c3, by rw [HRG.out]; rfl, (fun b hb => by rw [HRG.out] at hb; injection hb with hb; subst hb; exact HN.out.o), HN.out.b⟩
end
section
open Go.RowKit Go
theorem refBytes4_any (w : World) (l : Lk) (hl : Lkb l) :
    Calls Tryd.prog 35 #[.agg (lcs l)] w fun e w' => ∃ v', e = .returned (.tuple #[v', .int .i64 (if lok l then 0 else 40)]) ∧ w'.ownsRow w.heap.size 5 1 v' (lrow l).length (bv (lrow l)) ∧ Below w.heap.size w w' := by
  have h := refBytes_any w l.v l.c l.h (nstr l.d) hl.h (by rw [hl.size]; exact hl.n)
  rw [sl_nstr hl.d] at h
  exact h
/-- Two strings joined. -/
theorem wpList_cat {ops : Array Oper} {rest : List Oper} {o : Oper} {a : Act} {Q : Exit → Act → World → Prop} {w : World} {x y : Operand} {T T2 : TypeId} (hgd : Region.wanted o (yielded ops a.tmps) = true) (ho : o.op = .binOp .add T x y T2) (A B : ByteArray)
    (hx : a.eval x = .string A) (hy : a.eval y = .string B) (hz : A.size + B.size ≤ 9223372036854775807)
    (h : wpList Tryd.prog ops Q rest (a.put o.dst (.string (A ++ B))) w) : wpList Tryd.prog ops Q (o :: rest) a w := by
  refine wpList_wanted hgd fun K hK => ?_
  unfold Oper.wp execOp
  simp only [ho, Sem.run_bind, hx, hy, eqGuard_at_string, binOp_string_add, run_string_add_sum w A B (by omega), Result.andThen_ok, Sem.run_pure]
  exact hK _ _ h
theorem lit_cons (c : UInt8) {xs : List Nat} (h : ∀ x ∈ xs, x < 256) : (⟨#[c]⟩ : ByteArray) ++ nstr xs = nstr (c.toNat :: xs) := by
  rw [nstr_cat _ h]
  rfl
theorem of58_byte (b : List Nat) : ∀ x ∈ of58 b, x < 256 := fun x hx => by
  obtain ⟨n, _, rfl⟩ := List.mem_map.1 hx
  exact getD_lt (by decide) n
set_option maxRecDepth 1000000 in
set_option maxHeartbeats 1000000 in
theorem rtext_any (w : World) (l : Lk) (hl : Lkb l) :
    Calls Tryd.prog 10 #[lkv l] w fun e w' => e = .returned (.tuple #[.string (nstr (lttx l).1), .int .i64 (lttx l).2]) ∧ Below w.heap.size w w' := by
  have HL := hide hl
  have HT : Hid ((w.alloc (.cells #[.int .i64 l.v, .int .u64 (l.c : Nat), .int .u64 (l.h : Nat), .string (nstr l.d)] 35)).heap[w.heap.size]? = some (.cells (lcs l) 35 (0, 0))) := heap_alloc_new w _
  have HB := hide (below_alloc4 w (.cells #[.int .i64 l.v, .int .u64 (l.c : Nat), .int .u64 (l.h : Nat), .string (nstr l.d)] 35))
  simp only [lkv]
  generalize hR : lttx l = R
  have HR := hide hR
  clear hR hl
  go_enter Tryd.func10, Tryd.ntmps10
  go_wp2_with fail
  generalize w.alloc (.cells #[.int .i64 l.v, .int .u64 (l.c : Nat), .int .u64 (l.h : Nat), .string (nstr l.d)] 35) = w0 at *
  refine (refBytes4_any w0 l HL.out).mono ?_
  rintro e w1 ⟨v1, rfl, ho1, hb1⟩
  have HB1 : Hid (Below w.heap.size w w1) := HB.out.trans (hb1.mono HB.out.size)
  have HT1 : Hid (w1.heap[w.heap.size]? = some (.cells (lcs l) 35 (0, 0))) := (hb1.block _ (blk_lt HT.out)).trans HT.out
  have HV1 := hide (BSl.own ho1 (lrow_byte HL.out.d))
  have HRL := hide (lrow_len l)
  obtain ⟨a1, c1, hv1, _⟩ := own_form ho1
  subst hv1
  clear ho1 hb1 HT HB
  have c0 : w1.cell? ⟨w.heap.size, 0, none⟩ = some (.int .i64 l.v) := blk_cell HT1.out rfl
  by_cases hlk : lok l
  · rw [if_pos hlk]
    have HLW : Hid (lrow l = lbytes l) := by show _ = _; unfold lrow; rw [if_pos hlk]
    have HR1 : Hid ((ltext l, (0 : Int)) = R) := by
      show _ = _
      rw [← HR.out]
      unfold lttx
      rw [if_pos hlk]
    clear HR hlk
    by_cases hv : l.v = 0
    · as_aux_lemma =>
      have HR2 : Hid ((of58 (lrow l), (0 : Int)) = R) := by
        show _ = _
        rw [← HR1.out, HLW.out]
        unfold ltext
        rw [if_pos hv]
      have g1 : (l.v == 0) = true := beq_iff_eq.2 hv
      clear HR1 hv HLW
      generalize lrow l = lr at *
      go_wp2_with fail
      refine (rof58_any w1 _ lr HV1.out (Nat.le_trans HRL.out (by decide))).mono ?_
      rintro e w2 ⟨rfl, hb2⟩
      have HB2 := hide (HB1.out.trans (hb2.mono HB1.out.size))
      clear hb2
      go_wp2_with fail
      go_ret2
      exact ⟨by rw [← HR2.out]; rfl, HB2.out⟩
    · as_aux_lemma =>
      have HR2 : Hid ((98 :: ofB 2 5 (lrow l), (0 : Int)) = R) := by
        show _ = _
        rw [← HR1.out, HLW.out, ofB2]
        unfold ltext
        rw [if_neg hv]
        rfl
      have g1 : (l.v == 0) = false := beq_eq_false_iff_ne.2 hv
      have HZL : Hid ((⟨#[98]⟩ : ByteArray).size + (nstr (ofB 2 5 (lrow l))).size ≤ 9223372036854775807) := by
        have h1 := of32_len (lrow l)
        have h2 := HRL.out
        show _ ≤ _
        rw [nstr_size (ofB_byte 2 5 (lrow l)), ofB2]
        show 1 + _ ≤ _
        omega
      have HLC := hide (lit_cons 98 (ofB_byte 2 5 (lrow l)))
      have HOB := hide (rofBits_any w1 _ (lrow l) 2 5 HV1.out (.inr ⟨rfl, rfl⟩) (Nat.le_trans HRL.out (by decide)))
      clear HR1 hv HLW
      generalize ofB 2 5 (lrow l) = ot at *
      generalize lrow l = lr at *
      go_wp2_with fail
      refine HOB.out.mono ?_
      rintro e w2 ⟨rfl, hb2⟩
      have HB2 := hide (HB1.out.trans (hb2.mono HB1.out.size))
      clear hb2 HOB
      go_wp2_with (refine wpList_cat rfl rfl ⟨#[98]⟩ (nstr ot) rfl rfl HZL.out ?_; rw [HLC.out])
      go_ret2
      exact ⟨by rw [← HR2.out]; rfl, HB2.out⟩
  · as_aux_lemma =>
    rw [if_neg hlk]
    have HR1 : Hid (([], (40 : Int)) = R) := by
      show _ = _
      rw [← HR.out]
      unfold lttx
      rw [if_neg hlk]
    clear HR hlk
    generalize lrow l = lr at *
    go_wp2_with fail
    go_ret2
    exact ⟨by rw [← HR1.out]; rfl, HB1.out⟩
set_option maxRecDepth 1000000 in
set_option maxHeartbeats 1000000 in
theorem rtextin_any (w : World) (l : Lk) (n : Int) (hl : Lkb l) :
    Calls Tryd.prog 14 #[lkv l, .int .i64 n] w fun e w' => e = .returned (.tuple #[.string (nstr (ltin l n).1), .int .i64 (ltin l n).2]) ∧ Below w.heap.size w w' := by
  have HL := hide hl
  have HT : Hid ((w.alloc (.cells #[.int .i64 l.v, .int .u64 (l.c : Nat), .int .u64 (l.h : Nat), .string (nstr l.d)] 35)).heap[w.heap.size]? = some (.cells (lcs l) 35 (0, 0))) := heap_alloc_new w _
  have HB := hide (below_alloc4 w (.cells #[.int .i64 l.v, .int .u64 (l.c : Nat), .int .u64 (l.h : Nat), .string (nstr l.d)] 35))
  simp only [lkv]
  generalize hR : ltin l n = R
  have HR := hide hR
  clear hR hl
  go_enter Tryd.func14, Tryd.ntmps14
  go_wp2_with fail
  generalize w.alloc (.cells #[.int .i64 l.v, .int .u64 (l.c : Nat), .int .u64 (l.h : Nat), .string (nstr l.d)] 35) = w0 at *
  refine (refBytes4_any w0 l HL.out).mono ?_
  rintro e w1 ⟨v1, rfl, ho1, hb1⟩
  have HB1 : Hid (Below w.heap.size w w1) := HB.out.trans (hb1.mono HB.out.size)
  have HT1 : Hid (w1.heap[w.heap.size]? = some (.cells (lcs l) 35 (0, 0))) := (hb1.block _ (blk_lt HT.out)).trans HT.out
  have HV1 := hide (BSl.own ho1 (lrow_byte HL.out.d))
  have HRL := hide (lrow_len l)
  obtain ⟨a1, c1, hv1, _⟩ := own_form ho1
  subst hv1
  clear ho1 hb1 HT HB
  have c0 : w1.cell? ⟨w.heap.size, 0, none⟩ = some (.int .i64 l.v) := blk_cell HT1.out rfl
  by_cases hlk : lok l
  · rw [if_pos hlk]
    have HLW : Hid (lrow l = lbytes l) := by show _ = _; unfold lrow; rw [if_pos hlk]
    by_cases hv : l.v = 0
    · as_aux_lemma =>
      have HR2 : Hid (([], (45 : Int)) = R) := by
        show _ = _
        rw [← HR.out]
        unfold ltin
        rw [if_pos hlk, if_pos (.inl hv)]
      have g1 : (l.v == 0) = true := beq_iff_eq.2 hv
      clear HR hlk hv HLW
      generalize lrow l = lr at *
      go_wp2_with fail
      go_ret2
      exact ⟨by rw [← HR2.out]; rfl, HB1.out⟩
    · have g1 : (l.v == 0) = false := beq_eq_false_iff_ne.2 hv
      by_cases hn : n = 1 ∨ n = 2 ∨ n = 3
      · have HLT := hide (fun k hk => ltin_text (n := k) hlk hv hk)
        clear hlk hv
        rcases hn with rfl | rfl | rfl
        · as_aux_lemma =>
          have HR1 : Hid ((ltextin l 1, (0 : Int)) = R) := (HLT.out 1 (.inl rfl)).symm.trans HR.out
          clear HR HLT
          have HR2 : Hid ((102 :: ofB 1 4 (lrow l), (0 : Int)) = R) := by
            show _ = _
            rw [← HR1.out, HLW.out]
            rfl
          have HZL : Hid ((⟨#[102]⟩ : ByteArray).size + (nstr (ofB 1 4 (lrow l))).size ≤ 9223372036854775807) := by
            have h1 := of16_len (lrow l)
            have h2 := HRL.out
            show _ ≤ _
            rw [nstr_size (ofB_byte 1 4 (lrow l)), ofB1]
            show 1 + _ ≤ _
            omega
          have HLC := hide (lit_cons 102 (ofB_byte 1 4 (lrow l)))
          have HOB := hide (rofBits_any w1 _ (lrow l) 1 4 HV1.out (.inl ⟨rfl, rfl⟩) (Nat.le_trans HRL.out (by decide)))
          clear HR1 HLW
          generalize ofB 1 4 (lrow l) = ot at *
          generalize lrow l = lr at *
          go_wp2_with fail
          refine HOB.out.mono ?_
          rintro e w2 ⟨rfl, hb2⟩
          have HB2 := hide (HB1.out.trans (hb2.mono HB1.out.size))
          clear hb2 HOB
          go_wp2_with (refine wpList_cat rfl rfl ⟨#[102]⟩ (nstr ot) rfl rfl HZL.out ?_; rw [HLC.out])
          go_ret2
          exact ⟨by rw [← HR2.out]; rfl, HB2.out⟩
        · as_aux_lemma =>
          have HR1 : Hid ((ltextin l 2, (0 : Int)) = R) := (HLT.out 2 (.inr (.inl rfl))).symm.trans HR.out
          clear HR HLT
          have HR2 : Hid ((98 :: ofB 2 5 (lrow l), (0 : Int)) = R) := by
            show _ = _
            rw [← HR1.out, HLW.out]
            rfl
          have HZL : Hid ((⟨#[98]⟩ : ByteArray).size + (nstr (ofB 2 5 (lrow l))).size ≤ 9223372036854775807) := by
            have h1 := of32_len (lrow l)
            have h2 := HRL.out
            show _ ≤ _
            rw [nstr_size (ofB_byte 2 5 (lrow l)), ofB2]
            show 1 + _ ≤ _
            omega
          have HLC := hide (lit_cons 98 (ofB_byte 2 5 (lrow l)))
          have HOB := hide (rofBits_any w1 _ (lrow l) 2 5 HV1.out (.inr ⟨rfl, rfl⟩) (Nat.le_trans HRL.out (by decide)))
          clear HR1 HLW
          generalize ofB 2 5 (lrow l) = ot at *
          generalize lrow l = lr at *
          go_wp2_with fail
          refine HOB.out.mono ?_
          rintro e w2 ⟨rfl, hb2⟩
          have HB2 := hide (HB1.out.trans (hb2.mono HB1.out.size))
          clear hb2 HOB
          go_wp2_with (refine wpList_cat rfl rfl ⟨#[98]⟩ (nstr ot) rfl rfl HZL.out ?_; rw [HLC.out])
          go_ret2
          exact ⟨by rw [← HR2.out]; rfl, HB2.out⟩
        · as_aux_lemma =>
          have HR1 : Hid ((ltextin l 3, (0 : Int)) = R) := (HLT.out 3 (.inr (.inr rfl))).symm.trans HR.out
          clear HR HLT
          have HR2 : Hid ((122 :: of58 (lrow l), (0 : Int)) = R) := by
            show _ = _
            rw [← HR1.out, HLW.out]
            rfl
          have HZL : Hid ((⟨#[122]⟩ : ByteArray).size + (nstr (of58 (lrow l))).size ≤ 9223372036854775807) := by
            have h1 := of58_len HV1.out.byte
            have h2 := HRL.out
            show _ ≤ _
            rw [nstr_size (of58_byte (lrow l))]
            show 1 + _ ≤ _
            omega
          have HLC := hide (lit_cons 122 (of58_byte (lrow l)))
          have HOB := hide (rof58_any w1 _ (lrow l) HV1.out (Nat.le_trans HRL.out (by decide)))
          clear HR1 HLW
          generalize of58 (lrow l) = ot at *
          generalize lrow l = lr at *
          go_wp2_with fail
          refine HOB.out.mono ?_
          rintro e w2 ⟨rfl, hb2⟩
          have HB2 := hide (HB1.out.trans (hb2.mono HB1.out.size))
          clear hb2 HOB
          go_wp2_with (refine wpList_cat rfl rfl ⟨#[122]⟩ (nstr ot) rfl rfl HZL.out ?_; rw [HLC.out])
          go_ret2
          exact ⟨by rw [← HR2.out]; rfl, HB2.out⟩
      · have HR2 : Hid (([], (45 : Int)) = R) := by
          show _ = _
          rw [← HR.out]
          unfold ltin
          rw [if_pos hlk, if_pos (.inr hn)]
        clear HR hlk hv HLW
        generalize lrow l = lr at *
        by_cases h1 : n < 1
        · as_aux_lemma =>
          go_wp2_with fail
          go_ret2
          exact ⟨by rw [← HR2.out]; rfl, HB1.out⟩
        · as_aux_lemma =>
          have h3 : (3 : Int) < n := by omega
          clear hn
          go_wp2_with fail
          go_ret2
          exact ⟨by rw [← HR2.out]; rfl, HB1.out⟩
  · as_aux_lemma =>
    rw [if_neg hlk]
    have HR1 : Hid (([], (40 : Int)) = R) := by
      show _ = _
      rw [← HR.out]
      unfold ltin
      rw [if_neg hlk]
    clear HR hlk
    generalize lrow l = lr at *
    go_wp2_with fail
    go_ret2
    exact ⟨by rw [← HR1.out]; rfl, HB1.out⟩
end
section
open Go.RowKit Go
/-- What follows of the bytes of a text. -/
def ptail (ver : Int) (o : Option (List Nat)) : Lk × Nat := match o with
  | none => (Lk.none, 46)
  | some b => if (lparse b).2 ≠ 0 then (Lk.none, (lparse b).2) else if (lparse b).1.v ≠ ver then (Lk.none, 41) else ((lparse b).1, 0)
theorem pt_long {s : List Nat} (h : 153 < s.length) : lparsetext s = (Lk.none, 46) := by unfold lparsetext; rw [if_pos h]
theorem pt_nil : lparsetext [] = (Lk.none, 45) := rfl
theorem pt_Q {r : List Nat} (h : (81 :: r).length ≤ 153) : lparsetext (81 :: r) = ptail 0 (in58 (81 :: r)) := by
  have e : ltake (81 :: r) = (in58 (81 :: r)).map fun b => (0, b) := rfl
  unfold lparsetext ptail
  rw [if_neg (by omega), if_neg (by simp), e]
  cases in58 (81 :: r) <;> rfl
theorem pt_f {r : List Nat} (h : (102 :: r).length ≤ 153) : lparsetext (102 :: r) = ptail 1 (in16 r) := by
  have e : ltake (102 :: r) = (in16 r).map fun b => (1, b) := rfl
  unfold lparsetext ptail
  rw [if_neg (by omega), if_neg (by simp), e]
  cases in16 r <;> rfl
theorem pt_b {r : List Nat} (h : (98 :: r).length ≤ 153) : lparsetext (98 :: r) = ptail 1 (in32 r) := by
  have e : ltake (98 :: r) = (in32 r).map fun b => (1, b) := rfl
  unfold lparsetext ptail
  rw [if_neg (by omega), if_neg (by simp), e]
  cases in32 r <;> rfl
theorem pt_z {r : List Nat} (h : (122 :: r).length ≤ 153) : lparsetext (122 :: r) = ptail 1 (in58 r) := by
  have e : ltake (122 :: r) = (in58 r).map fun b => (1, b) := rfl
  unfold lparsetext ptail
  rw [if_neg (by omega), if_neg (by simp), e]
  cases in58 r <;> rfl
theorem pt_other {x : Nat} {r : List Nat} (h : (x :: r).length ≤ 153) (h1 : x ≠ 81) (h2 : x ≠ 102) (h3 : x ≠ 98) (h4 : x ≠ 122) : lparsetext (x :: r) = (Lk.none, 45) := by
  unfold lparsetext
  rw [if_neg (by omega), if_pos (by simp [h1, h2, h3, h4])]
set_option maxRecDepth 1000000 in
set_option maxHeartbeats 2000000 in
theorem rparsetext_any (w : World) (s : ByteArray) (hs : s.size ≤ 9223372036854775807) :
    Calls Tryd.prog 16 #[.string s] w fun e w' => e = .returned (.tuple #[lkv (lparsetext (sl s)).1, .int .i64 ((lparsetext (sl s)).2 : Nat)]) ∧ Below w.heap.size w w' := by
  have HF0 := hide (Fz.start w)
  have HR0 := hide HF0.out.r
  generalize hR : lparsetext (sl s) = R
  have HR := hide hR
  clear hR
  have HSL := hide (sl_len s)
  by_cases h153 : 153 < s.size
  · as_aux_lemma =>
    have g1 : (153 : Int) < (s.size : Int) := by omega
    have HPX : Hid ((Lk.none, 46) = R) := (pt_long (by rw [HSL.out]; exact h153)).symm.trans HR.out
    clear h153 HR
    go_enter Tryd.func16, Tryd.ntmps16
    go_wp2_with (refine wpList_zero rfl rfl w.heap.size rfl rfl HR0.out ?_)
    exact bodyPost_ret (end_c2 rfl Tryd.underlying35 info61 rfl HR0.out rfl rfl) rfl ⟨by rw [← HPX.out]; rfl, HF0.out.b⟩
  · have g1 : ¬ (153 : Int) < (s.size : Int) := by omega
    cases hsl : sl s with
    | nil =>
      as_aux_lemma =>
      have hz : s.size = 0 := by rw [← HSL.out, hsl]; rfl
      have g2 : ((s.size : Int) == 0) = true := beq_iff_eq.2 (by omega)
      have HPX : Hid ((Lk.none, 45) = R) := by have h := HR.out; rw [hsl] at h; exact pt_nil.symm.trans h
      clear h153 HR hsl hz
      go_enter Tryd.func16, Tryd.ntmps16
      go_wp2_with (refine wpList_zero rfl rfl w.heap.size rfl rfl HR0.out ?_)
      exact bodyPost_ret (end_c2 rfl Tryd.underlying35 info61 rfl HR0.out rfl rfl) rfl ⟨by rw [← HPX.out]; rfl, HF0.out.b⟩
    | cons x r =>
      have hz : s.size = r.length + 1 := by rw [← HSL.out, hsl]; rfl
      have g2 : ((s.size : Int) == 0) = false := beq_eq_false_iff_ne.2 (by omega)
      have hp : (0 : Int) < (s.size : Int) := by omega
      have hp1 : (1 : Int) ≤ (s.size : Int) := by omega
      have h0 : 0 < s.size := by omega
      have HX : Hid (s[0].toNat = x) := by
        have h := sl_at s 0 h0
        rw [hsl] at h
        exact h.symm
      have HTL : Hid (sl (s.extract 1 s.size) = r) := by show _ = _; rw [sl_tail, hsl]; rfl
      have HTS : Hid ((s.extract 1 s.size).size ≤ 1000) := by show _ ≤ _; rw [← sl_len, HTL.out]; omega
      have HLE : Hid ((x :: r).length ≤ 153) := by show _ ≤ _; rw [List.length_cons]; omega
      have HSX : Hid (sl s = x :: r) := hsl
      have HR2 : Hid (lparsetext (x :: r) = R) := by have h := HR.out; rw [hsl] at h; exact h
      have hs1 : s.size ≤ 1000 := by omega
      clear HR hsl hz h153
      have hx6 : (s[0].toNat : Int) < 256 := by have := (s[0]).toNat_lt; omega
      by_cases h81 : x = 81
      · as_aux_lemma =>
        have k81 : ((s[0].toNat : Int) == 81) = true := beq_iff_eq.2 (by have := HX.out; omega)
        subst h81
        have HO0 : Hid (∃ o, o = in58 (81 :: r)) := ⟨_, rfl⟩
        obtain ⟨o, HOE⟩ := HO0.out
        have HPX : Hid (ptail 0 o = R) := by
          have h := HR2.out
          rw [pt_Q HLE.out] at h
          rw [HOE]
          exact h
        have HOB : Hid (∀ b, o = some b → ∀ x ∈ b, x < 256) := fun b hb => by
          rw [HOE] at hb
          exact (of58_in hb).2
        have HCL : Hid (∀ wx, Calls Tryd.prog 40 #[.string s] wx fun e w' => ∃ v, e = .returned (.tuple #[v, .bool o.isSome]) ∧ (∀ b, o = some b → w'.ownsRow wx.heap.size 5 1 v b.length (bv b)) ∧ Below wx.heap.size wx w') := fun wx => by
          have h := rin58_any wx s hs1
          rw [HSX.out] at h
          rw [HOE]
          exact h
        clear HO0 HOE HR2 HX HTL HTS HLE HSX
        go_enter Tryd.func16, Tryd.ntmps16
        go_wp2_with fail
        generalize w.alloc (.cells #[.int .i64 0, .int .u64 0, .int .u64 0, .string ⟨#[]⟩] 35) = w0 at *
        refine (HCL.out w0).mono ?_
        rintro e w3 ⟨v3, rfl, hox, hb3⟩
        have HF3 := hide (HF0.out.below hb3)
        have HR3 := hide HF3.out.r
        clear hb3 HF0 HR0 HCL
        unfold ptail at HPX
        cases o with
        | none =>
          simp only [Option.isSome_none]
          simp only at HPX
          clear hox HOB
          go_wp2_with (refine wpList_zero rfl rfl w.heap.size rfl rfl HR3.out ?_)
          exact bodyPost_ret (end_c2 rfl Tryd.underlying35 info61 rfl HR3.out rfl rfl) rfl ⟨by rw [← HPX.out]; rfl, HF3.out.b⟩
        | some o =>
          have ho3 := hox o rfl
          have HV3 := hide (BSl.own ho3 (HOB.out o rfl))
          obtain ⟨a3, c3, hv3, _⟩ := own_form ho3
          subst hv3
          clear ho3 hox HOB
          simp only [Option.isSome_some]
          simp only at HPX
          go_wp2_with fail
          refine (lParse_any w3 _ o HV3.out).mono ?_
          rintro e w4 ⟨rfl, hb4⟩
          have HF4 := hide (HF3.out.below hb4)
          clear hb4 HF3 HR3 HV3
          generalize lparse o = lp at *
          obtain ⟨⟨lv, lc, lh, ld⟩, er⟩ := lp
          simp only [lkv] at HPX ⊢
          have HF5 := hide (HF4.out.below (below_alloc4 w4 (.cells #[.int .i64 lv, .int .u64 (lc : Nat), .int .u64 (lh : Nat), .string (nstr ld)] 35)))
          have HL5 : Hid ((w4.alloc (.cells #[.int .i64 lv, .int .u64 (lc : Nat), .int .u64 (lh : Nat), .string (nstr ld)] 35)).heap[w4.heap.size]? = some (.cells (lcs ⟨lv, lc, lh, ld⟩) 35 (0, 0))) := heap_alloc_new w4 _
          have HR5 := hide HF5.out.r
          have c0 : (w4.alloc (.cells #[.int .i64 lv, .int .u64 (lc : Nat), .int .u64 (lh : Nat), .string (nstr ld)] 35)).cell? ⟨w4.heap.size, 0, none⟩ = some (.int .i64 lv) := blk_cell HL5.out rfl
          clear HF4
          by_cases her : er = 0
          · subst her
            rw [if_neg (by simp)] at HPX
            by_cases hm : lv = 0
            · rw [if_neg (fun h => h hm)] at HPX
              have kv : (lv == 0) = true := beq_iff_eq.2 hm
              have kw : (lv != 0) = false := by rw [hm]; rfl
              clear hm
              go_wp2_with (first
                | (refine wpList_loadLk rfl rfl w4.heap.size (lcs ⟨lv, lc, lh, ld⟩) rfl rfl HL5.out ?_)
                | (refine wpList_storeLk rfl rfl w.heap.size zlk ⟨lv, lc, lh, ld⟩ rfl rfl rfl HR5.out ?_))
              exact bodyPost_ret (end_c2 rfl Tryd.underlying35 info61 rfl (row_same HR5.out) rfl rfl) rfl ⟨by rw [← HPX.out]; rfl, HF5.out.b.trans ((row_kp _ _ _).below HF5.out.b.size (fun q e => by omega))⟩
            · rw [if_pos hm] at HPX
              have kv : (lv == 0) = false := beq_eq_false_iff_ne.2 hm
              have kw : (lv != 0) = true := bne_iff_ne.2 hm
              clear hm
              go_wp2_with (refine wpList_zero rfl rfl w.heap.size rfl rfl HR5.out ?_)
              exact bodyPost_ret (end_c2 rfl Tryd.underlying35 info61 rfl HR5.out rfl rfl) rfl ⟨by rw [← HPX.out]; rfl, HF5.out.b⟩
          · rw [if_pos her] at HPX
            have g3 : ((er : Int) == 0) = false := beq_eq_false_iff_ne.2 (by omega)
            clear her
            go_wp2_with (refine wpList_zero rfl rfl w.heap.size rfl rfl HR5.out ?_)
            exact bodyPost_ret (end_c2 rfl Tryd.underlying35 info61 rfl HR5.out rfl rfl) rfl ⟨by rw [← HPX.out]; rfl, HF5.out.b⟩
      · by_cases h102 : x = 102
        · as_aux_lemma =>
          have k81 : ((s[0].toNat : Int) == 81) = false := beq_eq_false_iff_ne.2 (by have := HX.out; omega)
          have k102 : ((s[0].toNat : Int) == 102) = true := beq_iff_eq.2 (by have := HX.out; omega)
          subst h102
          have HO0 : Hid (∃ o, o = in16 r) := ⟨_, rfl⟩
          obtain ⟨o, HOE⟩ := HO0.out
          have HPX : Hid (ptail 1 o = R) := by
            have h := HR2.out
            rw [pt_f HLE.out] at h
            rw [HOE]
            exact h
          have HOB : Hid (∀ b, o = some b → ∀ x ∈ b, x < 256) := fun b hb => by
            rw [HOE] at hb
            exact (of16_in hb).2
          have HCL : Hid (∀ wx, Calls Tryd.prog 41 #[.string (s.extract 1 s.size), .int .i64 1, .int .i64 4] wx fun e w' => ∃ v, e = .returned (.tuple #[v, .bool o.isSome]) ∧ (∀ b, o = some b → w'.ownsRow wx.heap.size 5 1 v b.length (bv b)) ∧ Below wx.heap.size wx w') := fun wx => by
            have h := rinBits_any wx (s.extract 1 s.size) 1 4 (.inl ⟨rfl, rfl⟩) HTS.out
            rw [HTL.out, inB1] at h
            rw [HOE]
            exact h
          clear HO0 HOE HR2 HX HTL HTS HLE HSX
          go_enter Tryd.func16, Tryd.ntmps16
          go_wp2_with fail
          generalize w.alloc (.cells #[.int .i64 0, .int .u64 0, .int .u64 0, .string ⟨#[]⟩] 35) = w0 at *
          refine (HCL.out w0).mono ?_
          rintro e w3 ⟨v3, rfl, hox, hb3⟩
          have HF3 := hide (HF0.out.below hb3)
          have HR3 := hide HF3.out.r
          clear hb3 HF0 HR0 HCL
          unfold ptail at HPX
          cases o with
          | none =>
            simp only [Option.isSome_none]
            simp only at HPX
            clear hox HOB
            go_wp2_with (refine wpList_zero rfl rfl w.heap.size rfl rfl HR3.out ?_)
            exact bodyPost_ret (end_c2 rfl Tryd.underlying35 info61 rfl HR3.out rfl rfl) rfl ⟨by rw [← HPX.out]; rfl, HF3.out.b⟩
          | some o =>
            have ho3 := hox o rfl
            have HV3 := hide (BSl.own ho3 (HOB.out o rfl))
            obtain ⟨a3, c3, hv3, _⟩ := own_form ho3
            subst hv3
            clear ho3 hox HOB
            simp only [Option.isSome_some]
            simp only at HPX
            go_wp2_with fail
            refine (lParse_any w3 _ o HV3.out).mono ?_
            rintro e w4 ⟨rfl, hb4⟩
            have HF4 := hide (HF3.out.below hb4)
            clear hb4 HF3 HR3 HV3
            generalize lparse o = lp at *
            obtain ⟨⟨lv, lc, lh, ld⟩, er⟩ := lp
            simp only [lkv] at HPX ⊢
            have HF5 := hide (HF4.out.below (below_alloc4 w4 (.cells #[.int .i64 lv, .int .u64 (lc : Nat), .int .u64 (lh : Nat), .string (nstr ld)] 35)))
            have HL5 : Hid ((w4.alloc (.cells #[.int .i64 lv, .int .u64 (lc : Nat), .int .u64 (lh : Nat), .string (nstr ld)] 35)).heap[w4.heap.size]? = some (.cells (lcs ⟨lv, lc, lh, ld⟩) 35 (0, 0))) := heap_alloc_new w4 _
            have HR5 := hide HF5.out.r
            have c0 : (w4.alloc (.cells #[.int .i64 lv, .int .u64 (lc : Nat), .int .u64 (lh : Nat), .string (nstr ld)] 35)).cell? ⟨w4.heap.size, 0, none⟩ = some (.int .i64 lv) := blk_cell HL5.out rfl
            clear HF4
            by_cases her : er = 0
            · subst her
              rw [if_neg (by simp)] at HPX
              by_cases hm : lv = 1
              · rw [if_neg (fun h => h hm)] at HPX
                have kv : (lv == 1) = true := beq_iff_eq.2 hm
                have kw : (lv != 1) = false := by rw [hm]; rfl
                clear hm
                go_wp2_with (first
                  | (refine wpList_loadLk rfl rfl w4.heap.size (lcs ⟨lv, lc, lh, ld⟩) rfl rfl HL5.out ?_)
                  | (refine wpList_storeLk rfl rfl w.heap.size zlk ⟨lv, lc, lh, ld⟩ rfl rfl rfl HR5.out ?_))
                exact bodyPost_ret (end_c2 rfl Tryd.underlying35 info61 rfl (row_same HR5.out) rfl rfl) rfl ⟨by rw [← HPX.out]; rfl, HF5.out.b.trans ((row_kp _ _ _).below HF5.out.b.size (fun q e => by omega))⟩
              · rw [if_pos hm] at HPX
                have kv : (lv == 1) = false := beq_eq_false_iff_ne.2 hm
                have kw : (lv != 1) = true := bne_iff_ne.2 hm
                clear hm
                go_wp2_with (refine wpList_zero rfl rfl w.heap.size rfl rfl HR5.out ?_)
                exact bodyPost_ret (end_c2 rfl Tryd.underlying35 info61 rfl HR5.out rfl rfl) rfl ⟨by rw [← HPX.out]; rfl, HF5.out.b⟩
            · rw [if_pos her] at HPX
              have g3 : ((er : Int) == 0) = false := beq_eq_false_iff_ne.2 (by omega)
              clear her
              go_wp2_with (refine wpList_zero rfl rfl w.heap.size rfl rfl HR5.out ?_)
              exact bodyPost_ret (end_c2 rfl Tryd.underlying35 info61 rfl HR5.out rfl rfl) rfl ⟨by rw [← HPX.out]; rfl, HF5.out.b⟩
        · by_cases h98 : x = 98
          · as_aux_lemma =>
            have k81 : ((s[0].toNat : Int) == 81) = false := beq_eq_false_iff_ne.2 (by have := HX.out; omega)
            have k102 : ((s[0].toNat : Int) == 102) = false := beq_eq_false_iff_ne.2 (by have := HX.out; omega)
            have k98 : ((s[0].toNat : Int) == 98) = true := beq_iff_eq.2 (by have := HX.out; omega)
            subst h98
            have HO0 : Hid (∃ o, o = in32 r) := ⟨_, rfl⟩
            obtain ⟨o, HOE⟩ := HO0.out
            have HPX : Hid (ptail 1 o = R) := by
              have h := HR2.out
              rw [pt_b HLE.out] at h
              rw [HOE]
              exact h
            have HOB : Hid (∀ b, o = some b → ∀ x ∈ b, x < 256) := fun b hb => by
              rw [HOE] at hb
              exact (of32_in hb).2
            have HCL : Hid (∀ wx, Calls Tryd.prog 41 #[.string (s.extract 1 s.size), .int .i64 2, .int .i64 5] wx fun e w' => ∃ v, e = .returned (.tuple #[v, .bool o.isSome]) ∧ (∀ b, o = some b → w'.ownsRow wx.heap.size 5 1 v b.length (bv b)) ∧ Below wx.heap.size wx w') := fun wx => by
              have h := rinBits_any wx (s.extract 1 s.size) 2 5 (.inr ⟨rfl, rfl⟩) HTS.out
              rw [HTL.out, inB2] at h
              rw [HOE]
              exact h
            clear HO0 HOE HR2 HX HTL HTS HLE HSX
            go_enter Tryd.func16, Tryd.ntmps16
            go_wp2_with fail
            generalize w.alloc (.cells #[.int .i64 0, .int .u64 0, .int .u64 0, .string ⟨#[]⟩] 35) = w0 at *
            refine (HCL.out w0).mono ?_
            rintro e w3 ⟨v3, rfl, hox, hb3⟩
            have HF3 := hide (HF0.out.below hb3)
            have HR3 := hide HF3.out.r
            clear hb3 HF0 HR0 HCL
            unfold ptail at HPX
            cases o with
            | none =>
              simp only [Option.isSome_none]
              simp only at HPX
              clear hox HOB
              go_wp2_with (refine wpList_zero rfl rfl w.heap.size rfl rfl HR3.out ?_)
              exact bodyPost_ret (end_c2 rfl Tryd.underlying35 info61 rfl HR3.out rfl rfl) rfl ⟨by rw [← HPX.out]; rfl, HF3.out.b⟩
            | some o =>
              have ho3 := hox o rfl
              have HV3 := hide (BSl.own ho3 (HOB.out o rfl))
              obtain ⟨a3, c3, hv3, _⟩ := own_form ho3
              subst hv3
              clear ho3 hox HOB
              simp only [Option.isSome_some]
              simp only at HPX
              go_wp2_with fail
              refine (lParse_any w3 _ o HV3.out).mono ?_
              rintro e w4 ⟨rfl, hb4⟩
              have HF4 := hide (HF3.out.below hb4)
              clear hb4 HF3 HR3 HV3
              generalize lparse o = lp at *
              obtain ⟨⟨lv, lc, lh, ld⟩, er⟩ := lp
              simp only [lkv] at HPX ⊢
              have HF5 := hide (HF4.out.below (below_alloc4 w4 (.cells #[.int .i64 lv, .int .u64 (lc : Nat), .int .u64 (lh : Nat), .string (nstr ld)] 35)))
              have HL5 : Hid ((w4.alloc (.cells #[.int .i64 lv, .int .u64 (lc : Nat), .int .u64 (lh : Nat), .string (nstr ld)] 35)).heap[w4.heap.size]? = some (.cells (lcs ⟨lv, lc, lh, ld⟩) 35 (0, 0))) := heap_alloc_new w4 _
              have HR5 := hide HF5.out.r
              have c0 : (w4.alloc (.cells #[.int .i64 lv, .int .u64 (lc : Nat), .int .u64 (lh : Nat), .string (nstr ld)] 35)).cell? ⟨w4.heap.size, 0, none⟩ = some (.int .i64 lv) := blk_cell HL5.out rfl
              clear HF4
              by_cases her : er = 0
              · subst her
                rw [if_neg (by simp)] at HPX
                by_cases hm : lv = 1
                · rw [if_neg (fun h => h hm)] at HPX
                  have kv : (lv == 1) = true := beq_iff_eq.2 hm
                  have kw : (lv != 1) = false := by rw [hm]; rfl
                  clear hm
                  go_wp2_with (first
                    | (refine wpList_loadLk rfl rfl w4.heap.size (lcs ⟨lv, lc, lh, ld⟩) rfl rfl HL5.out ?_)
                    | (refine wpList_storeLk rfl rfl w.heap.size zlk ⟨lv, lc, lh, ld⟩ rfl rfl rfl HR5.out ?_))
                  exact bodyPost_ret (end_c2 rfl Tryd.underlying35 info61 rfl (row_same HR5.out) rfl rfl) rfl ⟨by rw [← HPX.out]; rfl, HF5.out.b.trans ((row_kp _ _ _).below HF5.out.b.size (fun q e => by omega))⟩
                · rw [if_pos hm] at HPX
                  have kv : (lv == 1) = false := beq_eq_false_iff_ne.2 hm
                  have kw : (lv != 1) = true := bne_iff_ne.2 hm
                  clear hm
                  go_wp2_with (refine wpList_zero rfl rfl w.heap.size rfl rfl HR5.out ?_)
                  exact bodyPost_ret (end_c2 rfl Tryd.underlying35 info61 rfl HR5.out rfl rfl) rfl ⟨by rw [← HPX.out]; rfl, HF5.out.b⟩
              · rw [if_pos her] at HPX
                have g3 : ((er : Int) == 0) = false := beq_eq_false_iff_ne.2 (by omega)
                clear her
                go_wp2_with (refine wpList_zero rfl rfl w.heap.size rfl rfl HR5.out ?_)
                exact bodyPost_ret (end_c2 rfl Tryd.underlying35 info61 rfl HR5.out rfl rfl) rfl ⟨by rw [← HPX.out]; rfl, HF5.out.b⟩
          · by_cases h122 : x = 122
            · as_aux_lemma =>
              have k81 : ((s[0].toNat : Int) == 81) = false := beq_eq_false_iff_ne.2 (by have := HX.out; omega)
              have k102 : ((s[0].toNat : Int) == 102) = false := beq_eq_false_iff_ne.2 (by have := HX.out; omega)
              have k98 : ((s[0].toNat : Int) == 98) = false := beq_eq_false_iff_ne.2 (by have := HX.out; omega)
              have k122 : ((s[0].toNat : Int) == 122) = true := beq_iff_eq.2 (by have := HX.out; omega)
              subst h122
              have HO0 : Hid (∃ o, o = in58 r) := ⟨_, rfl⟩
              obtain ⟨o, HOE⟩ := HO0.out
              have HPX : Hid (ptail 1 o = R) := by
                have h := HR2.out
                rw [pt_z HLE.out] at h
                rw [HOE]
                exact h
              have HOB : Hid (∀ b, o = some b → ∀ x ∈ b, x < 256) := fun b hb => by
                rw [HOE] at hb
                exact (of58_in hb).2
              have HCL : Hid (∀ wx, Calls Tryd.prog 40 #[.string (s.extract 1 s.size)] wx fun e w' => ∃ v, e = .returned (.tuple #[v, .bool o.isSome]) ∧ (∀ b, o = some b → w'.ownsRow wx.heap.size 5 1 v b.length (bv b)) ∧ Below wx.heap.size wx w') := fun wx => by
                have h := rin58_any wx (s.extract 1 s.size) HTS.out
                rw [HTL.out] at h
                rw [HOE]
                exact h
              clear HO0 HOE HR2 HX HTL HTS HLE HSX
              go_enter Tryd.func16, Tryd.ntmps16
              go_wp2_with fail
              generalize w.alloc (.cells #[.int .i64 0, .int .u64 0, .int .u64 0, .string ⟨#[]⟩] 35) = w0 at *
              refine (HCL.out w0).mono ?_
              rintro e w3 ⟨v3, rfl, hox, hb3⟩
              have HF3 := hide (HF0.out.below hb3)
              have HR3 := hide HF3.out.r
              clear hb3 HF0 HR0 HCL
              unfold ptail at HPX
              cases o with
              | none =>
                simp only [Option.isSome_none]
                simp only at HPX
                clear hox HOB
                go_wp2_with (refine wpList_zero rfl rfl w.heap.size rfl rfl HR3.out ?_)
                exact bodyPost_ret (end_c2 rfl Tryd.underlying35 info61 rfl HR3.out rfl rfl) rfl ⟨by rw [← HPX.out]; rfl, HF3.out.b⟩
              | some o =>
                have ho3 := hox o rfl
                have HV3 := hide (BSl.own ho3 (HOB.out o rfl))
                obtain ⟨a3, c3, hv3, _⟩ := own_form ho3
                subst hv3
                clear ho3 hox HOB
                simp only [Option.isSome_some]
                simp only at HPX
                go_wp2_with fail
                refine (lParse_any w3 _ o HV3.out).mono ?_
                rintro e w4 ⟨rfl, hb4⟩
                have HF4 := hide (HF3.out.below hb4)
                clear hb4 HF3 HR3 HV3
                generalize lparse o = lp at *
                obtain ⟨⟨lv, lc, lh, ld⟩, er⟩ := lp
                simp only [lkv] at HPX ⊢
                have HF5 := hide (HF4.out.below (below_alloc4 w4 (.cells #[.int .i64 lv, .int .u64 (lc : Nat), .int .u64 (lh : Nat), .string (nstr ld)] 35)))
                have HL5 : Hid ((w4.alloc (.cells #[.int .i64 lv, .int .u64 (lc : Nat), .int .u64 (lh : Nat), .string (nstr ld)] 35)).heap[w4.heap.size]? = some (.cells (lcs ⟨lv, lc, lh, ld⟩) 35 (0, 0))) := heap_alloc_new w4 _
                have HR5 := hide HF5.out.r
                have c0 : (w4.alloc (.cells #[.int .i64 lv, .int .u64 (lc : Nat), .int .u64 (lh : Nat), .string (nstr ld)] 35)).cell? ⟨w4.heap.size, 0, none⟩ = some (.int .i64 lv) := blk_cell HL5.out rfl
                clear HF4
                by_cases her : er = 0
                · subst her
                  rw [if_neg (by simp)] at HPX
                  by_cases hm : lv = 1
                  · rw [if_neg (fun h => h hm)] at HPX
                    have kv : (lv == 1) = true := beq_iff_eq.2 hm
                    have kw : (lv != 1) = false := by rw [hm]; rfl
                    clear hm
                    go_wp2_with (first
                      | (refine wpList_loadLk rfl rfl w4.heap.size (lcs ⟨lv, lc, lh, ld⟩) rfl rfl HL5.out ?_)
                      | (refine wpList_storeLk rfl rfl w.heap.size zlk ⟨lv, lc, lh, ld⟩ rfl rfl rfl HR5.out ?_))
                    exact bodyPost_ret (end_c2 rfl Tryd.underlying35 info61 rfl (row_same HR5.out) rfl rfl) rfl ⟨by rw [← HPX.out]; rfl, HF5.out.b.trans ((row_kp _ _ _).below HF5.out.b.size (fun q e => by omega))⟩
                  · rw [if_pos hm] at HPX
                    have kv : (lv == 1) = false := beq_eq_false_iff_ne.2 hm
                    have kw : (lv != 1) = true := bne_iff_ne.2 hm
                    clear hm
                    go_wp2_with (refine wpList_zero rfl rfl w.heap.size rfl rfl HR5.out ?_)
                    exact bodyPost_ret (end_c2 rfl Tryd.underlying35 info61 rfl HR5.out rfl rfl) rfl ⟨by rw [← HPX.out]; rfl, HF5.out.b⟩
                · rw [if_pos her] at HPX
                  have g3 : ((er : Int) == 0) = false := beq_eq_false_iff_ne.2 (by omega)
                  clear her
                  go_wp2_with (refine wpList_zero rfl rfl w.heap.size rfl rfl HR5.out ?_)
                  exact bodyPost_ret (end_c2 rfl Tryd.underlying35 info61 rfl HR5.out rfl rfl) rfl ⟨by rw [← HPX.out]; rfl, HF5.out.b⟩
            · as_aux_lemma =>
              have k81 : ((s[0].toNat : Int) == 81) = false := beq_eq_false_iff_ne.2 (by have := HX.out; omega)
              have k102 : ((s[0].toNat : Int) == 102) = false := beq_eq_false_iff_ne.2 (by have := HX.out; omega)
              have k98 : ((s[0].toNat : Int) == 98) = false := beq_eq_false_iff_ne.2 (by have := HX.out; omega)
              have k122 : ((s[0].toNat : Int) == 122) = false := beq_eq_false_iff_ne.2 (by have := HX.out; omega)
              have HPX : Hid ((Lk.none, 45) = R) := (pt_other HLE.out h81 h102 h98 h122).symm.trans HR2.out
              clear HR2 HX HTL HTS HLE HSX h81 h102 h98 h122
              go_enter Tryd.func16, Tryd.ntmps16
              go_wp2_with (refine wpList_zero rfl rfl w.heap.size rfl rfl HR0.out ?_)
              exact bodyPost_ret (end_c2 rfl Tryd.underlying35 info61 rfl HR0.out rfl rfl) rfl ⟨by rw [← HPX.out]; rfl, HF0.out.b⟩
end
section
open Go.RowKit Go
theorem lthird_bad {v : Int} {c a : Nat} {b : List Nat} (h : (lthird v c a b).2.2 ≠ 0) : (lthird v c a b).1 = Lk.none ∧ (lthird v c a b).2.1 = 0 := by
  unfold lthird at h ⊢
  split
  · rename_i h0
    rw [if_pos h0] at h
    exact absurd rfl h
  · exact ⟨rfl, rfl⟩
theorem lfirst_bad {b : List Nat} (h : (lfirst b).2.2 ≠ 0) : (lfirst b).1 = Lk.none ∧ (lfirst b).2.1 = 0 := by
  unfold lfirst at h ⊢
  split
  · rename_i h0
    rw [if_pos h0] at h
    exact lthird_bad h
  · rename_i h0
    rw [if_neg h0] at h
    split
    · exact ⟨rfl, rfl⟩
    · rename_i h1
      rw [if_neg h1] at h
      split
      · exact ⟨rfl, rfl⟩
      · rename_i h2
        rw [if_neg h2] at h
        split
        · exact ⟨rfl, rfl⟩
        · rename_i h3
          rw [if_neg h3] at h
          exact lthird_bad h
theorem lbytes_d {l : Lk} {b : List Nat} (hb : ∀ x ∈ b, x < 256) (e : lbytes l = b) : ∀ x ∈ l.d, x < 256 := fun x hx => hb x (by
  rw [← e]
  unfold lbytes
  split
  · simp [hx]
  · simp [hx])
theorem lok_lkb {l : Lk} (h : lok l) (hd : ∀ x ∈ l.d, x < 256) : Lkb l := by
  have hk := lok_okd h
  unfold okd at hk
  refine ⟨?_, by omega, hd, by omega⟩
  rcases h with h | h
  · omega
  · omega
theorem lparsetext_bad {s : List Nat} (h : (lparsetext s).2 ≠ 0) : (lparsetext s).1 = Lk.none := by
  unfold lparsetext at h ⊢
  split
  · rfl
  · rename_i h1
    rw [if_neg h1] at h
    split
    · rfl
    · rename_i h2
      rw [if_neg h2] at h
      cases ht : ltake s with
      | none => rfl
      | some p =>
        obtain ⟨v, b⟩ := p
        rw [ht] at h
        simp only at h ⊢
        split
        · rfl
        · rename_i h3
          rw [if_neg h3] at h
          split
          · rfl
          · rename_i h4
            rw [if_neg h4] at h
            exact absurd rfl h
/-- Whether one of the first texts is this one. -/
def fnd (l : Lk) (s : List Nat) : Nat → Bool
  | 0 => decide ((lttx l).1 = s)
  | k + 1 => fnd l s k || (decide ((ltin l ((k + 1 : Nat) : Int)).2 = 0) && decide ((ltin l ((k + 1 : Nat) : Int)).1 = s))
theorem fnd_mono {l : Lk} {s : List Nat} {k : Nat} (h : fnd l s k = true) : ∀ m, fnd l s (k + m) = true
  | 0 => h
  | m + 1 => by
    show (fnd l s (k + m) || _) = true
    rw [fnd_mono h m]
    rfl
theorem fnd_all {l : Lk} {s : List Nat} (h : lparsetext s = (l, 0)) : fnd l s 3 = true := by
  obtain ⟨hk, hd, h1 | ⟨hv, base, hb1, hb3, hs⟩⟩ := lparsetext_back h
  · have e : fnd l s 0 = true := by
      show decide ((lttx l).1 = s) = true
      unfold lttx
      rw [if_pos hk, h1]
      simp
    exact fnd_mono e 3
  · have hv0 : l.v ≠ 0 := by omega
    have e : fnd l s base = true := by
      obtain ⟨k, rfl⟩ : ∃ k, base = k + 1 := ⟨base - 1, by omega⟩
      show (fnd l s k || (decide ((ltin l ((k + 1 : Nat) : Int)).2 = 0) && decide ((ltin l ((k + 1 : Nat) : Int)).1 = s))) = true
      rw [ltin_text hk hv0 (n := k + 1) (by omega), hs]
      simp
    have : fnd l s (base + (3 - base)) = true := fnd_mono e _
    have e2 : base + (3 - base) = 3 := by omega
    rwa [e2] at this
theorem eq_str {xs : List Nat} (hx : ∀ x ∈ xs, x < 256) (s : ByteArray) : ((nstr xs).toList == s.toList) = decide (xs = sl s) := by
  have e : s = nstr (sl s) := (nstr_sl s).symm
  by_cases h : xs = sl s
  · rw [h, nstr_sl]
    simp
  · rw [decide_eq_false h, beq_eq_false_iff_ne]
    intro h2
    rw [e] at h2
    exact h (nstr_inj hx (sl_byte s) h2)
theorem lttx_byte {l : Lk} : ∀ x ∈ (lttx l).1, x < 256 := by
  unfold lttx
  split
  · intro x hx
    simp only at hx
    unfold ltext at hx
    split at hx
    · have h := btext_byte b58 (lbytes l)
      rw [btext58] at h
      exact h x hx
    · have h := btext_byte b32 (lbytes l)
      rw [btext32] at h
      unfold ltextin at hx
      rw [if_neg (by decide), if_pos rfl] at hx
      rcases List.mem_cons.1 hx with e | e
      · omega
      · exact h x e
  · simp
theorem ltin_byte {l : Lk} {n : Int} : ∀ x ∈ (ltin l n).1, x < 256 := by
  unfold ltin
  split
  · split
    · simp
    · intro x hx
      rcases List.mem_append.1 hx with e | e
      · exact sl_byte _ x e
      · exact btext_byte _ _ x e
  · simp
/-- What the second half of LinkOne has in hand is what the first has. -/
theorem zlk_none : lcs Lk.none = #[.int .i64 0, .int .u64 0, .int .u64 0, .string ⟨#[]⟩] := rfl
end
section
open Go.RowKit Go
theorem wpList_loadLinks {ops : Array Oper} {rest : List Oper} {o : Oper} {a : Act} {Q : Exit → Act → World → Prop} {w : World} {p : Operand} (hgd : Region.wanted o (yielded ops a.tmps) = true) (ho : o.op = .load 28 p) (g : Nat) (cs : Array Value)
    (hp : a.eval p = .pointer (some ⟨g, 0, none⟩)) (hn : cs.size = 5) (hg : w.heap[g]? = some (.cells cs 28 (0, 0))) (h : wpList Tryd.prog ops Q rest (a.put o.dst (.agg cs)) w) : wpList Tryd.prog ops Q (o :: rest) a w := by
  refine wpList_wanted hgd fun K hK => ?_
  unfold Oper.wp execOp
  have hr : (Instr.loadAt 28 (.pointer (some ⟨g, 0, none⟩))).run Tryd.prog w = .ok (.agg cs) w := by
    simp only [Instr.loadAt, Instr.sureAddr, Sem.run_bind, Sem.run_pure, Result.andThen]
    exact run_loadVar_row (P := Tryd.prog) w g 28 28 cs (0, 0) _ hg Tryd.underlying28 rfl (by rw [hn]; kernel_rfl)
  simp only [ho, Sem.run_bind, hp, hr, Result.andThen_ok]
  exact hK _ _ h
theorem lpt_byte (s : List Nat) : ∀ x ∈ (lparsetext s).1.d, x < 256 := by
  by_cases h : (lparsetext s).2 = 0
  · have e : lparsetext s = ((lparsetext s).1, 0) := by rw [← h]
    exact (lparsetext_back e).2.1
  · rw [lparsetext_bad h]
    simp [Lk.none]
set_option maxRecDepth 1000000 in
set_option maxHeartbeats 4000000 in
theorem ltexts_any (w : World) (v1 v2 : Value) (aL : Option Addr) (nL cL : Nat) (aS : Option Addr) (nS cS : Nat) (aI : Option Addr) (nI cI : Nat) (hcb : Cb w) (hL : LinksIn w (.slice aL nL cL) nL) (hS : StrsIn w (.slice aS nS cS) nS) (hI : IntsIn w (.slice aI nI cI) nI) :
    Calls Tryd.prog 3 #[.agg #[.slice aL nL cL, v1, v2, .slice aS nS cS, .slice aI nI cI]] w fun e w' => e = .returned (.bool true) ∧ Below w.heap.size w w' := by
  have HX0 := hide (Lks.start #[.slice aL nL cL, v1, v2, .slice aS nS cS, .slice aI nI cI] hcb)
  have HL := hide hL
  have HS := hide hS
  have HI := hide hI
  have hml := hL.max
  have hms := hS.max
  clear hcb hL hS hI
  go_enter Tryd.func3, Tryd.ntmps3
  go_wp2_with fail
  generalize w.alloc (.cells #[.slice aL nL cL, v1, v2, .slice aS nS cS, .slice aI nI cI] 28) = w0 at *
  refine (begun4_any w0 HX0.out.c).mono ?_
  rintro e w1 ⟨rfl, hb1⟩
  have HX1 := hide (HX0.out.below hb1)
  clear hb1 HX0
  go_wp2_with fail
  go_loopw [3] (fun ii wx => ∃ i : Nat, i ≤ 1000 ∧ ii = .int .i64 (i : Nat) ∧ Hid (Lks w wx #[.slice aL nL cL, v1, v2, .slice aS nS cS, .slice aI nI cI])) (fun ii _ => 1000 - (intOf ii).toNat)
  case atStart => exact ⟨0, by omega, rfl, HX1⟩
  case round =>
    obtain ⟨i, hi, rfl, HX⟩ := hrel
    clear HX1
    have q0 : wr.cell? ⟨w.heap.size, 0, none⟩ = some (.slice aL nL cL) := blk_cell HX.out.t rfl
    by_cases hil : i < nL ∧ i < 1000
    · as_aux_lemma =>
      obtain ⟨hil, hi60⟩ := hil
      have g1 : (i : Int) < (nL : Int) := by omega
      have g2 : (i : Int) < 1000 := by omega
      obtain ⟨a', cap', hv, hform⟩ := HL.out.form
      injection hv with e1 e2 e3
      subst e1
      obtain ⟨b, off, rfl, hcells⟩ := hform.resolve_left (by omega)
      obtain ⟨li, hli, hci⟩ := hcells i hil
      have HLI := hide hli
      have HCI := hide hci
      clear hform hcells hli hci e2 e3
      have HQ : Hid (∀ j u, (lcs li)[j]? = some u → wr.cell? ⟨b, off + i * 4 + j, none⟩ = some u) := fun j u hu => keep_below HX.out.b _ _ (HCI.out j u hu)
      have HTX := hide (text4_any wr li HLI.out)
      have HTR := hide (fun wx => rtext_any wx li HLI.out)
      generalize lttx li = tx at *
      obtain ⟨tx, te⟩ := tx
      simp only [lkv_lcs] at HTX HTR
      generalize nstr tx = st at *
      go_wp2_with (refine wpList_lkAt rfl rfl b (off + i * 4) li rfl HQ.out ?_)
      refine HTX.out.mono ?_
      rintro e y1 ⟨rfl, hb1⟩
      have HX1 := hide (HX.out.below hb1)
      have HQ1 : Hid (∀ j u, (lcs li)[j]? = some u → y1.cell? ⟨b, off + i * 4 + j, none⟩ = some u) := fun j u hu => keep_below HX1.out.b _ _ (HCI.out j u hu)
      clear hb1 HX q0 HQ HTX
      have q0 : y1.cell? ⟨w.heap.size, 0, none⟩ = some (.slice (some ⟨b, off, none⟩) nL cL) := blk_cell HX1.out.t rfl
      go_wp2_with (refine wpList_lkAt rfl rfl b (off + i * 4) li rfl HQ1.out ?_)
      refine (HTR.out y1).mono ?_
      rintro e y2 ⟨rfl, hb2⟩
      have HX2 := hide (HX1.out.below hb2)
      clear hb2 HX1 q0 HQ1 HTR
      go_wp2_with (go_at_call 11; refine (num4_any _ _).mono ?_; rintro e wn ⟨rfl, rfl⟩)
      go_loopw [8] (fun kk wx => ∃ k : Nat, k ≤ 4 ∧ kk = .int .i64 (k : Nat) ∧ Hid (Lks w wx #[.slice (some ⟨b, off, none⟩) nL cL, v1, v2, .slice aS nS cS, .slice aI nI cI])) (fun kk _ => 4 - (intOf kk).toNat)
      case atStart => exact ⟨0, by omega, rfl, HX2⟩
      case round => as_aux_lemma =>
        rename World => wz
        obtain ⟨k, hk, rfl, HY⟩ := hrel
        clear HX2
        by_cases hk4 : k < 4
        · have g3 : (k : Int) < 4 := by omega
          go_upto_if 61 with fail
          go_cut [9] (fun bb wx => ∃ z : Int, bb = .int .i64 z ∧ Hid (Lks w wx #[.slice (some ⟨b, off, none⟩) nL cL, v1, v2, .slice aS nS cS, .slice aI nI cI]))
          case first => as_aux_lemma =>
            by_cases hk0 : k = 0
            · have g4 : ((k : Int) == 0) = true := beq_iff_eq.2 (by omega)
              have HBA := hide (lbase_any wz (.slice (some ⟨b, off, none⟩) nL cL) v1 v2 (.slice aS nS cS) aI nI cI i (HI.out.move (keep_below HY.out.b)) hi)
              have HTT := hide HY.out.t
              clear hk0
              go_wp2_with (refine wpList_loadLinks rfl rfl w.heap.size _ rfl rfl HTT.out ?_)
              refine HBA.out.mono ?_
              rintro e y3 ⟨z, rfl, hb3⟩
              have HY3 := hide (HY.out.below hb3)
              clear hb3
              go_wp2_with fail
              go_meet
              case rel => exact ⟨z, rfl, HY3⟩
            · have g4 : ((k : Int) == 0) = false := beq_eq_false_iff_ne.2 (by omega)
              go_wp2_with fail
              go_meet
              case rel => exact ⟨(k : Int), rfl, HY⟩
          case rest => as_aux_lemma =>
            rename World => wc
            obtain ⟨z, rfl, HC⟩ := hcut
            clear HY
            have q0 : wc.cell? ⟨w.heap.size, 0, none⟩ = some (.slice (some ⟨b, off, none⟩) nL cL) := blk_cell HC.out.t rfl
            have HQ : Hid (∀ j u, (lcs li)[j]? = some u → wc.cell? ⟨b, off + i * 4 + j, none⟩ = some u) := fun j u hu => keep_below HC.out.b _ _ (HCI.out j u hu)
            have HTX := hide (textin_any wc li z HLI.out)
            have HTR := hide (fun wx => rtextin_any wx li z HLI.out)
            generalize ltin li z = tx2 at *
            obtain ⟨tx2, te2⟩ := tx2
            simp only [lkv_lcs] at HTX HTR
            generalize nstr tx2 = st2 at *
            go_wp2_with (refine wpList_lkAt rfl rfl b (off + i * 4) li rfl HQ.out ?_)
            refine HTX.out.mono ?_
            rintro e y1 ⟨rfl, hb1⟩
            have HX1 := hide (HC.out.below hb1)
            have HQ1 : Hid (∀ j u, (lcs li)[j]? = some u → y1.cell? ⟨b, off + i * 4 + j, none⟩ = some u) := fun j u hu => keep_below HX1.out.b _ _ (HCI.out j u hu)
            clear hb1 HC q0 HQ HTX
            have q0 : y1.cell? ⟨w.heap.size, 0, none⟩ = some (.slice (some ⟨b, off, none⟩) nL cL) := blk_cell HX1.out.t rfl
            go_wp2_with (refine wpList_lkAt rfl rfl b (off + i * 4) li rfl HQ1.out ?_)
            refine (HTR.out y1).mono ?_
            rintro e y2 ⟨rfl, hb2⟩
            have HX2 := hide (HX1.out.below hb2)
            clear hb2 HX1 q0 HQ1 HTR
            go_wp2_with (go_at_call 11; refine (num4_any _ _).mono ?_; rintro e wn ⟨rfl, rfl⟩)
            go_roundw
            case rel => exact ⟨k + 1, by omega, by go_num, HX2⟩
            case measure => simp [intOf]; omega
        · have g3 : ¬ (k : Int) < 4 := by omega
          go_wp2_with fail
          go_roundw
          case rel => exact ⟨i + 1, by omega, by go_num, HY⟩
          case measure => simp [intOf]; omega
    · have g34 : ((i : Int) < (nL : Int) ∧ ¬ (i : Int) < 1000) ∨ ¬ (i : Int) < (nL : Int) := by omega
      clear hil
      rcases g34 with ⟨g3, g4⟩ | g3
      all_goals (
        go_wp2_with fail
        clear q0
        go_loopw [10] (fun jj wx => ∃ j : Nat, j ≤ 1000 ∧ jj = .int .i64 (j : Nat) ∧ Hid (Lks w wx #[.slice aL nL cL, v1, v2, .slice aS nS cS, .slice aI nI cI])) (fun jj _ => 1000 - (intOf jj).toNat)
        case atStart => exact ⟨0, by omega, rfl, HX⟩
        case round => as_aux_lemma =>
          rename World => wz
          obtain ⟨j, hj, rfl, HY⟩ := hrel
          clear HX
          have q3 : wz.cell? ⟨w.heap.size, 3, none⟩ = some (.slice aS nS cS) := blk_cell HY.out.t rfl
          by_cases hjl : j < nS ∧ j < 1000
          · obtain ⟨hjl, hj60⟩ := hjl
            have g5 : (j : Int) < (nS : Int) := by omega
            have g6 : (j : Int) < 1000 := by omega
            obtain ⟨a', cap', hv, hform⟩ := HS.out.form
            injection hv with e1 e2 e3
            subst e1
            obtain ⟨b, off, rfl, hcells⟩ := hform.resolve_left (by omega)
            obtain ⟨sx, hsz, hsc⟩ := hcells j hjl
            have HSC := hide hsc
            have cs0 : wz.cell? ⟨b, off + j, none⟩ = some (.string sx) := keep_below HY.out.b _ _ hsc
            have HPA := hide (parsetext_any wz sx hsz)
            have HPR := hide (fun wx => rparsetext_any wx sx hsz)
            have HPB := hide (lpt_byte (sl sx))
            clear hform hcells hsc e2 e3 hsz
            generalize lparsetext (sl sx) = pr at *
            obtain ⟨x, bad⟩ := pr
            have HPB : Hid (∀ y ∈ x.d, y < 256) := HPB.out
            simp only [lkv] at HPA HPR
            go_wp2_with fail
            refine HPA.out.mono ?_
            rintro e y1 ⟨rfl, hb1⟩
            have HX1 := hide (HY.out.below hb1)
            clear hb1 HY q3 cs0 HPA
            have HX2 := hide (HX1.out.below (below_alloc4 y1 (.cells #[.int .i64 x.v, .int .u64 (x.c : Int), .int .u64 (x.h : Int), .string (nstr x.d)] 35)))
            have HG2 : Hid ((y1.alloc (.cells #[.int .i64 x.v, .int .u64 (x.c : Int), .int .u64 (x.h : Int), .string (nstr x.d)] 35)).heap[y1.heap.size]? = some (.cells (lcs x) 35 (0, 0))) := heap_alloc_new y1 _
            have q3 := blk_cell (j := 3) HX2.out.t rfl
            have cs0 := keep_below HX2.out.b _ _ HSC.out
            clear HX1
            go_wp2_with fail
            generalize y1.alloc (.cells #[.int .i64 x.v, .int .u64 (x.c : Int), .int .u64 (x.h : Int), .string (nstr x.d)] 35) = y2 at *
            generalize y1.heap.size = gl at *
            refine (HPR.out y2).mono ?_
            rintro e y3 ⟨rfl, hb3⟩
            have HX3 := hide (HX2.out.below hb3)
            have HG3 : Hid (y3.heap[gl]? = some (.cells (lcs x) 35 (0, 0))) := (hb3.block _ (blk_lt HG2.out)).trans HG2.out
            clear hb3 HX2 HG2 q3 cs0 HPR
            have HX4 := hide (HX3.out.below (below_alloc4 y3 (.cells #[.int .i64 x.v, .int .u64 (x.c : Int), .int .u64 (x.h : Int), .string (nstr x.d)] 35)))
            have HG4 : Hid ((y3.alloc (.cells #[.int .i64 x.v, .int .u64 (x.c : Int), .int .u64 (x.h : Int), .string (nstr x.d)] 35)).heap[gl]? = some (.cells (lcs x) 35 (0, 0))) := blk_alloc _ HG3.out
            have HM4 : Hid ((y3.alloc (.cells #[.int .i64 x.v, .int .u64 (x.c : Int), .int .u64 (x.h : Int), .string (nstr x.d)] 35)).heap[y3.heap.size]? = some (.cells (lcs x) 35 (0, 0))) := heap_alloc_new y3 _
            have HEQ : Hid (∀ wx, (Op.equalIn 10000 35 (.agg (lcs x)) (.agg (lcs x))).run Tryd.prog wx = .ok true wx) := fun wx => by
              have h := eqlk wx (a := x) (b := x) HPB.out HPB.out
              rw [decide_eq_true rfl] at h
              exact h
            clear HX3 HG3
            go_wp2_with (first
              | (refine wpList_loadLk rfl rfl gl _ rfl rfl HG4.out ?_)
              | (refine wpList_loadLk rfl rfl y3.heap.size _ rfl rfl HM4.out ?_)
              | (refine wpList_nelk rfl rfl _ _ true rfl rfl (HEQ.out _) ?_)
              | (go_at_call 11; refine (num4_any _ _).mono ?_; rintro e wn ⟨rfl, rfl⟩))
            go_roundw
            case rel => exact ⟨j + 1, by omega, by go_num, HX4⟩
            case measure => simp [intOf]; omega
          · have g56 : ((j : Int) < (nS : Int) ∧ ¬ (j : Int) < 1000) ∨ ¬ (j : Int) < (nS : Int) := by omega
            clear hjl
            rcases g56 with ⟨g5, g6⟩ | g5
            all_goals (
              go_wp2_with fail
              refine (begun4_any wz HY.out.c).mono ?_
              rintro e w9 ⟨rfl, hb9⟩
              have HB9 := hide (HY.out.below hb9).b
              clear hb9
              go_wp2_with fail
              go_ret
              exact ⟨rfl, HB9.out⟩))
end
section
open Go.ChangeShapes Go.WideShapes Go.ChangeAt Go.RowKit Go.Deep Go.Joins
set_option maxRecDepth 100000 in
theorem ltexts_lifted (os : Os) (started : os.Started) (H : Type) (enc : TypeId × Value → H) :
    ReturnsInHanded {} Tryd.checked os 3 .any (fun w args => (Rows.linkTextsSpec.pre enc Tryd.prog Tryd.f3 Rows.linkTextsRow.domain false w args ∧ laidMet Tryd.prog Rows.linkTextsRow.laid w) ∧ sizedMet enc Tryd.prog Tryd.f3 (OpenSpec.ofChange Rows.linkTextsSpec) false w args)
      (Rows.linkTextsSpec.post enc Tryd.prog Tryd.f3 false true false false) := by
  refine returnsInHanded_of_change_and (C := Tryd.checked) (X := fun w _ => laidMet Tryd.prog Rows.linkTextsRow.laid w) (fun _ _ _ hh h => h.of_heap hh) Tryd.own started (by kernel_rfl) Tryd.func3
    (ChangeSpec.witness_at (enc := enc) (C := Tryd.checked) (os := os) (X := fun w _ => laidMet Tryd.prog Rows.linkTextsRow.laid w) false (laidWorld os) #[.agg #[.slice none 0 0, .slice none 0 0, .slice none 0 0, .slice none 0 0, .slice none 0 0]] 8 rfl (by kernel_rfl) (by kernel_rfl) (by kernel_rfl) (by kernel_rfl) (by kernel_rfl) (laid_met os _)) ?_
  intro W base args ds gs before hval0 hW _ hsz0 hLd _
  have hval : ∀ (j : Nat) t v, Tryd.f3.params[j]? = some t → args[j]? = some v → Value.okWide Tryd.prog W .any base t v := hval0
  have hsz : (DataW.weightsEach Tryd.prog (Tryd.f3.params.toList ++ Rows.linkTextsSpec.plain.varTypes Tryd.prog) (ds ++ gs)).all (· ≤ reachBytes) = true := hsz0
  have hW' := hW
  have hcb : Cb W := cb_of_laid hLd
  obtain ⟨p, q, hA0, hV, rfl, hfz, hnd⟩ := hW
  have hA : DataW.TrodAll enc Tryd.prog W 0 (fun _ => true) true Tryd.f3.params.toList args.toList ds p := hA0
  rw [Tryd.params3] at hA hval hsz
  obtain ⟨v0, d0, rfl, rfl, h0⟩ := trodAll_one hA
  obtain ⟨rfl, rfl⟩ := trodVars_none hV
  have k0 := h0
  have lt0 : ∀ x ∈ p, x.block < W.heap.size := by obtain ⟨m, hm⟩ := k0; exact DataW.trod_lt m _ _ _ hm
  have hwalk : Calls Tryd.prog 3 #[v0] W fun e w' => e = .returned (.bool true) ∧ Below W.heap.size W w' := by
    have hs1 : (d0.weights Tryd.prog 28).all (· ≤ reachBytes) = true := by
      have e : DataW.weightsEach Tryd.prog ([28] ++ Rows.linkTextsSpec.plain.varTypes Tryd.prog) ([d0] ++ []) = d0.weights Tryd.prog 28 ++ DataW.weightsEach Tryd.prog (Rows.linkTextsSpec.plain.varTypes Tryd.prog) [] := rfl
      rw [e, List.all_append, Bool.and_eq_true] at hsz
      exact hsz.1
    obtain ⟨aL, nL, cL, v1, v2, aS, nS, cS, aI, nI, cI, rfl, hL, hS, hI⟩ := links_arg3 (hval 0 28 v0 rfl rfl) h0
    exact ltexts_any W v1 v2 aL nL cL aS nS cS aI nI cI hcb hL hS hI
  clear hA0 hval0
  refine hwalk.mono fun e W' ⟨he, bel⟩ => ?_
  subst he
  exact ⟨_, rfl, _, _, _, [], _, [], hW', trodAll_mk1 (shut_bool Tryd.underlying4 _), trodAll_mk1 (Below.trod Tryd.laidOut (by kernel_rfl) (of_decide_eq_true (by kernel_rfl)) k0 bel lt0), rfl, bel.frame _, fun h => by cases h⟩

theorem ltexts_row : Rows.LinkTextsSaid :=
  OpenClaim.holds_of_wide 3 Tryd.f3 rfl rfl rfl rfl rfl rfl rfl ⟨rfl, rfl, rfl, rfl, rfl⟩ rfl rfl rfl rfl rfl (by kernel_rfl) Tryd.func3 (by kernel_rfl)
    (of_decide_eq_true (by kernel_rfl)) (by unfold Func.isWrapper; first | (rw [if_pos (by decide +kernel)]; kernel_rfl) | (rw [if_neg (by decide +kernel)]; exact ⟨rfl, rfl⟩))
    (fun os started H enc _ => ltexts_lifted os started H enc)

theorem ltexts_holds : Rows.LinkTextsCardSaid :=
  Claim7.holds_tied_plain_at .later [] [.data] true (true, "acb858d1d2edd2252cede6da87f18234aef21eb2925c22bf7a018d6de849c8c4") false
    ltexts_row (fun _ h => by cases h) (by kernel_rfl) (fun _ h => by cases h) linkTexts_row_tie rfl ⟨rfl, rfl⟩ (by kernel_rfl) rfl
    (fun f fn hf hfn => by
      obtain rfl : f = 3 := Option.some.inj ((show Tryd.prog.funcNamed "trellis/trellislaw4.LinkTexts" = some 3 by kernel_rfl).symm.trans hf) |>.symm
      obtain rfl : fn = Tryd.f3 := (Option.some.inj (Tryd.func3.symm.trans hfn)).symm
      exact ⟨by kernel_rfl, fun j t ht => by
        rw [Tryd.params3] at ht
        have h3 : t = 28 := by
          rcases j with _ | j
          · simpa using ht.symm
          · simp at ht
        subst h3
        exact (show Tryd.prog.wantsStandIn 28 = false by kernel_rfl)⟩)
    (by kernel_rfl)
#print axioms ltexts_holds
end
end Go.Proofs.YtidglddjinfncaaDoor

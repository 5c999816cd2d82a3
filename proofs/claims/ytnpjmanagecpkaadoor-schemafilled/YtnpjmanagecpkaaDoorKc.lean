import Derived.Test.YtnpjmanagecpkaaDoorKb
import Derived.Test.YtnpjmanagecpkaaDoorKa
import Derived.Great.BuildSlice
import Derived.Great.FillDense
import Derived.Test.YtnpjmanagecpkaaDoorSlcf
import Derived.Lib.TrimUEq
namespace Go.Proofs.YtnpjmanagecpkaaDoor
section
open Go.RowKit Go
/-! ### The table of built-in names -/
def ocs : Array Value := #[.string ⟨#[97, 110, 121]⟩, .int .i64 0, .string ⟨#[110, 117, 108, 108]⟩, .int .i64 1, .string ⟨#[98, 111, 111, 108]⟩, .int .i64 2, .string ⟨#[105, 110, 116]⟩, .int .i64 3, .string ⟨#[102, 108, 111, 97, 116]⟩, .int .i64 4, .string ⟨#[115, 105, 110, 103, 108, 101]⟩, .int .i64 4, .string ⟨#[116, 101, 120, 116]⟩, .int .i64 5, .string ⟨#[98, 121, 116, 101, 115]⟩, .int .i64 6, .string ⟨#[108, 105, 110, 107]⟩, .int .i64 7]
structure Otb (w : World) : Prop where
  c : ∀ j u, ocs[j]? = some u → w.cell? ⟨0, 0 + j, none⟩ = some u
theorem Otb.next {w w' : World} (h : Otb w) (hm : ∀ p u, w.cell? p = some u → w'.cell? p = some u) : Otb w' := ⟨fun j u hj => hm _ _ (h.c j u hj)⟩
theorem infoOw : (Tryd.prog.info? 87).map (·.size) = some 18 := by kernel_rfl
theorem aggOw (w : World) : (isAgg 87).run Tryd.prog w = .ok true w := by
  unfold isAgg
  rw [Sem.run_bind, run_underlying Tryd.underlying87 w]
  simp
theorem owns_len : owns.length = 9 := rfl
theorem own_index (w : World) (i : Nat) (n : ByteArray) (k : Nat) (h : owns[i]? = some (n, k)) : (Instr.index 87 (.agg ocs) (.int .i64 (i : Nat))).run Tryd.prog w = .ok (.agg #[.string n, .int .i64 (k : Nat)]) w := by
  rcases i with _ | _ | _ | _ | _ | _ | _ | _ | _ | i
  all_goals first
    | (simp only [owns, List.getElem?_cons_zero, List.getElem?_cons_succ, Option.some.injEq, Prod.mk.injEq] at h
       obtain ⟨rfl, rfl⟩ := h
       kernel_rfl)
    | (simp [owns] at h)
theorem exec_own {o : Oper} {a : Act} {x ix : Operand} {i : Nat} {n : ByteArray} {k : Nat} {w : World} (h : owns[i]? = some (n, k)) (ho : o.op = .index 87 x ix) (hx : a.eval x = .agg ocs) (hi : a.eval ix = .int .i64 (i : Nat)) : (execOp a.eval o).run Tryd.prog w = .ok (.value (.agg #[.string n, .int .i64 (k : Nat)])) w := by
  unfold execOp
  have hr := own_index w i n k h
  simp only [ho, Sem.run_bind, hx, hi, hr, Result.andThen_ok]
  rfl
theorem ownK_at {s : ByteArray} {i : Nat} {k : Nat} (h : owns[i]? = some (s, k)) (hn : ∀ j p, j < i → owns[j]? = some p → p.1 ≠ s) : ownK s = some k := by
  unfold ownK
  have : (owns.find? fun p => decide (p.1 = s)) = some (s, k) := by
    rw [List.find?_eq_some_iff_getElem]
    obtain ⟨hl, he⟩ := List.getElem?_eq_some_iff.1 h
    exact ⟨by simp, i, hl, he, fun j hj => by simpa using hn j _ hj (List.getElem?_eq_getElem (by omega))⟩
  rw [this]
  rfl
theorem ownK_no {s : ByteArray} (hn : ∀ j p, j < 9 → owns[j]? = some p → p.1 ≠ s) : ownK s = none := by
  unfold ownK
  have : (owns.find? fun p => decide (p.1 = s)) = none := by
    rw [List.find?_eq_none]
    intro p hp
    obtain ⟨j, hj, e⟩ := List.getElem_of_mem hp
    have := hn j p (by have := owns_len; omega) (by rw [List.getElem?_eq_getElem hj, e])
    simpa using this
  rw [this]
  rfl
set_option maxRecDepth 1000000 in
set_option maxHeartbeats 1000000 in
theorem ownKind_any (s : ByteArray) (w : World) (hT : Otb w) : Calls Tryd.prog 48 #[.string s] w fun e w' => e = .returned (.tuple #[.int .i64 ((ownK s).getD 0 : Nat), .bool (ownK s).isSome]) ∧ Below w.heap.size w w' := by
  have HT := hide hT.c
  have HI := hide infoOw
  have HA : Hid (∀ w, (isAgg 87).run Tryd.prog w = .ok true w) := aggOw
  clear hT
  go_enter Tryd.func48, Tryd.ntmps48
  go_wp2_with (refine wpList_aggAt rfl rfl HI.out HA.out 0 0 ocs rfl rfl HT.out ?_)
  clear HT HI HA
  have HOC : Hid (ocs = ocs) := rfl
  generalize hoc : ocs = OC at *
  have HOE := hide hoc
  clear hoc HOC
  go_loopw [7] (fun vi wx => ∃ i : Nat, i ≤ 9 ∧ vi = .int .i64 (i : Nat) ∧ Hid (∀ j p, j < i → owns[j]? = some p → p.1 ≠ s) ∧ Hid (Below w.heap.size w wx)) (fun vi _ => 9 - (intOf vi).toNat)
  case atStart => exact ⟨0, by omega, rfl, fun j _ hj => absurd hj (by omega), Below.refl _ _⟩
  case round =>
    obtain ⟨i, hi, rfl, HN, HBw⟩ := hrel
    by_cases hlt : i < 9
    · have g1 : (i : Int) < 9 := by omega
      obtain ⟨⟨n, k⟩, hp⟩ : ∃ p, owns[i]? = some p := ⟨owns[i]'(by have := owns_len; omega), List.getElem?_eq_getElem _⟩
      have HP := hide hp
      have hb1 := below_alloc4 wr (.cells #[.string n, .int .i64 (k : Nat)] 86)
      have HB1 : Hid (Below w.heap.size w (wr.alloc (.cells #[.string n, .int .i64 (k : Nat)] 86))) := HBw.out.trans (hb1.mono HBw.out.size)
      have HEX : Hid (∀ (o : Oper) (a : Act) (x ix : Operand) (w : World), o.op = .index 87 x ix → a.eval x = .agg OC → a.eval ix = .int .i64 (i : Nat) → (execOp a.eval o).run Tryd.prog w = .ok (.value (.agg #[.string n, .int .i64 (k : Nat)])) w) := fun o a x ix w h1 h2 h3 => exec_own hp h1 (h2.trans (by rw [HOE.out])) h3
      clear hp hb1
      by_cases he : n = s
      · have hne : (n.toList == s.toList) = true := by rw [he]; simp
        have HK : Hid (ownK s = some k) := by
          have h := HP.out
          rw [he] at h
          exact ownK_at h HN.out
        clear he
        go_wp2_with (refine wpList_ex rfl (HEX.out _ _ _ _ _ rfl rfl rfl) ?_)
        go_ret2
        exact ⟨by rw [HK.out]; rfl, HB1.out⟩
      · have hne : (n.toList == s.toList) = false := str_no he
        have HN2 : Hid (∀ j p, j < i + 1 → owns[j]? = some p → p.1 ≠ s) := fun j p hj h1 => by
          by_cases hji : j = i
          · subst hji
            rw [HP.out] at h1
            injection h1 with h1
            rw [← h1]
            exact he
          · exact HN.out j p (by omega) h1
        clear he HP HN
        go_wp2_with (refine wpList_ex rfl (HEX.out _ _ _ _ _ rfl rfl rfl) ?_)
        go_roundw
        case rel => exact ⟨i + 1, by omega, by go_num, HN2, HB1⟩
        case measure => simp [intOf]; omega
    · have g1 : ¬ (i : Int) < 9 := by omega
      have HK : Hid (ownK s = none) := ownK_no (fun j p hj => HN.out j p (by omega))
      go_wp2_with fail
      go_ret2
      exact ⟨by rw [HK.out]; rfl, HBw.out⟩
end
section
open Go.RowKit Go
/-! ### A list with its names' places -/
theorem plc_app (l : List Tp) (t : Tp) (s : ByteArray) : plc (l ++ [t]) s = match plc l s with
    | some i => some i
    | none => if t.n = s then some l.length else none := by
  induction l with
  | nil => simp [plc]
  | cons x r ih =>
    simp only [List.cons_append, plc]
    by_cases h : x.n = s
    · simp [h]
    · rw [if_neg h, if_neg h, ih]
      cases plc r s with
      | some i => rfl
      | none => by_cases h2 : t.n = s <;> simp [h2]
theorem plc_lt {l : List Tp} {s : ByteArray} {i : Nat} (h : plc l s = some i) : ∃ t, l[i]? = some t ∧ t.n = s := by
  induction l generalizing i with
  | nil => cases h
  | cons x r ih =>
    simp only [plc] at h
    by_cases hx : x.n = s
    · rw [if_pos hx] at h
      rw [← Option.some.inj h]
      exact ⟨x, rfl, hx⟩
    · rw [if_neg hx] at h
      cases hr : plc r s with
      | none => rw [hr] at h; cases h
      | some k =>
        rw [hr] at h
        rw [← Option.some.inj h]
        obtain ⟨t, h1, h2⟩ := ih hr
        exact ⟨t, by simpa using h1, h2⟩
def gpl (l : List Tp) : ByteArray → Option Int := fun s => (plc l s).map fun i => (i : Int)
theorem gpl_put (l : List Tp) (t : Tp) (h : plc l t.n = none) : putG (gpl l) t.n (l.length : Nat) = gpl (l ++ [t]) := by
  funext s
  unfold putG gpl
  rw [plc_app]
  by_cases e : s = t.n
  · subst e
    rw [if_pos rfl, h]
    simp
  · rw [if_neg e]
    cases plc l s with
    | some i => rfl
    | none => rw [if_neg (fun h : t.n = s => e h.symm)]
theorem gpl_old (l : List Tp) (t : Tp) (h : plc l t.n ≠ none) : gpl l = gpl (l ++ [t]) := by
  funext s
  unfold gpl
  rw [plc_app]
  cases hs : plc l s with
  | some i => rfl
  | none =>
    have : t.n ≠ s := fun e => h (by rw [e]; exact hs)
    simp [this]
theorem takeP (l : List Tp) (k : Nat) (t : Tp) (h : l[k]? = some t) : l.take (k + 1) = l.take k ++ [t] := by
  have hk := (List.getElem?_eq_some_iff.1 h).1
  rw [List.take_succ_eq_append_getElem hk]
  rw [List.getElem?_eq_getElem hk] at h
  injection h with h
  rw [h]
/-- A book in memory: a list and its names' places. -/
structure Bok (w : World) (vt : Value) (B : Nat) (l : List Tp) : Prop where
  t : TSl w vt l
  m : ∃ n, Mps w B n (gpl l)
theorem Bok.next {w w' : World} {vt : Value} {B : Nat} {l : List Tp} (h : Bok w vt B l) (hb : Below w.heap.size w w') : Bok w' vt B l := ⟨h.t.mv (keep_below hb), h.m.elim fun n h => ⟨n, h.next hb⟩⟩
theorem end_bk {wx : World} {R : Nat} {c : Array Value} {fn : Func} {p : Tmp} {tmps : Array Value} (hf : fn.results = #[.cell p 59]) (hr : wx.heap[R]? = some (.cells c 59 (0, 0))) (hp : tmps.getD p undef = .pointer (some ⟨R, 0, none⟩)) (hn : c.size = 2 := by rfl) : (results fn tmps).run Tryd.prog wx = .ok (.agg c) wx := by
  exact results_cell_row hf tmps wx R 59 c (0, 0) _ hp hr Tryd.underlying59 rfl (by rw [hn]; kernel_rfl)
theorem infoBk : (Tryd.prog.info? 59).map (·.size) = some 2 := by kernel_rfl
/-- What opened has in hand. -/
structure Opd (w : World) (B i : Nat) (l : List Tp) (wx : World) : Prop where
  r : wx.heap[w.heap.size]? = some (.cells #[.slice none 0 0, .map none] 59 (0, 0))
  m : ∃ n, n ≤ i ∧ Mps wx B n (gpl (l.take i))
  b : Below w.heap.size w wx
theorem Opd.next {w wx wy : World} {B i : Nat} {l : List Tp} (h : Opd w B i l wx) (hb : Below wx.heap.size wx wy) : Opd w B i l wy := ⟨(hb.block _ (blk_lt h.r)).trans h.r, h.m.elim fun n h => ⟨n, h.1, h.2.next hb⟩, h.b.trans (hb.mono h.b.size)⟩
set_option maxRecDepth 1000000 in
set_option maxHeartbeats 1000000 in
theorem opened_any (w : World) (v : Value) (l : List Tp) (hv : TSl w v l) : Calls Tryd.prog 19 #[v] w fun e w' => ∃ B, e = .returned (.agg #[v, .map (some B)]) ∧ Hid (w.heap.size ≤ B ∧ (∃ n, Mps w' B n (gpl l)) ∧ Below w.heap.size w w') := by
  have hmax := hv.max
  obtain ⟨⟨a, cap, rfl, _, hform⟩, _⟩ := hv
  have HF := hide hform
  have hmm := @run_makeMap Tryd.prog
  have e1 : (w.alloc (.cells #[.slice none 0 0, .map none] 59)).heap.size = w.heap.size + 1 := by simp
  have HO : Hid (Opd w (w.heap.size + 1) 0 l ((w.alloc (.cells #[.slice none 0 0, .map none] 59)).alloc (.map #[] 0))) := by
    have h := Mps.made (w.alloc (.cells #[.slice none 0 0, .map none] 59))
    rw [e1] at h
    exact ⟨blk_alloc _ (heap_alloc_new w _), ⟨0, Nat.le_refl _, h⟩, (below_alloc4 w _).trans ((below_alloc4 _ _).mono (below_alloc4 w _).size)⟩
  clear hform e1
  go_enter Tryd.func19, Tryd.ntmps19
  go_wp2_with fail
  generalize (w.alloc (.cells #[.slice none 0 0, .map none] 59)).alloc (.map #[] 0) = w0 at *
  go_loopw [11] (fun vi wx => ∃ i : Nat, i ≤ l.length ∧ vi = .int .i64 (i : Nat) ∧ Hid (Opd w (w.heap.size + 1) i l wx)) (fun vi _ => l.length - (intOf vi).toNat)
  case atStart => exact ⟨0, by omega, rfl, HO⟩
  case round =>
    obtain ⟨i, hi, rfl, HOi⟩ := hrel
    clear HO hmm
    by_cases hlt : i < l.length
    · as_aux_lemma =>
      have g1 : (i : Int) < (l.length : Int) := by omega
      obtain ⟨t, ht⟩ : ∃ t, l[i]? = some t := ⟨l[i], List.getElem?_eq_getElem hlt⟩
      obtain ⟨b, off, rfl, hcc⟩ := HF.out.resolve_left (fun h => by rw [h] at hlt; simp at hlt)
      obtain ⟨c, hc, hcell⟩ := hcc i t ht
      obtain ⟨⟨vf, vc, vw, rfl, ⟨⟨af, cf, rfl, -, -⟩, -⟩, ⟨⟨ac, cc, rfl, -, -⟩, -⟩, ⟨⟨aw, cw, rfl, -, -⟩, -, -⟩⟩, hbd⟩ := hc
      unfold tpc at hcell
      have HCL : Hid (∀ j u, (#[.string t.n, .int .i64 t.k, .int .i64 t.lo, .int .i64 t.hi, .string t.r.n, .bool t.r.z, .slice af t.fs.length cf, .slice ac t.cs.length cc, .slice aw t.ws.length cw] : Array Value)[j]? = some u → wr.cell? ⟨b, off + i * 9 + j, none⟩ = some u) := fun j u hj => keep_below HOi.out.b _ _ (hcell j u hj)
      have HNS := hide hbd.n
      have HTK := hide (takeP l i t ht)
      have HTL : Hid ((l.take i).length = i) := by show _ = _; rw [List.length_take]; omega
      have HO1 := hide (HOi.out.next (below_alloc4 wr (.cells #[.string t.n, .int .i64 t.k, .int .i64 t.lo, .int .i64 t.hi, .string t.r.n, .bool t.r.z, .slice af t.fs.length cf, .slice ac t.cs.length cc, .slice aw t.ws.length cw] 29)))
      obtain ⟨n, hn, hm⟩ := HO1.out.m
      have HM := hide hm
      have HN : Hid (n < 140737488351232) := by show _ < _; omega
      have HIW : Hid ((Lit.int .i64 (i : Nat)).wf = true) := WalkArith.wf_i64 (by omega)
      have HN2 : Hid (n ≤ i) := hn
      clear hcc hcell hbd ht hm hn HF
      have HIT := hide infoTp
      have HAT : Hid (∀ w, (isAgg 29).run Tryd.prog w = .ok true w) := aggTp
      cases hp : plc (l.take i) t.n with
      | none =>
        have hps : gpl (l.take i) t.n = none := by unfold gpl; rw [hp]; rfl
        have HG : Hid (putG (gpl (l.take i)) t.n (i : Nat) = gpl (l.take (i + 1))) := by
          show _ = _
          have h := gpl_put (l.take i) t hp
          rw [HTL.out] at h
          rw [HTK.out]
          exact h
        have HPS := hide hps
        clear hp hps
        go_wp2_with (first
          | (refine wpList_aggAt rfl rfl HIT.out HAT.out b (off + i * 9) #[.string t.n, .int .i64 t.k, .int .i64 t.lo, .int .i64 t.hi, .string t.r.n, .bool t.r.z, .slice af t.fs.length cf, .slice ac t.cs.length cc, .slice aw t.ws.length cw] rfl rfl HCL.out ?_)
          | (refine wpList_lookGo rfl rfl rfl rfl HM.out HNS.out ?_; rw [HPS.out])
          | (refine wpList_putG rfl rfl rfl rfl rfl HM.out HNS.out HIW.out HN.out ?_; intro w1 hm1 hk1))
        go_roundw
        case rel =>
          refine ⟨i + 1, by omega, by go_num, ?_⟩
          rw [HG.out] at hm1
          exact ⟨(hk1.block _ (blk_lt HO1.out.r) (by omega)).trans HO1.out.r, ⟨n + 1, by have := HN2.out; omega, hm1⟩, HO1.out.b.trans (hk1.below HO1.out.b.size (fun q e => by omega))⟩
        case measure => simp [intOf]; omega
      | some k =>
        have hps : gpl (l.take i) t.n = some (k : Int) := by unfold gpl; rw [hp]; rfl
        have HG : Hid (gpl (l.take i) = gpl (l.take (i + 1))) := by
          show _ = _
          rw [HTK.out]
          exact gpl_old (l.take i) t (by rw [hp]; exact fun h => by cases h)
        have HPS := hide hps
        clear hp hps
        go_wp2_with (first
          | (refine wpList_aggAt rfl rfl HIT.out HAT.out b (off + i * 9) #[.string t.n, .int .i64 t.k, .int .i64 t.lo, .int .i64 t.hi, .string t.r.n, .bool t.r.z, .slice af t.fs.length cf, .slice ac t.cs.length cc, .slice aw t.ws.length cw] rfl rfl HCL.out ?_)
          | (refine wpList_lookGo rfl rfl rfl rfl HM.out HNS.out ?_; rw [HPS.out]))
        go_roundw
        case rel =>
          refine ⟨i + 1, by omega, by go_num, ?_⟩
          have hm1 := HM.out
          rw [HG.out] at hm1
          exact ⟨HO1.out.r, ⟨n, by have := HN2.out; omega, hm1⟩, HO1.out.b⟩
        case measure => simp [intOf]; omega
    · as_aux_lemma =>
      have g1 : ¬ (i : Int) < (l.length : Int) := by omega
      have hil : i = l.length := by omega
      have HR := hide HOi.out.r
      have HIB : Hid ((Tryd.prog.info? 59).map (·.size) = some (#[.slice a l.length cap, .map (some (w.heap.size + 1))] : Array Value).size) := infoBk
      have HAB : Hid ((#[.slice a l.length cap, .map (some (w.heap.size + 1))] : Array Value).all (·.oneCell') = true) := by show _ = _; simp [Value.oneCell']
      obtain ⟨n, hn, hm⟩ := HOi.out.m
      rw [hil, List.take_length] at hm
      have HM := hide hm
      clear hil hm hn HF
      go_wp2_with (refine wpList_storeRow rfl rfl w.heap.size #[.slice none 0 0, .map none] #[.slice a l.length cap, .map (some (w.heap.size + 1))] 59 rfl rfl HR.out HIB.out rfl HAB.out ?_)
      have hkr := row_kp wr w.heap.size #[.slice a l.length cap, .map (some (w.heap.size + 1))]
      exact bodyPost_ret (end_bk rfl (row_same HR.out) rfl) rfl ⟨_, rfl, by omega, ⟨n, HM.out.kp hkr (by omega)⟩, HOi.out.b.trans (hkr.below HOi.out.b.size (fun q e => by omega))⟩
end
section
open Go.RowKit Go
theorem end_ct {wx : World} {R : Nat} {c : Array Value} {fn : Func} {p u : Tmp} {tmps : Array Value} {T : TypeId} {fs : Array Field} {x : Value} (hf : fn.results = #[.cell p T, .tmp u]) (hr : wx.heap[R]? = some (.cells c T (0, 0))) (hp : tmps.getD p undef = .pointer (some ⟨R, 0, none⟩)) (hx : tmps.getD u undef = x) (hu : Tryd.prog.underlying T = some (.struct fs)) (hi : (Tryd.prog.info? T).map (·.size) = some c.size) : (results fn tmps).run Tryd.prog wx = .ok (.tuple #[.agg c, x]) wx := by
  have h1 := run_loadVar_row (P := Tryd.prog) wx R T T c (0, 0) _ hr hu rfl hi
  refine (results_cell_tmp hf _ _ _).trans ?_
  rw [hp, hx]
  simp [asAddr, h1, Result.andThen]
theorem otp_tpi (w : World) (s : ByteArray) (hs : s.size ≤ 140737488351232) : Tpi w (otp s) #[.string s, .int .i64 0, .int .i64 0, .int .i64 0, .string ⟨#[]⟩, .bool false, .slice none 0 0, .slice none 0 0, .slice none 0 0] := ⟨⟨.slice none 0 0, .slice none 0 0, .slice none 0 0, rfl, GSl.nil, GSl.nil, ⟨⟨none, 0, rfl, ⟨Nat.le_refl _, fun _ => rfl⟩, .inl rfl⟩, Nat.zero_le _, fun _ h => by cases h⟩⟩, ⟨hs, by show (ByteArray.mk #[]).size ≤ _; decide, ⟨by show (-9223372036854775808 : Int) ≤ 0; decide, by show (0 : Int) ≤ _; decide⟩, ⟨by show (-9223372036854775808 : Int) ≤ 0; decide, by show (0 : Int) ≤ _; decide⟩, ⟨by show (-9223372036854775808 : Int) ≤ 0; decide, by show (0 : Int) ≤ _; decide⟩⟩⟩
theorem ztp_tpi (w : World) : Tpi w ztp #[.string ⟨#[]⟩, .int .i64 0, .int .i64 0, .int .i64 0, .string ⟨#[]⟩, .bool false, .slice none 0 0, .slice none 0 0, .slice none 0 0] := otp_tpi w ⟨#[]⟩ (by decide)
/-- Where a result stands that is a type. -/
structure Fin2 (w wx : World) (vt : Value) (B : Nat) : Prop where
  a : wx.heap[w.heap.size]? = some (.cells #[vt, .map (some B)] 59 (0, 0))
  r : wx.heap[w.heap.size + 1]? = some (.cells #[.string ⟨#[]⟩, .int .i64 0, .int .i64 0, .int .i64 0, .string ⟨#[]⟩, .bool false, .slice none 0 0, .slice none 0 0, .slice none 0 0] 29 (0, 0))
  b : Below w.heap.size w wx
theorem Fin2.start (w : World) (vt : Value) (B : Nat) : Fin2 w ((w.alloc (.cells #[vt, .map (some B)] 59)).alloc (.cells #[.string ⟨#[]⟩, .int .i64 0, .int .i64 0, .int .i64 0, .string ⟨#[]⟩, .bool false, .slice none 0 0, .slice none 0 0, .slice none 0 0] 29)) vt B := by
  have h1 := heap_alloc_new w (.cells #[vt, .map (some B)] 59)
  have e1 : (w.alloc (.cells #[vt, .map (some B)] 59)).heap.size = w.heap.size + 1 := by simp
  have h2 := heap_alloc_new (w.alloc (.cells #[vt, .map (some B)] 59)) (.cells #[.string ⟨#[]⟩, .int .i64 0, .int .i64 0, .int .i64 0, .string ⟨#[]⟩, .bool false, .slice none 0 0, .slice none 0 0, .slice none 0 0] 29)
  rw [e1] at h2
  exact ⟨blk_alloc _ h1, h2, (below_alloc4 w _).trans ((below_alloc4 _ _).mono (below_alloc4 w _).size)⟩
theorem Fin2.next {w wx wy : World} {vt : Value} {B : Nat} (h : Fin2 w wx vt B) (hb : Below wx.heap.size wx wy) : Fin2 w wy vt B := ⟨(hb.block _ (blk_lt h.a)).trans h.a, (hb.block _ (blk_lt h.r)).trans h.r, h.b.trans (hb.mono h.b.size)⟩
theorem Fin2.set {w wx : World} {vt : Value} {B : Nat} (h : Fin2 w wx vt B) (c : Array Value) : (wx.setRow (w.heap.size + 1) c).heap[w.heap.size + 1]? = some (.cells c 29 (0, 0)) ∧ Below w.heap.size w (wx.setRow (w.heap.size + 1) c) := ⟨row_same h.r, h.b.trans ((row_kp wx _ c).below h.b.size (fun q e => by omega))⟩
/-- What find tells. -/
def FndP (w : World) (l : List Tp) (s : ByteArray) (e : Ending) (w' : World) : Prop := ∃ c, e = .returned (.tuple #[.agg c, .bool (fnd l s).2]) ∧ Tpi w' (fnd l s).1 c ∧ Below w.heap.size w w'
theorem FndP.mk {w w' : World} {l : List Tp} {s : ByteArray} {c : Array Value} {t : Tp} {b : Bool} (h : fnd l s = (t, b)) (hc : Tpi w' t c) (hb : Below w.heap.size w w') : FndP w l s (.returned (.tuple #[.agg c, .bool b])) w' := ⟨c, by rw [h], by rw [h]; exact hc, hb⟩
set_option maxRecDepth 1000000 in
set_option maxHeartbeats 1000000 in
theorem find_any (w : World) (hT : Otb w) (vt : Value) (B : Nat) (l : List Tp) (hB : Bok w vt B l) (s : ByteArray) (hs : s.size ≤ 140737488351232) : Calls Tryd.prog 27 #[.agg #[vt, .map (some B)], .string s] w (FndP w l s) := by
  have HT := hide hT
  have HB := hide hB
  have HS := hide hs
  have hmax := hB.t.max
  obtain ⟨⟨⟨a, cap, rfl, _, hform⟩, _⟩, _⟩ := hB
  have HF := hide hform
  have HW := hide (Fin2.start w (.slice a l.length cap) B)
  have HB1 := hide (HB.out.next HW.out.b)
  obtain ⟨n, hm⟩ := HB1.out.m
  have HM := hide hm
  have HIT : Hid (∀ c : Array Value, c.size = 9 → (Tryd.prog.info? 29).map (·.size) = some c.size) := fun c h => by rw [h]; exact infoTp
  have HAT : Hid (∀ w, (isAgg 29).run Tryd.prog w = .ok true w) := aggTp
  have HI9 := hide infoTp
  clear hform hT hs hm
  go_enter Tryd.func27, Tryd.ntmps27
  cases hp : plc l s with
  | some i => as_aux_lemma =>
    have hps : gpl l s = some (i : Int) := by unfold gpl; rw [hp]; rfl
    have HPS := hide hps
    obtain ⟨t, ht, htn⟩ := plc_lt hp
    have hil : i < l.length := (List.getElem?_eq_some_iff.1 ht).1
    have HFN : Hid (fnd l s = (t, true)) := by show _ = _; unfold fnd; rw [hp]; simp only [List.getD, ht]; rfl
    have g1 : (i : Int) < (l.length : Int) := by omega
    obtain ⟨b, off, rfl, hcc⟩ := HF.out.resolve_left (fun h => by rw [h] at hil; simp at hil)
    obtain ⟨c, hc, hcell⟩ := hcc i t ht
    have HC := hide hc
    obtain ⟨⟨vf, vc, vw, rfl, ⟨⟨af, cf, rfl, -, -⟩, -⟩, ⟨⟨ac, cc, rfl, -, -⟩, -⟩, ⟨⟨aw, cw, rfl, -, -⟩, -, -⟩⟩, hbd⟩ := hc
    unfold tpc at hcell HC
    have HCL : Hid (∀ wx, Below w.heap.size w wx → ∀ j u, (#[.string t.n, .int .i64 t.k, .int .i64 t.lo, .int .i64 t.hi, .string t.r.n, .bool t.r.z, .slice af t.fs.length cf, .slice ac t.cs.length cc, .slice aw t.ws.length cw] : Array Value)[j]? = some u → wx.cell? ⟨b, off + i * 9 + j, none⟩ = some u) := fun wx hx j u hj => keep_below hx _ _ (hcell j u hj)
    have HA1 : Hid ((#[.string t.n, .int .i64 t.k, .int .i64 t.lo, .int .i64 t.hi, .string t.r.n, .bool t.r.z, .slice af t.fs.length cf, .slice ac t.cs.length cc, .slice aw t.ws.length cw] : Array Value).all (·.oneCell') = true) := by show _ = _; simp [Value.oneCell']
    have q0 := blk_cell (j := 0) HW.out.a rfl
    have q1 := blk_cell (j := 1) HW.out.a rfl
    have HR := hide HW.out.r
    clear hcc hcell hbd ht htn hp hps hil HF
    go_wp2_with (first
      | (refine wpList_lookGo rfl rfl rfl rfl HM.out HS.out ?_; rw [HPS.out])
      | (refine wpList_aggAt rfl rfl HI9.out HAT.out b (off + i * 9) #[.string t.n, .int .i64 t.k, .int .i64 t.lo, .int .i64 t.hi, .string t.r.n, .bool t.r.z, .slice af t.fs.length cf, .slice ac t.cs.length cc, .slice aw t.ws.length cw] rfl rfl (HCL.out _ HW.out.b) ?_)
      | (refine wpList_storeRow rfl rfl (w.heap.size + 1) #[.string ⟨#[]⟩, .int .i64 0, .int .i64 0, .int .i64 0, .string ⟨#[]⟩, .bool false, .slice none 0 0, .slice none 0 0, .slice none 0 0] #[.string t.n, .int .i64 t.k, .int .i64 t.lo, .int .i64 t.hi, .string t.r.n, .bool t.r.z, .slice af t.fs.length cf, .slice ac t.cs.length cc, .slice aw t.ws.length cw] 29 rfl rfl HR.out (HIT.out _ rfl) rfl HA1.out ?_))
    have hs2 := HW.out.set #[.string t.n, .int .i64 t.k, .int .i64 t.lo, .int .i64 t.hi, .string t.r.n, .bool t.r.z, .slice af t.fs.length cf, .slice ac t.cs.length cc, .slice aw t.ws.length cw]
    exact bodyPost_ret (end_ct rfl hs2.1 rfl rfl Tryd.underlying29 infoTp) rfl (FndP.mk HFN.out (HC.out.move (keep_below hs2.2)) hs2.2)
  | none =>
    have hps : gpl l s = none := by unfold gpl; rw [hp]; rfl
    have HPS := hide hps
    have HPN := hide hp
    clear hp hps
    have q0 := blk_cell (j := 0) HW.out.a rfl
    have q1 := blk_cell (j := 1) HW.out.a rfl
    go_wp2_with (refine wpList_lookGo rfl rfl rfl rfl HM.out HS.out ?_; rw [HPS.out])
    generalize (w.alloc (.cells #[.slice a l.length cap, .map (some B)] 59)).alloc (.cells #[.string ⟨#[]⟩, .int .i64 0, .int .i64 0, .int .i64 0, .string ⟨#[]⟩, .bool false, .slice none 0 0, .slice none 0 0, .slice none 0 0] 29) = w1 at *
    refine (ownKind_any s w1 (HT.out.next (keep_below HW.out.b))).mono ?_
    rintro e w2 ⟨rfl, hb⟩
    have HW2 := hide (HW.out.next hb)
    have HR := hide HW2.out.r
    clear hb HM HB1
    cases ho : ownK s with
    | some k => as_aux_lemma =>
      have HFN : Hid (fnd l s = (otp s, true)) := by show _ = _; unfold fnd; rw [HPN.out]; simp only; rw [ho]; rfl
      clear ho
      simp only [Option.getD_some, Option.isSome_some]
      have HA1 : Hid ((#[.string s, .int .i64 0, .int .i64 0, .int .i64 0, .string ⟨#[]⟩, .bool false, .slice none 0 0, .slice none 0 0, .slice none 0 0] : Array Value).all (·.oneCell') = true) := by show _ = _; simp [Value.oneCell']
      go_wp2_with (refine wpList_storeRow rfl rfl (w.heap.size + 1) #[.string ⟨#[]⟩, .int .i64 0, .int .i64 0, .int .i64 0, .string ⟨#[]⟩, .bool false, .slice none 0 0, .slice none 0 0, .slice none 0 0] #[.string s, .int .i64 0, .int .i64 0, .int .i64 0, .string ⟨#[]⟩, .bool false, .slice none 0 0, .slice none 0 0, .slice none 0 0] 29 rfl rfl HR.out (HIT.out _ rfl) rfl HA1.out ?_)
      have hs2 := HW2.out.set #[.string s, .int .i64 0, .int .i64 0, .int .i64 0, .string ⟨#[]⟩, .bool false, .slice none 0 0, .slice none 0 0, .slice none 0 0]
      exact bodyPost_ret (end_ct rfl hs2.1 rfl rfl Tryd.underlying29 infoTp) rfl (FndP.mk HFN.out (otp_tpi _ s HS.out) hs2.2)
    | none => as_aux_lemma =>
      have HFN : Hid (fnd l s = (ztp, false)) := by show _ = _; unfold fnd; rw [HPN.out]; simp only; rw [ho]; rfl
      clear ho
      simp only [Option.getD_none, Option.isSome_none]
      have HA1 : Hid ((#[.string ⟨#[]⟩, .int .i64 0, .int .i64 0, .int .i64 0, .string ⟨#[]⟩, .bool false, .slice none 0 0, .slice none 0 0, .slice none 0 0] : Array Value).all (·.oneCell') = true) := by show _ = _; simp [Value.oneCell']
      go_wp2_with (refine wpList_storeRow rfl rfl (w.heap.size + 1) #[.string ⟨#[]⟩, .int .i64 0, .int .i64 0, .int .i64 0, .string ⟨#[]⟩, .bool false, .slice none 0 0, .slice none 0 0, .slice none 0 0] #[.string ⟨#[]⟩, .int .i64 0, .int .i64 0, .int .i64 0, .string ⟨#[]⟩, .bool false, .slice none 0 0, .slice none 0 0, .slice none 0 0] 29 rfl rfl HR.out (HIT.out _ rfl) rfl HA1.out ?_)
      have hs2 := HW2.out.set #[.string ⟨#[]⟩, .int .i64 0, .int .i64 0, .int .i64 0, .string ⟨#[]⟩, .bool false, .slice none 0 0, .slice none 0 0, .slice none 0 0]
      exact bodyPost_ret (end_ct rfl hs2.1 rfl rfl Tryd.underlying29 infoTp) rfl (FndP.mk HFN.out (ztp_tpi _) hs2.2)
end
section
open Go.RowKit Go
theorem any_list : nAny.toList = [97, 110, 121] := by rw [ByteArray.toList_eq]; rfl
theorem null_list : nNull.toList = [110, 117, 108, 108] := by rw [ByteArray.toList_eq]; rfl
theorem infoEn : (Tryd.prog.info? 97).map (·.size) = some 2 := by kernel_rfl
theorem aggBk (w : World) : (isAgg 59).run Tryd.prog w = .ok true w := by
  unfold isAgg
  rw [Sem.run_bind, run_underlying Tryd.underlying59 w]
  simp
theorem flw_size {l : List Tp} (hl : ∀ t ∈ l, t.r.n.size ≤ 140737488351232) (s : ByteArray) : (fnd l s).1.r.n.size ≤ 140737488351232 := by
  unfold fnd
  cases h : plc l s with
  | some i =>
    obtain ⟨t, ht, _⟩ := plc_lt h
    simp only [List.getD, ht]
    exact hl t (List.mem_of_getElem? ht)
  | none =>
    simp only
    split
    · show (ByteArray.mk #[]).size ≤ _; decide
    · show (ByteArray.mk #[]).size ≤ _; decide
/-- What follow has in hand. -/
structure Flw (w : World) (vt : Value) (B : Nat) (l : List Tp) (wx : World) : Prop where
  a : wx.heap[w.heap.size]? = some (.cells #[vt, .map (some B)] 59 (0, 0))
  r : wx.heap[w.heap.size + 1]? = some (.cells #[.string ⟨#[]⟩, .bool false] 97 (0, 0))
  b : Below w.heap.size w wx
theorem Flw.start (w : World) (vt : Value) (B : Nat) (l : List Tp) : Flw w vt B l ((w.alloc (.cells #[vt, .map (some B)] 59)).alloc (.cells #[.string ⟨#[]⟩, .bool false] 97)) := by
  have h1 := heap_alloc_new w (.cells #[vt, .map (some B)] 59)
  have e1 : (w.alloc (.cells #[vt, .map (some B)] 59)).heap.size = w.heap.size + 1 := by simp
  have h2 := heap_alloc_new (w.alloc (.cells #[vt, .map (some B)] 59)) (.cells #[.string ⟨#[]⟩, .bool false] 97)
  rw [e1] at h2
  exact ⟨blk_alloc _ h1, h2, (below_alloc4 w _).trans ((below_alloc4 _ _).mono (below_alloc4 w _).size)⟩
theorem Flw.next {w wx wy : World} {vt : Value} {B : Nat} {l : List Tp} (h : Flw w vt B l wx) (hb : Below wx.heap.size wx wy) : Flw w vt B l wy := ⟨(hb.block _ (blk_lt h.a)).trans h.a, (hb.block _ (blk_lt h.r)).trans h.r, h.b.trans (hb.mono h.b.size)⟩
theorem Flw.set {w wx : World} {vt : Value} {B : Nat} {l : List Tp} (h : Flw w vt B l wx) (c : Array Value) : (wx.setRow (w.heap.size + 1) c).heap[w.heap.size + 1]? = some (.cells c 97 (0, 0)) ∧ Below w.heap.size w (wx.setRow (w.heap.size + 1) c) := ⟨row_same h.r, h.b.trans ((row_kp wx _ c).below h.b.size (fun q e => by omega))⟩
theorem Flw.cells {w wx : World} {vt : Value} {B : Nat} {l : List Tp} (h : Flw w vt B l wx) : ∀ j u, (#[vt, .map (some B)] : Array Value)[j]? = some u → wx.cell? ⟨w.heap.size, 0 + j, none⟩ = some u := fun j u hu => by rw [Nat.zero_add]; exact blk_cell h.a hu
set_option maxRecDepth 1000000 in
set_option maxHeartbeats 1000000 in
theorem follow_any (w : World) (hT : Otb w) (vt : Value) (B : Nat) (l : List Tp) (hB : Bok w vt B l) (hl : ∀ t ∈ l, t.r.n.size ≤ 140737488351232) (s : ByteArray) (hs : s.size ≤ 140737488351232) : Calls Tryd.prog 45 #[.agg #[vt, .map (some B)], .string s] w fun e w' => e = .returned (.agg #[.string (flo l s).1, .bool (flo l s).2]) ∧ Below w.heap.size w w' := by
  have HT := hide hT
  have HB := hide hB
  have HS := hide hs
  have HL := hide hl
  have hmax := hB.t.max
  obtain ⟨⟨⟨a, cap, rfl, _, _⟩, _⟩, _⟩ := hB
  have HW := hide (Flw.start w (.slice a l.length cap) B l)
  have HIB := hide infoBk
  have HAB : Hid (∀ w, (isAgg 59).run Tryd.prog w = .ok true w) := aggBk
  have HIE : Hid (∀ c : Array Value, c.size = 2 → (Tryd.prog.info? 97).map (·.size) = some c.size) := fun c h => by rw [h]; exact infoEn
  clear hT hs hl
  go_enter Tryd.func45, Tryd.ntmps45
  have q0 := blk_cell (j := 0) HW.out.a rfl
  have e1 : IntKind.i64.wrap ((l.length : Int) + 1) = ((l.length + 1 : Nat) : Int) := by rw [IntKind.wrap_i64]; omega
  go_wp2_with fail
  generalize (w.alloc (.cells #[.slice a l.length cap, .map (some B)] 59)).alloc (.cells #[.string ⟨#[]⟩, .bool false] 97) = w1 at *
  clear q0 e1
  go_loopw [1, 5, 12] (fun vs vz vi wx => ∃ (i : Nat) (s' : ByteArray) (z : Bool), i ≤ l.length + 1 ∧ vs = .string s' ∧ vz = .bool z ∧ vi = .int .i64 (i : Nat) ∧ Hid (s'.size ≤ 140737488351232) ∧ Hid (flw l (l.length + 1 - i) s' z = flo l s) ∧ Hid (Flw w (.slice a l.length cap) B l wx)) (fun _ _ vi _ => l.length + 1 - (intOf vi).toNat)
  case atStart => exact ⟨0, s, false, by omega, rfl, rfl, rfl, HS, rfl, HW⟩
  case round =>
    obtain ⟨i, s', z, hi, rfl, rfl, rfl, HSS, HFL, HWx⟩ := hrel
    clear HW
    by_cases hlt : i < l.length + 1
    · have g1 : (i : Int) < (l.length : Int) + 1 := by omega
      have HE : Hid (flw l (l.length + 1 - i) s' z = if (fnd l s').1.k ≠ 1 then (s', z || decide (s' = nAny) || decide (s' = nNull)) else flw l (l.length + 1 - (i + 1)) (fnd l s').1.r.n (z || (fnd l s').1.r.z)) := by
        show _ = _
        rw [show l.length + 1 - i = (l.length + 1 - (i + 1)) + 1 by omega]
        rfl
      rw [HFL.out] at HE
      have HZ2 := hide (flw_size HL.out s')
      have HCB := hide HWx.out.cells
      clear HFL
      go_wp2_with (refine wpList_aggAt rfl rfl HIB.out HAB.out w.heap.size 0 #[.slice a l.length cap, .map (some B)] rfl rfl HCB.out ?_)
      refine (find_any wr (HT.out.next (keep_below HWx.out.b)) _ B l (HB.out.next HWx.out.b) s' HSS.out).mono ?_
      rintro e w2 ⟨c, rfl, hc, hb⟩
      replace HWx := hide (HWx.out.next hb)
      clear hb HCB
      generalize (fnd l s').2 = fb at *
      generalize (fnd l s').1 = T at *
      obtain ⟨⟨vf, vc, vw, rfl, ⟨⟨af, cf, rfl, -, -⟩, -⟩, ⟨⟨ac, cc, rfl, -, -⟩, -⟩, ⟨⟨aw, cw, rfl, -, -⟩, -, -⟩⟩, hbd⟩ := hc
      unfold tpc
      have HX := hide (HWx.out.next (below_alloc4 w2 (.cells #[.string T.n, .int .i64 T.k, .int .i64 T.lo, .int .i64 T.hi, .string T.r.n, .bool T.r.z, .slice af T.fs.length cf, .slice ac T.cs.length cc, .slice aw T.ws.length cw] 29)))
      have HR := hide HX.out.r
      clear hbd HWx
      by_cases hk : T.k = 1
      · as_aux_lemma =>
        have gk : (T.k != 1) = false := by rw [hk]; rfl
        have HE2 : Hid (flw l (l.length + 1 - (i + 1)) T.r.n (z || T.r.z) = flo l s) := by
          have h := HE.out
          rw [if_neg (fun h => h hk)] at h
          exact h.symm
        clear HE hk
        cases z with
        | true =>
          go_wp2_with fail
          go_quiet (fail)
          go_wp2_with fail
          go_roundw
          case rel => exact ⟨i + 1, T.r.n, true, by omega, rfl, rfl, by go_num, HZ2, HE2, HX.out.next (_root_.Go.below_drewN (Below.refl _ _) _)⟩
          case measure => simp [intOf]; omega
        | false =>
          go_wp2_with fail
          go_quiet (fail)
          go_wp2_with fail
          go_roundw
          case rel => exact ⟨i + 1, T.r.n, T.r.z, by omega, rfl, rfl, by go_num, HZ2, (by have h := HE2.out; rw [Bool.false_or] at h; exact h), HX.out.next (_root_.Go.below_drewN (Below.refl _ _) _)⟩
          case measure => simp [intOf]; omega
      · as_aux_lemma =>
        have gk : (T.k != 1) = true := by simp [hk]
        rw [if_pos hk] at HE
        clear hk
        cases z with
        | true =>
          have HA1 : Hid ((#[.string s', .bool true] : Array Value).all (·.oneCell') = true) := by show _ = _; simp [Value.oneCell']
          go_wp2_with (refine wpList_storeRow rfl rfl (w.heap.size + 1) #[.string ⟨#[]⟩, .bool false] #[.string s', .bool true] 97 rfl rfl HR.out (HIE.out _ rfl) rfl HA1.out ?_)
          have hs2 := HX.out.set #[.string s', .bool true]
          exact bodyPost_ret (results_cell_row rfl _ _ _ _ _ _ _ rfl hs2.1 Tryd.underlying97 rfl infoEn) rfl ⟨by rw [HE.out]; rfl, hs2.2⟩
        | false =>
          by_cases ha : s' = nAny
          · have ga : (s'.toList == nAny.toList) = true := by rw [ha]; exact str_yes _
            have HA1 : Hid ((#[.string s', .bool true] : Array Value).all (·.oneCell') = true) := by show _ = _; simp [Value.oneCell']
            have HEE : Hid (flo l s = (s', true)) := by show _ = _; rw [HE.out, decide_eq_true ha]; rfl
            clear HE ha
            rw [any_list] at ga
            go_wp2_with (refine wpList_storeRow rfl rfl (w.heap.size + 1) #[.string ⟨#[]⟩, .bool false] #[.string s', .bool true] 97 rfl rfl HR.out (HIE.out _ rfl) rfl HA1.out ?_)
            have hs2 := HX.out.set #[.string s', .bool true]
            exact bodyPost_ret (results_cell_row rfl _ _ _ _ _ _ _ rfl hs2.1 Tryd.underlying97 rfl infoEn) rfl ⟨by rw [HEE.out], hs2.2⟩
          · have ga : (s'.toList == nAny.toList) = false := str_no ha
            obtain ⟨nb, hnb⟩ : ∃ nb, nb = decide (s' = nNull) := ⟨_, rfl⟩
            have gn : (s'.toList == nNull.toList) = nb := by
              by_cases hn : s' = nNull
              · rw [hnb, decide_eq_true hn, hn]; exact str_yes _
              · rw [hnb, decide_eq_false hn]; exact str_no hn
            have HEE : Hid (flo l s = (s', nb)) := by show _ = _; rw [HE.out, decide_eq_false ha, hnb]; rfl
            have HA1 : Hid ((#[.string s', .bool nb] : Array Value).all (·.oneCell') = true) := by show _ = _; simp [Value.oneCell']
            clear HE ha hnb
            rw [any_list] at ga
            rw [null_list] at gn
            go_wp2_with (refine wpList_storeRow rfl rfl (w.heap.size + 1) #[.string ⟨#[]⟩, .bool false] #[.string s', .bool nb] 97 rfl rfl HR.out (HIE.out _ rfl) rfl HA1.out ?_)
            have hs2 := HX.out.set #[.string s', .bool nb]
            exact bodyPost_ret (results_cell_row rfl _ _ _ _ _ _ _ rfl hs2.1 Tryd.underlying97 rfl infoEn) rfl ⟨by rw [HEE.out], hs2.2⟩
    · as_aux_lemma =>
      have g1 : ¬ (i : Int) < (l.length : Int) + 1 := by omega
      have HE : Hid (flo l s = (⟨#[]⟩, false)) := by
        show _ = _
        rw [← HFL.out, show l.length + 1 - i = 0 by omega]
        rfl
      have HR := hide HWx.out.r
      have HA1 : Hid ((#[.string ⟨#[]⟩, .bool false] : Array Value).all (·.oneCell') = true) := by show _ = _; simp [Value.oneCell']
      clear HFL
      go_wp2_with (refine wpList_storeRow rfl rfl (w.heap.size + 1) #[.string ⟨#[]⟩, .bool false] #[.string ⟨#[]⟩, .bool false] 97 rfl rfl HR.out (HIE.out _ rfl) rfl HA1.out ?_)
      have hs2 := HWx.out.set #[.string ⟨#[]⟩, .bool false]
      exact bodyPost_ret (results_cell_row rfl _ _ _ _ _ _ _ rfl hs2.1 Tryd.underlying97 rfl infoEn) rfl ⟨by rw [HE.out], hs2.2⟩
end
section
open Go.RowKit Go
/-! ### Rows of structs that a call makes -/
def gfl (l : List (Array Value)) : List Value := l.flatMap (·.toList)
theorem gfl_app (a b : List (Array Value)) : gfl (a ++ b) = gfl a ++ gfl b := by simp [gfl]
theorem gfl_len {k : Nat} : ∀ {l : List (Array Value)}, (∀ c ∈ l, c.size = k) → (gfl l).length = l.length * k
  | [], _ => by simp [gfl]
  | c :: r, h => by
    have ih := gfl_len (l := r) (fun x hx => h x (List.mem_cons_of_mem _ hx))
    have h0 := h c (List.mem_cons_self ..)
    have e : gfl (c :: r) = c.toList ++ gfl r := by simp [gfl]
    rw [e, List.length_append, ih, List.length_cons, Nat.succ_mul, Array.length_toList, h0, Nat.add_comm]
theorem gfl_get {n : Nat} : ∀ {l : List (Array Value)}, (∀ c ∈ l, c.size = n) → ∀ (k : Nat) (c : Array Value) (j : Nat) (u : Value), l[k]? = some c → c[j]? = some u → (gfl l)[k * n + j]? = some u
  | [], _, k, c, j, u, hk, _ => by cases hk
  | x :: r, h, 0, c, j, u, hk, hj => by
    have e : gfl (x :: r) = x.toList ++ gfl r := by simp [gfl]
    have hx : x = c := by simpa using hk
    subst hx
    rw [e, Nat.zero_mul, Nat.zero_add, List.getElem?_append_left (by have := (Array.getElem?_eq_some_iff.1 hj).1; simpa using this)]
    simpa using hj
  | x :: r, h, k + 1, c, j, u, hk, hj => by
    have e : gfl (x :: r) = x.toList ++ gfl r := by simp [gfl]
    have h0 := h x (List.mem_cons_self ..)
    have ih := gfl_get (fun y hy => h y (List.mem_cons_of_mem _ hy)) k c j u (by simpa using hk) hj
    rw [e, List.getElem?_append_right (by rw [Array.length_toList, h0, Nat.succ_mul]; omega), Array.length_toList, h0, Nat.succ_mul, show k * n + n + j - n = k * n + j by omega]
    exact ih
theorem addr0 (g j : Nat) : (⟨g, 0, none⟩ : Addr).add j = ⟨g, j, none⟩ := by unfold Addr.add; split <;> simp_all
theorem addrO (g o j : Nat) : (⟨g, o, none⟩ : Addr).add j = ⟨g, o + j, none⟩ := by unfold Addr.add; split <;> simp_all
/-- A type's row of the table. -/
theorem info_ex {T : TypeId} {z : Value} {k by' : Nat} (h : (Tryd.prog.info? T).map (fun i => (i.zero, i.size, i.bytes)) = some (some z, k, by')) : ∃ i, Tryd.prog.info? T = some i ∧ i.zero = some z ∧ i.size = k ∧ i.bytes = by' := by
  cases hi : Tryd.prog.info? T with
  | none => rw [hi] at h; cases h
  | some i =>
    rw [hi] at h
    injection h with h
    injection h with h1 h2
    injection h2 with h2 h3
    exact ⟨i, rfl, h1, h2, h3⟩
/-- append of one struct. -/
theorem append_g {ops : Array Oper} {rest : List Oper} {o : Oper} {a : Act} {Q : Exit → Act → World → Prop} {w : World} {S T : TypeId} {z : Value} {k by' : Nat} (hI : (Tryd.prog.info? T).map (fun i => (i.zero, i.size, i.bytes)) = some (some z, k, by')) (hS : Tryd.prog.underlying S = some (.slice T)) (hzs : z.cells.size = k) (hk : 0 < k) (hby : by' ≤ 1000) (hgd : o.guard = none) {s x : Operand}
    (ho : o.op = .call { callee := .builtin .append, args := #[s, x], argTypes := #[S, S] }) {B : Nat} {v : Value} {L : List (Array Value)} (hs : a.eval s = v) (hown : w.ownsRow B T k v L.length (gfl L))
    {g : Nat} {c : Array Value} (hx : a.eval x = .slice (some ⟨g, 0, none⟩) 1 1) (hg : w.heap[g]? = some (.cells c T (0, 0))) (hc : c.size = k) (h1 : ∀ u ∈ c.toList, u.oneCell' = true) (hlen : L.length ≤ 1000000) (hbase : B ≤ w.heap.size)
    (h : ∀ v' w', w'.ownsRow B T k v' (L.length + 1) (gfl (L ++ [c])) → w.grownBy w' v.ownBlock → (v'.ownBlock = v.ownBlock ∨ v'.ownBlock = some w.heap.size) → wpList Tryd.prog ops Q rest (a.put o.dst v') w') : wpList Tryd.prog ops Q (o :: rest) a w := by
  obtain ⟨i, hi, hz0, hz1, hz2⟩ := info_ex hI
  have hb : (L.length + 1) * by' ≤ 140737488355328 := by
    have : (L.length + 1) * by' ≤ 1000001 * 1000 := Nat.mul_le_mul (by omega) hby
    omega
  refine wpList_append_own_at w hgd s x S ho B T i z k by' hS hi hz0 hz1 hz2 hzs hk v L.length (gfl L) hs hown ⟨g, 0, none⟩ 1 1 c.toList hx (by simp [hc]) (fun j u hu => ?_) h1 (by unfold maxLen; omega) hb hbase fun v' w' h1 h2 _ h4 => h v' w' (by rw [gfl_app]; simpa [gfl] using h1) h2 h4
  rw [addr0]
  exact blk_cell hg (by simpa using hu)
theorem own_formG {w : World} {B : Nat} {e : TypeId} {k : Nat} {v : Value} {n : Nat} {xs : List Value} (h : w.ownsRow B e k v n xs) : ∃ a cap, v = .slice a n cap ∧ (0 < n → ∃ g, a = some ⟨g, 0, none⟩) := by
  rcases h.2 with ⟨rfl, h0⟩ | ⟨g, cap, cur, rfl, _⟩
  · exact ⟨none, 0, by rw [h0], fun hp => by omega⟩
  · exact ⟨_, cap, rfl, fun _ => ⟨g, rfl⟩⟩
theorem own_elt {w : World} {B g n m cap k i : Nat} {T : TypeId} {L : List (Array Value)} {c : Array Value} (h : w.ownsRow B T k (.slice (some ⟨g, 0, none⟩) m cap) n (gfl L)) (hl : ∀ c ∈ L, c.size = k) (hi : L[i]? = some c) : ∀ j u, c[j]? = some u → w.cell? ⟨g, 0 + i * k + j, none⟩ = some u := fun j u hu => by
  have := h.cells (g := g) rfl (i * k + j) u (gfl_get hl i c j u hi hu)
  rw [addr0] at this
  rw [Nat.zero_add]
  exact this
/-- What a call made reads as a row. -/
theorem own_gsl {α : Type} {k : Nat} {P : World → α → Array Value → Prop} {w : World} {B : Nat} {T : TypeId} {v : Value} {L : List (Array Value)} {xs : List α} (h : w.ownsRow B T k v L.length (gfl L)) (hl : ∀ c ∈ L, c.size = k) (hn : L.length = xs.length) (hm : xs.length ≤ 140737488351232) (hp : ∀ (i : Nat) (x : α) (c : Array Value), xs[i]? = some x → L[i]? = some c → P w x c) : GSl k P w v xs := by
  rw [hn] at h
  refine ⟨?_, hm⟩
  rcases id h.2 with ⟨rfl, h0⟩ | ⟨g, cap, cur, rfl, h1, h2, h3, _⟩
  · have : xs = [] := List.length_eq_zero_iff.1 h0
    subst this
    exact ⟨none, 0, rfl, ⟨Nat.le_refl _, fun _ => rfl⟩, .inl rfl⟩
  · refine ⟨_, cap, rfl, ⟨?_, fun e => by cases e⟩, .inr ⟨g, 0, rfl, fun i x hi => ?_⟩⟩
    · omega
    · obtain ⟨hlt, _⟩ := List.getElem?_eq_some_iff.1 hi
      have hiL : L[i]? = some (L[i]'(by omega)) := List.getElem?_eq_getElem (by omega)
      exact ⟨_, hp i x _ hi hiL, own_elt h hl hiL⟩
theorem row1 {ops : Array Oper} {rest : List Oper} {o : Oper} {a : Act} {w : World} {Q : Exit → Act → World → Prop} {S T : TypeId} {z : Value} {k by' : Nat} (hI : (Tryd.prog.info? T).map (fun i => (i.zero, i.size, i.bytes)) = some (some z, k, by')) (hS : Tryd.prog.underlying S = some (.slice T)) (hk : 0 < k) (hk2 : k ≤ 100) (hzs : z.cells.size = k) (hg : o.guard = none) {x : Operand} (ho : o.op = .buildSlice S 1 #[(0, x)]) {c : Array Value} (hx : a.eval x = .agg c) (hc : c.size = k)
    (h : wpList Tryd.prog ops Q rest (a.put o.dst (.slice (some ⟨w.heap.size, 0, none⟩) 1 1)) (w.alloc (.cells c T))) : wpList Tryd.prog ops Q (o :: rest) a w := by
  obtain ⟨i, hi, hz, hs, _⟩ := info_ex hI
  refine wpList_buildSlice hg S T 1 _ ho c i _ hS hi hz (by rw [hs]; omega) (by rw [hs]; omega) ?_ h
  rw [hs]
  have e : (Array.map (fun (i, x) => (i, a.eval x)) #[((0 : Nat), x)]).toList = (([.agg c] : List Value).zipIdx 0).map fun x => (x.2, x.1) := by
    simp [hx]
  rw [e]
  generalize hX : (Array.range (1 * k)).map (z.cells[· % z.cells.size]!) = X
  have hXs : X.size = k := by rw [← hX]; simp
  obtain ⟨r, hr, hsz, hk3⟩ := Great.fill_dense (s := k) hk [.agg c] 0 X (by
    intro v hv
    rw [List.mem_singleton.1 hv]
    exact hc) (by rw [hXs]; simp)
  have e2 : r = c := by
    apply Array.ext_getElem?
    intro j
    rw [hk3 j]
    by_cases hj : j < k
    · rw [if_pos ⟨by omega, by simpa using hj⟩, Nat.div_eq_of_lt hj, Nat.mod_eq_of_lt hj]
      rfl
    · rw [if_neg (by simp; omega), Array.getElem?_eq_none (by omega), Array.getElem?_eq_none (by omega)]
  rw [hr, e2]
end
section
open Go.RowKit Go
set_option maxRecDepth 1000000 in
set_option maxHeartbeats 1000000 in
theorem kind_any (w : World) (hT : Otb w) (t : Tp) (c : Array Value) (hc : Tpi w t c) : Calls Tryd.prog 72 #[.agg c] w fun e w' => e = .returned (.int .i64 (knd t : Nat)) ∧ Below w.heap.size w w' := by
  have HT := hide hT
  obtain ⟨⟨vf, vc, vw, rfl, ⟨⟨af, cf, rfl, -, hff⟩, hfm⟩, ⟨⟨ac, cc, rfl, -, hcf⟩, hcm⟩, ⟨⟨aw, cw, rfl, -, -⟩, hwm, -⟩⟩, hbd⟩ := hc
  unfold tpc
  have hb0 := below_alloc4 w (.cells #[.string t.n, .int .i64 t.k, .int .i64 t.lo, .int .i64 t.hi, .string t.r.n, .bool t.r.z, .slice af t.fs.length cf, .slice ac t.cs.length cc, .slice aw t.ws.length cw] 29)
  have HB0 := hide hb0
  clear hff hfm hcf hcm hwm hT hb0
  go_enter Tryd.func72, Tryd.ntmps72
  by_cases h2 : t.k = 2
  · as_aux_lemma =>
    have g2 : (t.k == 2) = true := beq_iff_eq.2 h2
    have HK : Hid (knd t = 3) := by show _ = _; unfold knd; rw [if_pos h2]
    clear h2
    go_wp2_with fail
    go_ret
    exact ⟨by rw [HK.out]; rfl, HB0.out⟩
  have g2 : (t.k == 2) = false := beq_eq_false_iff_ne.2 h2
  by_cases h3 : t.k = 3
  · as_aux_lemma =>
    have g3 : (t.k == 3) = true := beq_iff_eq.2 h3
    have HK : Hid (knd t = 8) := by show _ = _; unfold knd; rw [if_neg h2, if_pos (.inl h3)]
    clear h2 h3
    go_wp2_with fail
    go_ret
    exact ⟨by rw [HK.out]; rfl, HB0.out⟩
  have g3 : (t.k == 3) = false := beq_eq_false_iff_ne.2 h3
  by_cases h6 : t.k = 6
  · as_aux_lemma =>
    have g6 : (t.k == 6) = true := beq_iff_eq.2 h6
    have HK : Hid (knd t = 8) := by show _ = _; unfold knd; rw [if_neg h2, if_pos (.inr h6)]
    clear h2 h3 h6
    go_wp2_with fail
    go_ret
    exact ⟨by rw [HK.out]; rfl, HB0.out⟩
  have g6 : (t.k == 6) = false := beq_eq_false_iff_ne.2 h6
  by_cases h4 : t.k = 4
  · as_aux_lemma =>
    have g4 : (t.k == 4) = true := beq_iff_eq.2 h4
    have HK : Hid (knd t = 9) := by show _ = _; unfold knd; rw [if_neg h2, if_neg (fun h => h.elim h3 h6), if_pos (.inl h4)]
    clear h2 h3 h6 h4
    go_wp2_with fail
    go_ret
    exact ⟨by rw [HK.out]; rfl, HB0.out⟩
  have g4 : (t.k == 4) = false := beq_eq_false_iff_ne.2 h4
  by_cases h5 : t.k = 5
  · as_aux_lemma =>
    have g5 : (t.k == 5) = true := beq_iff_eq.2 h5
    have HK : Hid (knd t = 9) := by show _ = _; unfold knd; rw [if_neg h2, if_neg (fun h => h.elim h3 h6), if_pos (.inr (.inl h5))]
    clear h2 h3 h6 h4 h5
    go_wp2_with fail
    go_ret
    exact ⟨by rw [HK.out]; rfl, HB0.out⟩
  have g5 : (t.k == 5) = false := beq_eq_false_iff_ne.2 h5
  by_cases h7 : t.k = 7
  · as_aux_lemma =>
    have g7 : (t.k == 7) = true := beq_iff_eq.2 h7
    have HK : Hid (knd t = 9) := by show _ = _; unfold knd; rw [if_neg h2, if_neg (fun h => h.elim h3 h6), if_pos (.inr (.inr h7))]
    clear h2 h3 h6 h4 h5 h7
    go_wp2_with fail
    go_ret
    exact ⟨by rw [HK.out]; rfl, HB0.out⟩
  have g7 : (t.k == 7) = false := beq_eq_false_iff_ne.2 h7
  by_cases h9 : t.k = 9
  · as_aux_lemma =>
    have g9 : (t.k == 9) = true := beq_iff_eq.2 h9
    have HK : Hid (knd t = 5) := by show _ = _; unfold knd; rw [if_neg h2, if_neg (fun h => h.elim h3 h6), if_neg (fun h => h.elim h4 (fun h => h.elim h5 h7)), if_pos h9]
    clear h2 h3 h6 h4 h5 h7 h9
    go_wp2_with fail
    go_ret
    exact ⟨by rw [HK.out]; rfl, HB0.out⟩
  have g9 : (t.k == 9) = false := beq_eq_false_iff_ne.2 h9
  have HK : Hid (knd t = (ownK t.n).getD 0) := by show _ = _; unfold knd; rw [if_neg h2, if_neg (fun h => h.elim h3 h6), if_neg (fun h => h.elim h4 (fun h => h.elim h5 h7)), if_neg h9]
  clear h2 h3 h6 h4 h5 h7 h9
  go_wp2_with fail
  refine (ownKind_any t.n _ (HT.out.next (keep_below HB0.out))).mono ?_
  rintro e w1 ⟨rfl, hb⟩
  have HB1 : Hid (Below w.heap.size w w1) := HB0.out.trans (hb.mono HB0.out.size)
  clear hb
  go_wp2_with fail
  go_ret
  exact ⟨by rw [HK.out]; rfl, HB1.out⟩
set_option maxRecDepth 1000000 in
set_option maxHeartbeats 1000000 in
theorem taken_any (w : World) (hT : Otb w) (vt : Value) (B : Nat) (l : List Tp) (hB : Bok w vt B l) (s : ByteArray) (hs : s.size ≤ 140737488351232) (i : Nat) : Calls Tryd.prog 38 #[.agg #[vt, .map (some B)], .string s, .int .i64 (i : Nat)] w fun e w' => e = .returned (.bool ((ownK s).isSome || decide ((plc l s).getD 0 < i))) ∧ Below w.heap.size w w' := by
  have HT := hide hT
  have HB := hide hB
  have HS := hide hs
  obtain ⟨⟨⟨a, cap, rfl, _, _⟩, _⟩, _⟩ := hB
  have HA := hide (heap_alloc_new w (.cells #[.slice a l.length cap, .map (some B)] 59))
  have HB0 := hide (below_alloc4 w (.cells #[.slice a l.length cap, .map (some B)] 59))
  clear hT hs
  go_enter Tryd.func38, Tryd.ntmps38
  go_wp2_with fail
  generalize w.alloc (.cells #[.slice a l.length cap, .map (some B)] 59) = w1 at *
  refine (ownKind_any s w1 (HT.out.next (keep_below HB0.out))).mono ?_
  rintro e w2 ⟨rfl, hb⟩
  have HB2 : Hid (Below w.heap.size w w2) := HB0.out.trans (hb.mono HB0.out.size)
  have q1 : w2.cell? ⟨w.heap.size, 1, none⟩ = some (.map (some B)) := blk_cell (j := 1) ((hb.block _ (blk_lt HA.out)).trans HA.out) rfl
  obtain ⟨n, hm⟩ := (HB.out.next HB2.out).m
  have HM := hide hm
  clear hb hm
  cases ho : ownK s with
  | some k => as_aux_lemma =>
    have HO := hide ho
    clear ho
    simp only [Option.getD_some, Option.isSome_some]
    go_wp2_with fail
    go_ret
    exact ⟨by rw [HO.out]; rfl, HB2.out⟩
  | none => as_aux_lemma =>
    have HO := hide ho
    clear ho
    simp only [Option.getD_none, Option.isSome_none]
    have HG : Hid ((gpl l s).getD 0 = (((plc l s).getD 0 : Nat) : Int)) := by show _ = _; unfold gpl; cases plc l s <;> rfl
    obtain ⟨p, hp⟩ : ∃ p, p = (plc l s).getD 0 := ⟨_, rfl⟩
    rw [← hp] at HG
    have HP := hide hp
    clear hp
    go_wp2_with (refine wpList_lookG rfl rfl rfl rfl HM.out HS.out ?_; rw [HG.out])
    go_ret
    exact ⟨by rw [HO.out, ← HP.out]; simp, HB2.out⟩
set_option maxRecDepth 1000000 in
set_option maxHeartbeats 1000000 in
theorem lost_any (w : World) (hT : Otb w) (vt : Value) (B : Nat) (l : List Tp) (hB : Bok w vt B l) (r : Rf) (hs : r.n.size ≤ 140737488351232) : Calls Tryd.prog 42 #[.agg #[vt, .map (some B)], .agg #[.string r.n, .bool r.z]] w fun e w' => e = .returned (.bool (!(fnd l r.n).2)) ∧ Below w.heap.size w w' := by
  have HT := hide hT
  have HB := hide hB
  have HS := hide hs
  obtain ⟨⟨⟨a, cap, rfl, _, _⟩, _⟩, _⟩ := hB
  have h1 := heap_alloc_new w (.cells #[.slice a l.length cap, .map (some B)] 59)
  have HB0 : Hid (Below w.heap.size w ((w.alloc (.cells #[.slice a l.length cap, .map (some B)] 59)).alloc (.cells #[.string r.n, .bool r.z] 24))) := (below_alloc4 w _).trans ((below_alloc4 _ _).mono (below_alloc4 w _).size)
  have HCB : Hid (∀ j u, (#[.slice a l.length cap, .map (some B)] : Array Value)[j]? = some u → ((w.alloc (.cells #[.slice a l.length cap, .map (some B)] 59)).alloc (.cells #[.string r.n, .bool r.z] 24)).cell? ⟨w.heap.size, 0 + j, none⟩ = some u) := fun j u hu => by rw [Nat.zero_add]; exact blk_cell (blk_alloc _ h1) hu
  have HIB := hide infoBk
  have HAB : Hid (∀ w, (isAgg 59).run Tryd.prog w = .ok true w) := aggBk
  clear hT hs h1
  go_enter Tryd.func42, Tryd.ntmps42
  go_wp2_with (refine wpList_aggAt rfl rfl HIB.out HAB.out w.heap.size 0 #[.slice a l.length cap, .map (some B)] rfl rfl HCB.out ?_)
  generalize (w.alloc (.cells #[.slice a l.length cap, .map (some B)] 59)).alloc (.cells #[.string r.n, .bool r.z] 24) = w1 at *
  refine (find_any w1 (HT.out.next (keep_below HB0.out)) _ B l (HB.out.next HB0.out) r.n HS.out).mono ?_
  rintro e w2 ⟨c, rfl, hc, hb⟩
  have HB2 : Hid (Below w.heap.size w w2) := HB0.out.trans (hb.mono HB0.out.size)
  clear hb
  generalize (fnd l r.n).1 = t at *
  obtain ⟨⟨vf, vc, vw, rfl, ⟨⟨af, cf, rfl, -, hff⟩, hfm⟩, ⟨⟨ac, cc, rfl, -, hcf⟩, hcm⟩, ⟨⟨aw, cw, rfl, -, -⟩, hwm, -⟩⟩, hbd⟩ := hc
  unfold tpc
  have HB3 : Hid (Below w.heap.size w (w2.alloc (.cells #[.string t.n, .int .i64 t.k, .int .i64 t.lo, .int .i64 t.hi, .string t.r.n, .bool t.r.z, .slice af t.fs.length cf, .slice ac t.cs.length cc, .slice aw t.ws.length cw] 29))) := HB2.out.trans ((below_alloc4 w2 _).mono HB2.out.size)
  clear hff hfm hcf hcm hwm
  go_wp2_with fail
  go_ret
  exact ⟨rfl, HB3.out⟩
theorem end_field (w : World) (s : ByteArray) (z : Bool) : (Instr.field 97 (.agg #[.string s, .bool z]) 1).run Tryd.prog w = .ok (.bool z) w := by kernel_rfl
theorem exec_null {o : Oper} {a : Act} {x : Operand} {s : ByteArray} {z : Bool} {w : World} (ho : o.op = .field 97 x 1) (hx : a.eval x = .agg #[.string s, .bool z]) : (execOp a.eval o).run Tryd.prog w = .ok (.value (.bool z)) w := by
  unfold execOp
  have hr := end_field w s z
  simp only [ho, Sem.run_bind, hx, hr, Result.andThen_ok]
  rfl
set_option maxRecDepth 1000000 in
set_option maxHeartbeats 1000000 in
theorem nullTwice_any (w : World) (hT : Otb w) (vt : Value) (B : Nat) (l : List Tp) (hB : Bok w vt B l) (hl : ∀ t ∈ l, t.r.n.size ≤ 140737488351232) (r : Rf) (hs : r.n.size ≤ 140737488351232) : Calls Tryd.prog 46 #[.agg #[vt, .map (some B)], .agg #[.string r.n, .bool r.z]] w fun e w' => e = .returned (.bool (r.z && (flo l r.n).2)) ∧ Below w.heap.size w w' := by
  have HT := hide hT
  have HB := hide hB
  have HS := hide hs
  have HL := hide hl
  obtain ⟨rn, rz⟩ := r
  simp only at HS ⊢
  obtain ⟨⟨⟨a, cap, rfl, _, _⟩, _⟩, _⟩ := hB
  have h1 := heap_alloc_new w (.cells #[.slice a l.length cap, .map (some B)] 59)
  have HB0 : Hid (∀ z, Below w.heap.size w ((w.alloc (.cells #[.slice a l.length cap, .map (some B)] 59)).alloc (.cells #[.string rn, .bool z] 24))) := fun z => (below_alloc4 w _).trans ((below_alloc4 _ _).mono (below_alloc4 w _).size)
  have HCB : Hid (∀ z j u, (#[.slice a l.length cap, .map (some B)] : Array Value)[j]? = some u → ((w.alloc (.cells #[.slice a l.length cap, .map (some B)] 59)).alloc (.cells #[.string rn, .bool z] 24)).cell? ⟨w.heap.size, 0 + j, none⟩ = some u) := fun z j u hu => by rw [Nat.zero_add]; exact blk_cell (blk_alloc _ h1) hu
  have HIB := hide infoBk
  have HAB : Hid (∀ w, (isAgg 59).run Tryd.prog w = .ok true w) := aggBk
  clear hT hs h1 hl
  cases rz with
  | false => as_aux_lemma =>
    go_enter Tryd.func46, Tryd.ntmps46
    go_wp2_with fail
    go_ret
    exact ⟨rfl, HB0.out false⟩
  | true => as_aux_lemma =>
    go_enter Tryd.func46, Tryd.ntmps46
    replace HB0 := hide (HB0.out true)
    replace HCB := hide (HCB.out true)
    go_wp2_with (refine wpList_aggAt rfl rfl HIB.out HAB.out w.heap.size 0 #[.slice a l.length cap, .map (some B)] rfl rfl HCB.out ?_)
    generalize (w.alloc (.cells #[.slice a l.length cap, .map (some B)] 59)).alloc (.cells #[.string rn, .bool true] 24) = w1 at *
    refine (follow_any w1 (HT.out.next (keep_below HB0.out)) _ B l (HB.out.next HB0.out) HL.out rn HS.out).mono ?_
    rintro e w2 ⟨rfl, hb⟩
    have HB2 : Hid (Below w.heap.size w w2) := HB0.out.trans (hb.mono HB0.out.size)
    clear hb
    go_wp2_with (refine wpList_ex rfl (exec_null rfl rfl) ?_)
    go_ret
    exact ⟨by rw [Bool.true_and]; rfl, HB2.out⟩
end
section
open Go.RowKit Go
theorem infoRfs : (Tryd.prog.info? 24).map (fun i => (i.zero, i.size, i.bytes)) = some (some (.agg #[.string ⟨#[]⟩, .bool false]), 2, 24) := by kernel_rfl
theorem kp_grown {w w' : World} {row : Option Nat} (h : w.grownBy w' row) : Kp (fun q => row = some q) w w' := ⟨h.os, h.tape, h.output, h.size, fun k hk hne => h.block k hk (fun e => hne e.symm)⟩
theorem sub_cell {w : World} {g T : Nat} {c d : Array Value} {o : Nat} (h : w.heap[g]? = some (.cells c T (0, 0))) (hd : ∀ j u, d[j]? = some u → c[o + j]? = some u) : ∀ j u, d[j]? = some u → w.cell? ⟨g, o + j, none⟩ = some u := fun j u hj => blk_cell h (hd j u hj)
/-- What references has in hand. -/
structure Rfp (w : World) (c : Array Value) (v : Value) (L : List Rf) (wx : World) : Prop where
  a : wx.heap[w.heap.size]? = some (.cells c 29 (0, 0))
  o : wx.ownsRow (w.heap.size + 1) 24 2 v (L.map rfc).length (gfl (L.map rfc))
  b : Below w.heap.size w wx
theorem Rfp.next {w wx wy : World} {c : Array Value} {v : Value} {L : List Rf} (h : Rfp w c v L wx) (hb : Below wx.heap.size wx wy) : Rfp w c v L wy := ⟨(hb.block _ (blk_lt h.a)).trans h.a, (Kp.of_below (S := fun _ => False) hb).owns h.o (fun _ _ e => e), h.b.trans (hb.mono h.b.size)⟩
theorem Rfp.app {w wx wy : World} {c : Array Value} {v v' : Value} {L : List Rf} {r : Rf} (h : Rfp w c v L wx) (hg : wx.grownBy wy v.ownBlock) (ho : wy.ownsRow (w.heap.size + 1) 24 2 v' ((L.map rfc).length + 1) (gfl (L.map rfc ++ [rfc r]))) : Rfp w c v' (L ++ [r]) wy := by
  have hk := kp_grown hg
  have hq : ∀ q, v.ownBlock = some q → w.heap.size < q := fun q e => by have := (h.o.lt q e).1; omega
  refine ⟨(hk.block _ (blk_lt h.a) (fun e => by have := hq _ e; omega)).trans h.a, ?_, h.b.trans (hk.below h.b.size (fun q e => by have := hq q e; omega))⟩
  rw [List.map_append, List.length_append]
  exact ho
theorem Rfp.start {w w1 : World} {c : Array Value} (h1 : w1 = w.alloc (.cells c 29)) : Rfp w c (.slice none 0 0) [] w1 := by
  subst h1
  exact ⟨heap_alloc_new w _, World.ownsRow_nil _ _ _ _, below_alloc4 w _⟩
theorem Rfp.rsl {w wx : World} {c : Array Value} {v : Value} {L : List Rf} (h : Rfp w c v L wx) (hl : L.length ≤ 140737488351232) (hb : ∀ r ∈ L, r.n.size ≤ 140737488351232) : RSl wx v L :=
  own_gsl h.o (fun c hc => by obtain ⟨r, _, rfl⟩ := List.mem_map.1 hc; rfl) (by rw [List.length_map]) hl (fun i r c hr hc => by
    rw [List.getElem?_map, hr] at hc
    injection hc with hc
    exact ⟨hc.symm, hb r (List.mem_of_getElem? hr)⟩)
theorem rfc_one (r : Rf) : ∀ u ∈ (rfc r).toList, u.oneCell' = true := fun u hu => by
  simp only [rfc, List.mem_cons, List.not_mem_nil, or_false] at hu
  rcases hu with rfl | rfl <;> rfl
/-- The row behind one more. -/
theorem append_rf {ops : Array Oper} {rest : List Oper} {o : Oper} {a : Act} {Q : Exit → Act → World → Prop} {w wx : World} (hgd : o.guard = none) {s x : Operand} (ho : o.op = .call { callee := .builtin .append, args := #[s, x], argTypes := #[93, 93] }) {c : Array Value} {v : Value} {L : List Rf} {r : Rf} (hs : a.eval s = v) (h : Rfp w c v L wx)
    (hx : a.eval x = .slice (some ⟨wx.heap.size, 0, none⟩) 1 1) (hlen : L.length ≤ 1000000)
    (hK : ∀ v' w', Rfp w c v' (L ++ [r]) w' → wpList Tryd.prog ops Q rest (a.put o.dst v') w') : wpList Tryd.prog ops Q (o :: rest) a (wx.alloc (.cells (rfc r) 24)) := by
  have h2 := h.next (below_alloc4 wx (.cells (rfc r) 24))
  exact append_g infoRfs Tryd.underlying93 rfl (by decide) (by decide) hgd ho hs h2.o hx (heap_alloc_new wx _) rfl (rfc_one r) (by rw [List.length_map]; exact hlen) (by have := blk_lt h2.a; omega) (fun v' w' h3 h4 _ => hK v' w' (h2.app h4 h3))
set_option maxRecDepth 1000000 in
set_option maxHeartbeats 1000000 in
theorem references_any (w : World) (t : Tp) (c : Array Value) (hc : Tpi w t c) (hf1 : t.fs.length ≤ 1000) (hc1 : t.cs.length ≤ 1000) : Calls Tryd.prog 41 #[.agg c] w fun e w' => ∃ v, e = .returned v ∧ Hid (RSl w' v (rfs t) ∧ Below w.heap.size w w') := by
  obtain ⟨⟨vf, vc, vw, rfl, ⟨⟨af, cf, rfl, -, hff⟩, hfm⟩, ⟨⟨ac, cc, rfl, -, hcf⟩, hcm⟩, ⟨⟨aw, cw, rfl, -, -⟩, hwm, -⟩⟩, hbd⟩ := hc
  have HF := hide hff
  have HC := hide hcf
  have HBD := hide hbd.r
  have HFS : Hid (∀ f ∈ t.fs, f.r.n.size ≤ 140737488351232) := fun f hf => by
    obtain ⟨i, hi, e⟩ := List.getElem_of_mem hf
    rcases hff with h | ⟨b, off, _, h⟩
    · rw [h] at hf; cases hf
    · obtain ⟨_, ⟨_, _, _, h3⟩, _⟩ := h i f (by rw [List.getElem?_eq_getElem hi, e])
      exact h3
  have HCS : Hid (∀ x ∈ t.cs, x.n.size ≤ 140737488351232) := fun x hx => by
    obtain ⟨i, hi, e⟩ := List.getElem_of_mem hx
    rcases hcf with h | ⟨b, off, _, h⟩
    · rw [h] at hx; cases hx
    · obtain ⟨_, ⟨_, _, h3⟩, _⟩ := h i x (by rw [List.getElem?_eq_getElem hi, e])
      exact h3
  have HF1 := hide hf1
  have HC1 := hide hc1
  unfold tpc
  clear hff hcf hbd hwm
  have HIR := hide infoRf
  have HAR : Hid (∀ w, (isAgg 24).run Tryd.prog w = .ok true w) := aggRf
  go_enter Tryd.func41, Tryd.ntmps41
  go_upto_region 1 with fail
  generalize hw1 : w.alloc (.cells #[.string t.n, .int .i64 t.k, .int .i64 t.lo, .int .i64 t.hi, .string t.r.n, .bool t.r.z, .slice af t.fs.length cf, .slice ac t.cs.length cc, .slice aw t.ws.length cw] 29) = w1 at *
  have HR := hide (Rfp.start hw1.symm)
  clear hw1
  have HT6 : Hid ((#[.string t.n, .int .i64 t.k, .int .i64 t.lo, .int .i64 t.hi, .string t.r.n, .bool t.r.z, .slice af t.fs.length cf, .slice ac t.cs.length cc, .slice aw t.ws.length cw] : Array Value)[6]? = some (.slice af t.fs.length cf)) := rfl
  have HT7 : Hid ((#[.string t.n, .int .i64 t.k, .int .i64 t.lo, .int .i64 t.hi, .string t.r.n, .bool t.r.z, .slice af t.fs.length cf, .slice ac t.cs.length cc, .slice aw t.ws.length cw] : Array Value)[7]? = some (.slice ac t.cs.length cc)) := rfl
  have q1 : w1.cell? ⟨w.heap.size, 1, none⟩ = some (.int .i64 t.k) := blk_cell (j := 1) HR.out.a rfl
  have HRF : Hid (∀ j u, (#[.string t.r.n, .bool t.r.z] : Array Value)[j]? = some u → w1.cell? ⟨w.heap.size, 4 + j, none⟩ = some u) := sub_cell HR.out.a (fun j u hj => by
    rcases j with _ | _ | j
    · exact hj
    · exact hj
    · simp at hj)
  obtain ⟨tc, htc⟩ : ∃ tc : Array Value, tc = #[.string t.n, .int .i64 t.k, .int .i64 t.lo, .int .i64 t.hi, .string t.r.n, .bool t.r.z, .slice af t.fs.length cf, .slice ac t.cs.length cc, .slice aw t.ws.length cw] := ⟨_, rfl⟩
  rw [← htc] at HR HT6 HT7
  clear htc
  go_upto_region 2 with fail
  go_cut [20] from 8 to 21 (fun v wx => v = .bool (decide (t.k = 1 ∨ t.k = 3 ∨ t.k = 4)) ∧ wx = w1)
  case first =>
    as_aux_lemma =>
    by_cases h1 : t.k = 1
    · have g1 : (t.k == 1) = true := beq_iff_eq.2 h1
      have HI : Hid (decide (t.k = 1 ∨ t.k = 3 ∨ t.k = 4) = true) := decide_eq_true (.inl h1)
      clear h1
      go_wp2_with fail
      go_meet
      case rel => exact ⟨by rw [HI.out], rfl⟩
    have g1 : (t.k == 1) = false := beq_eq_false_iff_ne.2 h1
    by_cases h3 : t.k = 3
    · have g3 : (t.k == 3) = true := beq_iff_eq.2 h3
      have HI : Hid (decide (t.k = 1 ∨ t.k = 3 ∨ t.k = 4) = true) := decide_eq_true (.inr (.inl h3))
      clear h1 h3
      go_wp2_with fail
      go_meet
      case rel => exact ⟨by rw [HI.out], rfl⟩
    have g3 : (t.k == 3) = false := beq_eq_false_iff_ne.2 h3
    by_cases h4 : t.k = 4
    · have g4 : (t.k == 4) = true := beq_iff_eq.2 h4
      have HI : Hid (decide (t.k = 1 ∨ t.k = 3 ∨ t.k = 4) = true) := decide_eq_true (.inr (.inr h4))
      clear h1 h3 h4
      go_wp2_with fail
      go_meet
      case rel => exact ⟨by rw [HI.out], rfl⟩
    have g4 : (t.k == 4) = false := beq_eq_false_iff_ne.2 h4
    have HI : Hid (decide (t.k = 1 ∨ t.k = 3 ∨ t.k = 4) = false) := decide_eq_false (fun h => h.elim h1 (fun h => h.elim h3 h4))
    clear h1 h3 h4
    go_wp2_with fail
    go_meet
    case rel => exact ⟨by rw [HI.out], rfl⟩
  obtain ⟨rfl, hww⟩ := hcut
  have hww := hww.symm
  subst hww
  generalize hkb : decide (t.k = 1 ∨ t.k = 3 ∨ t.k = 4) = kb
  have HKB := hide hkb
  clear hkb
  go_upto_if 20 with fail
  go_cut [3] from 21 to 26 (fun v wx => ∃ a0 n0 c0, v = .slice a0 n0 c0 ∧ Hid (Rfp w tc (.slice a0 n0 c0) (if kb = true then [t.r] else []) wx))
  case first =>
    as_aux_lemma =>
    cases kb with
    | true =>
      have HR1 : Hid (∀ (ops : Array Oper) (rest : List Oper) (o : Oper) (a : Act) (Q : Exit → Act → World → Prop) (s x : Operand), o.guard = none → o.op = .call { callee := .builtin .append, args := #[s, x], argTypes := #[93, 93] } → a.eval s = .slice none 0 0 → a.eval x = .slice (some ⟨w1.heap.size, 0, none⟩) 1 1 → (∀ v' w', Rfp w tc v' [t.r] w' → wpList Tryd.prog ops Q rest (a.put o.dst v') w') → wpList Tryd.prog ops Q (o :: rest) a (w1.alloc (.cells #[.string t.r.n, .bool t.r.z] 24))) := fun ops rest o a Q s x h1 h2 h3 h4 h5 => append_rf (r := t.r) h1 h2 h3 HR.out h4 (by decide) h5
      go_wp2_with (first
        | (refine wpList_aggAt rfl rfl HIR.out HAR.out w.heap.size 4 #[.string t.r.n, .bool t.r.z] rfl rfl HRF.out ?_)
        | (refine row1 infoRfs Tryd.underlying93 (by decide) (by decide) rfl rfl rfl (c := #[.string t.r.n, .bool t.r.z]) rfl rfl ?_)
        | (refine HR1.out _ _ _ _ _ _ _ rfl rfl rfl rfl ?_; intro v' w' hr'))
      obtain ⟨a0, c0, hv0, _⟩ := own_formG hr'.o
      subst hv0
      go_meet
      case rel => exact ⟨_, _, _, rfl, hr'⟩
    | false =>
      go_wp2_with fail
      go_meet
      case rel => exact ⟨_, _, _, rfl, HR.out⟩
  obtain ⟨a0, n0, c0, rfl, HP⟩ := hcut
  clear HR q1 HRF
  generalize hR0 : (if kb = true then [t.r] else []) = R0 at *
  have HR0 : Hid (rfs t = R0 ++ t.fs.map (·.r) ++ t.cs.map (fun c => ⟨c.n, false⟩)) := by
    show _ = _
    unfold rfs
    rw [← hR0, ← HKB.out]
    simp only [decide_eq_true_eq]
  have HL0 : Hid (R0.length ≤ 1) := by
    show _ ≤ _
    rw [← hR0]
    split <;> simp
  have HB0 : Hid (∀ r ∈ R0, r.n.size ≤ 140737488351232) := fun r hr => by
    rw [← hR0] at hr
    split at hr
    · rw [List.mem_singleton.1 hr]; exact HBD.out
    · cases hr
  clear hR0 HKB
  rename World => w2
  have q6 : w2.cell? ⟨w.heap.size, 6, none⟩ = some (.slice af t.fs.length cf) := blk_cell (j := 6) HP.out.a HT6.out
  go_wp2_with fail
  clear q6
  go_loopw [3, 29] (fun v vi wx => ∃ (i : Nat) (a0 : Option Addr) (n0 c0 : Nat), i ≤ t.fs.length ∧ v = .slice a0 n0 c0 ∧ vi = .int .i64 (i : Nat) ∧ Hid (Rfp w tc (.slice a0 n0 c0) (R0 ++ (t.fs.take i).map (·.r)) wx)) (fun _ vi _ => t.fs.length - (intOf vi).toNat)
  case atStart => exact ⟨0, a0, n0, c0, by omega, rfl, rfl, (by show Rfp w tc _ _ _; rw [List.take_zero, List.map_nil, List.append_nil]; exact HP.out)⟩
  case round =>
    obtain ⟨i, a1, n1, c1, hi, rfl, rfl, HPi⟩ := hrel
    clear HP
    by_cases hlt : i < t.fs.length
    · as_aux_lemma =>
      have g1 : (i : Int) < (t.fs.length : Int) := by omega
      obtain ⟨f, hf⟩ : ∃ f, t.fs[i]? = some f := ⟨t.fs[i], List.getElem?_eq_getElem hlt⟩
      obtain ⟨b, off, rfl, hcc⟩ := HF.out.resolve_left (fun h => by rw [h] at hlt; simp at hlt)
      obtain ⟨c, ⟨rfl, _⟩, hcell⟩ := hcc i f hf
      unfold fdc at hcell
      have HCL : Hid (∀ j u, (#[.string f.n, .string f.k, .string f.r.n, .bool f.r.z, .bool f.m] : Array Value)[j]? = some u → wr.cell? ⟨b, off + i * 5 + j, none⟩ = some u) := fun j u hj => keep_below HPi.out.b _ _ (hcell j u hj)
      have HTK : Hid (R0 ++ (t.fs.take (i + 1)).map (·.r) = (R0 ++ (t.fs.take i).map (·.r)) ++ [f.r]) := by
        show _ = _
        rw [List.take_succ_eq_append_getElem hlt, List.map_append, List.append_assoc]
        rw [List.getElem?_eq_getElem hlt] at hf
        injection hf with hf
        rw [hf]
        rfl
      have HP1 := hide (HPi.out.next (below_alloc4 wr (.cells #[.string f.n, .string f.k, .string f.r.n, .bool f.r.z, .bool f.m] 46)))
      have HIF := hide infoFd
      have HAF : Hid (∀ w, (isAgg 46).run Tryd.prog w = .ok true w) := aggFd
      have HRF : Hid (∀ j u, (#[.string f.r.n, .bool f.r.z] : Array Value)[j]? = some u → (wr.alloc (.cells #[.string f.n, .string f.k, .string f.r.n, .bool f.r.z, .bool f.m] 46)).cell? ⟨wr.heap.size, 2 + j, none⟩ = some u) := sub_cell (heap_alloc_new wr _) (fun j u hj => by
        rcases j with _ | _ | j
        · exact hj
        · exact hj
        · simp at hj)
      have HLL : Hid ((R0 ++ (t.fs.take i).map (·.r)).length ≤ 1000000) := by
        have h1 := HL0.out
        show _ ≤ _
        rw [List.length_append, List.length_map, List.length_take]
        omega
      have HR1 : Hid (∀ (ops : Array Oper) (rest : List Oper) (o : Oper) (a : Act) (Q : Exit → Act → World → Prop) (s x : Operand), o.guard = none → o.op = .call { callee := .builtin .append, args := #[s, x], argTypes := #[93, 93] } → a.eval s = .slice a1 n1 c1 → a.eval x = .slice (some ⟨(wr.alloc (.cells #[.string f.n, .string f.k, .string f.r.n, .bool f.r.z, .bool f.m] 46)).heap.size, 0, none⟩) 1 1 → (∀ v' w', Rfp w tc v' (R0 ++ (t.fs.take (i + 1)).map (·.r)) w' → wpList Tryd.prog ops Q rest (a.put o.dst v') w') → wpList Tryd.prog ops Q (o :: rest) a ((wr.alloc (.cells #[.string f.n, .string f.k, .string f.r.n, .bool f.r.z, .bool f.m] 46)).alloc (.cells #[.string f.r.n, .bool f.r.z] 24))) := fun ops rest o a Q s x h1 h2 h3 h4 h5 => append_rf (r := f.r) h1 h2 h3 HP1.out h4 HLL.out (by rw [← HTK.out]; exact h5)
      clear hcc hcell hf HPi HF HC HR0 HB0
      go_wp2_with (first
        | (refine wpList_aggAt rfl rfl HIF.out HAF.out b (off + i * 5) #[.string f.n, .string f.k, .string f.r.n, .bool f.r.z, .bool f.m] rfl rfl HCL.out ?_)
        | (refine wpList_aggAt rfl rfl HIR.out HAR.out wr.heap.size 2 #[.string f.r.n, .bool f.r.z] rfl rfl HRF.out ?_)
        | (refine row1 infoRfs Tryd.underlying93 (by decide) (by decide) rfl rfl rfl (c := #[.string f.r.n, .bool f.r.z]) rfl rfl ?_)
        | (refine HR1.out _ _ _ _ _ _ _ rfl rfl rfl rfl ?_; intro v' w' hr'))
      obtain ⟨a2, c2, hv0, _⟩ := own_formG hr'.o
      subst hv0
      have HR' := hide hr'
      clear hr'
      go_wp2_with fail
      go_roundw
      case rel => exact ⟨i + 1, _, _, _, by omega, rfl, by go_num, HR'⟩
      case measure => simp [intOf]; omega
    · have g1 : ¬ (i : Int) < (t.fs.length : Int) := by omega
      have hil : i = t.fs.length := by omega
      have HP2 : Hid (Rfp w tc (.slice a1 n1 c1) (R0 ++ t.fs.map (·.r)) wr) := by have h := HPi.out; rw [hil, List.take_length] at h; exact h
      clear hil HPi HF
      have q7 : wr.cell? ⟨w.heap.size, 7, none⟩ = some (.slice ac t.cs.length cc) := blk_cell (j := 7) HP2.out.a HT7.out
      go_wp2_with fail
      clear q7
      go_loopw [3, 42] (fun v vi wx => ∃ (i : Nat) (a0 : Option Addr) (n0 c0 : Nat), i ≤ t.cs.length ∧ v = .slice a0 n0 c0 ∧ vi = .int .i64 (i : Nat) ∧ Hid (Rfp w tc (.slice a0 n0 c0) (R0 ++ t.fs.map (·.r) ++ (t.cs.take i).map (fun c => ⟨c.n, false⟩)) wx)) (fun _ vi _ => t.cs.length - (intOf vi).toNat)
      case atStart => exact ⟨0, a1, n1, c1, by omega, rfl, rfl, (by show Rfp w tc _ _ _; rw [List.take_zero, List.map_nil, List.append_nil]; exact HP2.out)⟩
      case round =>
        rename World => wq
        obtain ⟨i, a3, n3, c3, hi, rfl, rfl, HPi⟩ := hrel
        clear HP2
        by_cases hlt : i < t.cs.length
        · as_aux_lemma =>
          have g1 : (i : Int) < (t.cs.length : Int) := by omega
          obtain ⟨x, hx⟩ : ∃ x, t.cs[i]? = some x := ⟨t.cs[i], List.getElem?_eq_getElem hlt⟩
          obtain ⟨b, off, rfl, hcc⟩ := HC.out.resolve_left (fun h => by rw [h] at hlt; simp at hlt)
          obtain ⟨c, ⟨rfl, _⟩, hcell⟩ := hcc i x hx
          unfold czc at hcell
          have HCL : Hid (∀ j u, (#[.string x.k, .string x.n] : Array Value)[j]? = some u → wq.cell? ⟨b, off + i * 2 + j, none⟩ = some u) := fun j u hj => keep_below HPi.out.b _ _ (hcell j u hj)
          have HTK : Hid (R0 ++ t.fs.map (·.r) ++ (t.cs.take (i + 1)).map (fun c => ⟨c.n, false⟩) = (R0 ++ t.fs.map (·.r) ++ (t.cs.take i).map (fun c => ⟨c.n, false⟩)) ++ [⟨x.n, false⟩]) := by
            show _ = _
            rw [List.take_succ_eq_append_getElem hlt, List.map_append, List.append_assoc _ _ [(⟨x.n, false⟩ : Rf)]]
            rw [List.getElem?_eq_getElem hlt] at hx
            injection hx with hx
            rw [hx]
            rfl
          have HP1 := hide (HPi.out.next (below_alloc4 wq (.cells #[.string x.k, .string x.n] 48)))
          have HIF := hide infoCz
          have HAF : Hid (∀ w, (isAgg 48).run Tryd.prog w = .ok true w) := aggCz
          have HLL : Hid (List.length (α := Rf) (R0 ++ t.fs.map (·.r) ++ (t.cs.take i).map (fun c => ⟨c.n, false⟩)) ≤ 1000000) := by
            have h1 := HL0.out
            show _ ≤ _
            rw [List.length_append, List.length_append, List.length_map, List.length_map, List.length_take]
            omega
          have HR1 : Hid (∀ (ops : Array Oper) (rest : List Oper) (o : Oper) (a : Act) (Q : Exit → Act → World → Prop) (s y : Operand), o.guard = none → o.op = .call { callee := .builtin .append, args := #[s, y], argTypes := #[93, 93] } → a.eval s = .slice a3 n3 c3 → a.eval y = .slice (some ⟨(wq.alloc (.cells #[.string x.k, .string x.n] 48)).heap.size, 0, none⟩) 1 1 → (∀ v' w', Rfp w tc v' (R0 ++ t.fs.map (·.r) ++ (t.cs.take (i + 1)).map (fun c => ⟨c.n, false⟩)) w' → wpList Tryd.prog ops Q rest (a.put o.dst v') w') → wpList Tryd.prog ops Q (o :: rest) a ((wq.alloc (.cells #[.string x.k, .string x.n] 48)).alloc (.cells #[.string x.n, .bool false] 24))) := fun ops rest o a Q s y h1 h2 h3 h4 h5 => append_rf (r := ⟨x.n, false⟩) h1 h2 h3 HP1.out h4 HLL.out (by rw [← HTK.out]; exact h5)
          clear hcc hcell hx HPi HC HR0 HB0
          go_wp2_with (first
            | (refine wpList_aggAt rfl rfl HIF.out HAF.out b (off + i * 2) #[.string x.k, .string x.n] rfl rfl HCL.out ?_)
            | (refine row1 infoRfs Tryd.underlying93 (by decide) (by decide) rfl rfl rfl (c := #[.string x.n, .bool false]) rfl rfl ?_)
            | (refine HR1.out _ _ _ _ _ _ _ rfl rfl rfl rfl ?_; intro v' w' hr'))
          obtain ⟨a2, c2, hv0, _⟩ := own_formG hr'.o
          subst hv0
          have HR' := hide hr'
          clear hr'
          go_wp2_with fail
          go_roundw
          case rel => exact ⟨i + 1, _, _, _, by omega, rfl, by go_num, HR'⟩
          case measure => simp [intOf]; omega
        · as_aux_lemma =>
          have g1 : ¬ (i : Int) < (t.cs.length : Int) := by omega
          have hil : i = t.cs.length := by omega
          have HP3 : Hid (Rfp w tc (.slice a3 n3 c3) (rfs t) wq) := by have h := HPi.out; rw [hil, List.take_length, ← HR0.out] at h; exact h
          have HSZ : Hid (∀ r ∈ rfs t, r.n.size ≤ 140737488351232) := fun r hr => by
            rw [HR0.out] at hr
            rcases List.mem_append.1 hr with hr | hr
            · rcases List.mem_append.1 hr with hr | hr
              · exact HB0.out r hr
              · obtain ⟨f, hf, rfl⟩ := List.mem_map.1 hr
                exact HFS.out f hf
            · obtain ⟨x, hx, rfl⟩ := List.mem_map.1 hr
              exact HCS.out x hx
          have HLN : Hid ((rfs t).length ≤ 140737488351232) := by
            have h1 := HL0.out
            show _ ≤ _
            rw [HR0.out, List.length_append, List.length_append, List.length_map, List.length_map]
            omega
          clear hil HPi HC
          go_wp2_with fail
          go_ret
          exact ⟨_, rfl, HP3.out.rsl HLN.out HSZ.out, HP3.out.b⟩
end
section
open Go.RowKit Go
/-! ### Names -/
theorem decN_ge {n b0 b1 b2 b3 : Nat} (h : ¬ b0 < 128) : 128 ≤ (Lib.decodeN n b0 b1 b2 b3).1 := by
  unfold Lib.decodeN
  rw [if_neg h]
  repeat' split
  all_goals simp only
  all_goals omega
theorem nby_hi {r : Nat} (h : 128 ≤ r) : nby r = false := by
  unfold nby
  simp only [Bool.or_eq_false_iff, decide_eq_false_iff_not]
  omega
def strg (r : Nat) : Bool := !nby r
theorem idx_name (s : ByteArray) : ∀ (f pos : Nat), s.data.toList.length ≤ pos + f → decide (0 ≤ Lib.idxFuncFrom strg true s f pos) = !((s.data.toList.drop pos).all fun c => nby c.toNat)
  | 0, pos, h => by
    rw [List.drop_of_length_le (by omega)]
    rfl
  | f + 1, pos, h => by
    unfold Lib.idxFuncFrom
    have hs : s.size = s.data.toList.length := by rw [Array.length_toList]; rfl
    by_cases hp : pos < s.size
    · rw [if_pos hp]
      have hp' : pos < s.data.toList.length := by omega
      have hd := Lib.decode_N s pos
      have hg : s.data.toList.getD pos 0 = s.data.toList[pos] := by simp [List.getD, List.getElem?_eq_getElem hp']
      rw [hg] at hd
      rw [List.drop_eq_getElem_cons hp', List.all_cons]
      generalize s.data.toList[pos] = c at *
      by_cases hc : c.toNat < 128
      · have hd2 : Utf8.decode s pos = (c.toNat, 1) := by rw [hd]; unfold Lib.decodeN; rw [if_pos hc]
        rw [hd2]
        simp only [strg]
        rcases Bool.eq_false_or_eq_true (nby c.toNat) with hn | hn
        · simp only [hn, Bool.not_true, Bool.false_eq_true, if_false, Bool.true_and]
          exact idx_name s f (pos + 1) (by omega)
        · simp [hn]
      · have h1 : strg (Utf8.decode s pos).1 = true := by
          unfold strg
          rw [hd, nby_hi (decN_ge hc)]
          rfl
        rw [if_pos h1, nby_hi (by omega : 128 ≤ c.toNat)]
        simp
    · rw [if_neg hp, List.drop_of_length_le (by omega)]
      rfl
theorem idx_all (s : ByteArray) : decide (0 ≤ Lib.idxFunc strg true s) = !(s.data.toList.all fun c => nby c.toNat) := by
  have h := idx_name s s.size 0 (by rw [Array.length_toList, Nat.zero_add]; exact Nat.le_refl _)
  rw [List.drop_zero] at h
  exact h
set_option maxRecDepth 1000000 in
set_option maxHeartbeats 1000000 in
theorem strange_any (r : Nat) (w : World) : Calls Tryd.prog 63 #[.int .i32 (r : Int)] w fun e w' => e = .returned (.bool (strg r)) ∧ w' = w := by
  by_cases h1 : 97 ≤ r
  · have g1 : (97 : Int) ≤ (r : Int) := by omega
    by_cases h2 : r ≤ 122
    · have g2 : (r : Int) ≤ 122 := by omega
      have HK : Hid (strg r = false) := by show _ = _; unfold strg nby; rw [decide_eq_true (show 97 ≤ r ∧ r ≤ 122 from ⟨h1, h2⟩)]; rfl
      clear h1 h2
      go_enter Tryd.func63, Tryd.ntmps63
      go_wp2_with fail
      go_ret
      exact ⟨by rw [HK.out]; rfl, rfl⟩
    · have g2 : ¬ (r : Int) ≤ 122 := by omega
      have g3 : (65 : Int) ≤ (r : Int) := by omega
      have g4 : ¬ (r : Int) ≤ 90 := by omega
      have g5 : (48 : Int) ≤ (r : Int) := by omega
      have g6 : ¬ (r : Int) ≤ 57 := by omega
      have g7 : ((r : Int) == 45) = false := beq_eq_false_iff_ne.2 (by omega)
      have g8 : ((r : Int) == 46) = false := beq_eq_false_iff_ne.2 (by omega)
      have g9 : ((r : Int) == 95) = false := beq_eq_false_iff_ne.2 (by omega)
      have HK : Hid (strg r = true) := by
        show _ = _
        unfold strg nby
        rw [Bool.not_eq_true']
        simp only [Bool.or_eq_false_iff, decide_eq_false_iff_not]
        omega
      clear h1 h2
      go_enter Tryd.func63, Tryd.ntmps63
      go_wp2_with fail
      go_ret
      exact ⟨by rw [HK.out]; rfl, rfl⟩
  have g1 : ¬ (97 : Int) ≤ (r : Int) := by omega
  by_cases h3 : 65 ≤ r
  · have g3 : (65 : Int) ≤ (r : Int) := by omega
    by_cases h4 : r ≤ 90
    · have g4 : (r : Int) ≤ 90 := by omega
      have HK : Hid (strg r = false) := by
        show _ = _
        unfold strg nby
        rw [Bool.not_eq_false']
        simp only [Bool.or_eq_true, decide_eq_true_eq]
        omega
      clear h1 h3 h4
      go_enter Tryd.func63, Tryd.ntmps63
      go_wp2_with fail
      go_ret
      exact ⟨by rw [HK.out]; rfl, rfl⟩
    · have g4 : ¬ (r : Int) ≤ 90 := by omega
      have g5 : (48 : Int) ≤ (r : Int) := by omega
      have g6 : ¬ (r : Int) ≤ 57 := by omega
      have g7 : ((r : Int) == 45) = false := beq_eq_false_iff_ne.2 (by omega)
      have g8 : ((r : Int) == 46) = false := beq_eq_false_iff_ne.2 (by omega)
      obtain ⟨b9, hb9⟩ : ∃ b, b = decide (r = 95) := ⟨_, rfl⟩
      have g9 : ((r : Int) == 95) = b9 := by
        rw [hb9, Bool.eq_iff_iff, beq_iff_eq, decide_eq_true_eq]
        omega
      have HK : Hid (strg r = !b9) := by
        show _ = _
        unfold strg nby
        rw [hb9]
        congr 1
        rw [Bool.eq_iff_iff]
        simp only [Bool.or_eq_true, decide_eq_true_eq]
        omega
      clear h1 h3 h4 hb9
      go_enter Tryd.func63, Tryd.ntmps63
      go_wp2_with fail
      go_ret
      exact ⟨by rw [HK.out]; rfl, rfl⟩
  have g3 : ¬ (65 : Int) ≤ (r : Int) := by omega
  by_cases h5 : 48 ≤ r
  · have g5 : (48 : Int) ≤ (r : Int) := by omega
    by_cases h6 : r ≤ 57
    · have g6 : (r : Int) ≤ 57 := by omega
      have HK : Hid (strg r = false) := by
        show _ = _
        unfold strg nby
        rw [Bool.not_eq_false']
        simp only [Bool.or_eq_true, decide_eq_true_eq]
        omega
      clear h1 h3 h5 h6
      go_enter Tryd.func63, Tryd.ntmps63
      go_wp2_with fail
      go_ret
      exact ⟨by rw [HK.out]; rfl, rfl⟩
    · have g6 : ¬ (r : Int) ≤ 57 := by omega
      have g7 : ((r : Int) == 45) = false := beq_eq_false_iff_ne.2 (by omega)
      have g8 : ((r : Int) == 46) = false := beq_eq_false_iff_ne.2 (by omega)
      have g9 : ((r : Int) == 95) = false := beq_eq_false_iff_ne.2 (by omega)
      have HK : Hid (strg r = true) := by
        show _ = _
        unfold strg nby
        rw [Bool.not_eq_true']
        simp only [Bool.or_eq_false_iff, decide_eq_false_iff_not]
        omega
      clear h1 h3 h5 h6
      go_enter Tryd.func63, Tryd.ntmps63
      go_wp2_with fail
      go_ret
      exact ⟨by rw [HK.out]; rfl, rfl⟩
  have g5 : ¬ (48 : Int) ≤ (r : Int) := by omega
  by_cases h7 : r = 45
  · have g7 : ((r : Int) == 45) = true := beq_iff_eq.2 (by omega)
    have HK : Hid (strg r = false) := by
      show _ = _
      unfold strg nby
      rw [Bool.not_eq_false']
      simp only [Bool.or_eq_true, decide_eq_true_eq]
      omega
    clear h1 h3 h5 h7
    go_enter Tryd.func63, Tryd.ntmps63
    go_wp2_with fail
    go_ret
    exact ⟨by rw [HK.out]; rfl, rfl⟩
  have g7 : ((r : Int) == 45) = false := beq_eq_false_iff_ne.2 (by omega)
  by_cases h8 : r = 46
  · have g8 : ((r : Int) == 46) = true := beq_iff_eq.2 (by omega)
    have HK : Hid (strg r = false) := by
      show _ = _
      unfold strg nby
      rw [Bool.not_eq_false']
      simp only [Bool.or_eq_true, decide_eq_true_eq]
      omega
    clear h1 h3 h5 h7 h8
    go_enter Tryd.func63, Tryd.ntmps63
    go_wp2_with fail
    go_ret
    exact ⟨by rw [HK.out]; rfl, rfl⟩
  have g8 : ((r : Int) == 46) = false := beq_eq_false_iff_ne.2 (by omega)
  have g9 : ((r : Int) == 95) = false := beq_eq_false_iff_ne.2 (by omega)
  have HK : Hid (strg r = true) := by
    show _ = _
    unfold strg nby
    rw [Bool.not_eq_true']
    simp only [Bool.or_eq_false_iff, decide_eq_false_iff_not]
    omega
  clear h1 h3 h5 h7 h8
  go_enter Tryd.func63, Tryd.ntmps63
  go_wp2_with fail
  go_ret
  exact ⟨by rw [HK.out]; rfl, rfl⟩
theorem contF_any (s : ByteArray) (w : World) : Calls Tryd.prog 64 #[.string s, .func (.func 63) #[] #[]] w fun e w' => e = .returned (.bool (!(s.data.toList.all fun c => nby c.toNat))) ∧ Below w.heap.size w w' := by
  have h := Any.strings_ContainsFunc Tryd.laysCont 63 #[] (_root_.Go.Proofs.enters_of Tryd.func63 (by kernel_rfl) rfl) strg s w (fun W x _ => by
    refine (strange_any x W).mono ?_
    rintro e w' ⟨rfl, rfl⟩
    exact ⟨rfl, 0, rfl⟩)
  rw [idx_all] at h
  exact h
set_option maxRecDepth 1000000 in
set_option maxHeartbeats 1000000 in
theorem nameable_any (s : ByteArray) (w : World) : Calls Tryd.prog 37 #[.string s] w fun e w' => e = .returned (.bool (nbl s)) ∧ Below w.heap.size w w' := by
  have HCF := hide (contF_any s w)
  obtain ⟨al, hal⟩ : ∃ al, al = s.data.toList.all fun c => nby c.toNat := ⟨_, rfl⟩
  rw [← hal] at HCF
  have HAL := hide hal
  clear hal
  by_cases h0 : s.size = 0
  · have he : s = ⟨#[]⟩ := by
      obtain ⟨⟨l⟩⟩ := s
      have : l.length = 0 := h0
      rw [List.length_eq_zero_iff.1 this]
    have g0 : (s.toList == []) = true := by rw [he, ByteArray.toList_eq]; rfl
    have HK : Hid (nbl s = false) := by show _ = _; unfold nbl; rw [h0]; rfl
    clear h0 he
    go_enter Tryd.func37, Tryd.ntmps37
    go_wp2_with fail
    go_ret
    exact ⟨by rw [HK.out]; rfl, Below.refl _ _⟩
  · have he : s ≠ ⟨#[]⟩ := fun e => h0 (by rw [e]; rfl)
    have g0 : (s.toList == []) = false := by
      have h := str_no he
      rw [show (ByteArray.mk #[]).toList = [] by rw [ByteArray.toList_eq]] at h
      exact h
    by_cases h64 : s.size ≤ 64
    · have g1 : (s.size : Int) ≤ 64 := by omega
      have HK : Hid (nbl s = al) := by
        show _ = _
        unfold nbl
        rw [decide_eq_true (show 0 < s.size by omega), decide_eq_true h64, ← HAL.out]
        rfl
      clear h0 he h64 HAL
      go_enter Tryd.func37, Tryd.ntmps37
      go_wp2_with fail
      refine HCF.out.mono ?_
      rintro e w' ⟨rfl, hb⟩
      have HB := hide hb
      clear hb HCF
      go_wp2_with fail
      go_ret
      exact ⟨by rw [HK.out]; simp, HB.out⟩
    · have g1 : ¬ (s.size : Int) ≤ 64 := by omega
      have HK : Hid (nbl s = false) := by show _ = _; unfold nbl; rw [decide_eq_false h64, Bool.and_false, Bool.false_and]
      clear h0 he h64
      go_enter Tryd.func37, Tryd.ntmps37
      go_wp2_with fail
      go_ret
      exact ⟨by rw [HK.out]; rfl, Below.refl _ _⟩
end
end Go.Proofs.YtnpjmanagecpkaaDoor

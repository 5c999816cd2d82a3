import Derived.Test.YtagkogpjckjobaaGreatDoorJc
import Derived.Test.YtagkogpjckjobaaGreatDoorJa
import Derived.Great.BuildSlice
import Derived.Great.FillDense
import Derived.Laws.AppendOwnNone
import Derived.Deep.RegionHeld
namespace Go.Proofs.YtagkogpjckjobaaGreatDoor
section
open Go.RowKit Go
/-! ### A list with its names' places -/
theorem plc_app (l : List Tp) (t : Tp) (s : ByteArray) : plc (l ++ [t]) s = match plc l s with
    | some i => some i
    | none => if t.n = s then some l.length else none := by
  induction l with
  | nil => simp [plc]
  | cons x r ih =>
    simp only [List.cons_append, plc]
    by_cases h : x.n = s
    · simp [h]
    · rw [if_neg h, if_neg h, ih]
      cases plc r s with
      | some i => rfl
      | none => by_cases h2 : t.n = s <;> simp [h2]
theorem plc_lt {l : List Tp} {s : ByteArray} {i : Nat} (h : plc l s = some i) : ∃ t, l[i]? = some t ∧ t.n = s := by
  induction l generalizing i with
  | nil => cases h
  | cons x r ih =>
    simp only [plc] at h
    by_cases hx : x.n = s
    · rw [if_pos hx] at h
      rw [← Option.some.inj h]
      exact ⟨x, rfl, hx⟩
    · rw [if_neg hx] at h
      cases hr : plc r s with
      | none => rw [hr] at h; cases h
      | some k =>
        rw [hr] at h
        rw [← Option.some.inj h]
        obtain ⟨t, h1, h2⟩ := ih hr
        exact ⟨t, by simpa using h1, h2⟩
def gpl (l : List Tp) : ByteArray → Option Int := fun s => (plc l s).map fun i => (i : Int)
theorem gpl_put (l : List Tp) (t : Tp) (h : plc l t.n = none) : putG (gpl l) t.n (l.length : Nat) = gpl (l ++ [t]) := by
  funext s
  unfold putG gpl
  rw [plc_app]
  by_cases e : s = t.n
  · subst e
    rw [if_pos rfl, h]
    simp
  · rw [if_neg e]
    cases plc l s with
    | some i => rfl
    | none => rw [if_neg (fun h : t.n = s => e h.symm)]
theorem gpl_old (l : List Tp) (t : Tp) (h : plc l t.n ≠ none) : gpl l = gpl (l ++ [t]) := by
  funext s
  unfold gpl
  rw [plc_app]
  cases hs : plc l s with
  | some i => rfl
  | none =>
    have : t.n ≠ s := fun e => h (by rw [e]; exact hs)
    simp [this]
theorem takeP (l : List Tp) (k : Nat) (t : Tp) (h : l[k]? = some t) : l.take (k + 1) = l.take k ++ [t] := by
  have hk := (List.getElem?_eq_some_iff.1 h).1
  rw [List.take_succ_eq_append_getElem hk]
  rw [List.getElem?_eq_getElem hk] at h
  injection h with h
  rw [h]
/-- A book in memory: a list and its names' places. -/
structure Sbok (w : World) (vt : Value) (B : Nat) (l : List Tp) : Prop where
  t : TSl w vt l
  m : ∃ n, Mps w B n (gpl l)
theorem Sbok.next {w w' : World} {vt : Value} {B : Nat} {l : List Tp} (h : Sbok w vt B l) (hb : Below w.heap.size w w') : Sbok w' vt B l := ⟨h.t.mv (keep_below hb), h.m.elim fun n h => ⟨n, h.next hb⟩⟩
theorem end_bk {wx : World} {R : Nat} {c : Array Value} {fn : Func} {p : Tmp} {tmps : Array Value} (hf : fn.results = #[.cell p 55]) (hr : wx.heap[R]? = some (.cells c 55 (0, 0))) (hp : tmps.getD p undef = .pointer (some ⟨R, 0, none⟩)) (hn : c.size = 2 := by rfl) : (results fn tmps).run Tryz.prog wx = .ok (.agg c) wx := by
  exact results_cell_row hf tmps wx R 55 c (0, 0) _ hp hr Tryz.underlying55 rfl (by rw [hn]; kernel_rfl)
theorem infoBk : (Tryz.prog.info? 55).map (·.size) = some 2 := by kernel_rfl
/-- What opened has in hand. -/
structure Opd (w : World) (B i : Nat) (l : List Tp) (wx : World) : Prop where
  r : wx.heap[w.heap.size]? = some (.cells #[.slice none 0 0, .map none] 55 (0, 0))
  m : ∃ n, n ≤ i ∧ Mps wx B n (gpl (l.take i))
  b : Below w.heap.size w wx
theorem Opd.next {w wx wy : World} {B i : Nat} {l : List Tp} (h : Opd w B i l wx) (hb : Below wx.heap.size wx wy) : Opd w B i l wy := ⟨(hb.block _ (blk_lt h.r)).trans h.r, h.m.elim fun n h => ⟨n, h.1, h.2.next hb⟩, h.b.trans (hb.mono h.b.size)⟩
set_option maxRecDepth 1000000 in
set_option maxHeartbeats 1000000 in
theorem opened_any (w : World) (v : Value) (l : List Tp) (hv : TSl w v l) : Calls Tryz.prog 20 #[v] w fun e w' => ∃ B, e = .returned (.agg #[v, .map (some B)]) ∧ Hid (w.heap.size ≤ B ∧ (∃ n, Mps w' B n (gpl l)) ∧ Below w.heap.size w w') := by
  have hmax := hv.max
  obtain ⟨⟨a, cap, rfl, _, hform⟩, _⟩ := hv
  have HF := hide hform
  have hmm := @run_makeMap Tryz.prog
  have e1 : (w.alloc (.cells #[.slice none 0 0, .map none] 55)).heap.size = w.heap.size + 1 := by simp
  have HO : Hid (Opd w (w.heap.size + 1) 0 l ((w.alloc (.cells #[.slice none 0 0, .map none] 55)).alloc (.map #[] 0))) := by
    have h := Mps.made (w.alloc (.cells #[.slice none 0 0, .map none] 55))
    rw [e1] at h
    exact ⟨blk_alloc _ (heap_alloc_new w _), ⟨0, Nat.le_refl _, h⟩, (below_alloc4 w _).trans ((below_alloc4 _ _).mono (below_alloc4 w _).size)⟩
  clear hform e1
  go_enter Tryz.func20, Tryz.ntmps20
  go_wp2_with fail
  generalize (w.alloc (.cells #[.slice none 0 0, .map none] 55)).alloc (.map #[] 0) = w0 at *
  go_loopw [11] (fun vi wx => ∃ i : Nat, i ≤ l.length ∧ vi = .int .i64 (i : Nat) ∧ Hid (Opd w (w.heap.size + 1) i l wx)) (fun vi _ => l.length - (intOf vi).toNat)
  case atStart => exact ⟨0, by omega, rfl, HO⟩
  case round =>
    obtain ⟨i, hi, rfl, HOi⟩ := hrel
    clear HO hmm
    by_cases hlt : i < l.length
    · as_aux_lemma =>
      have g1 : (i : Int) < (l.length : Int) := by omega
      obtain ⟨t, ht⟩ : ∃ t, l[i]? = some t := ⟨l[i], List.getElem?_eq_getElem hlt⟩
      obtain ⟨b, off, rfl, hcc⟩ := HF.out.resolve_left (fun h => by rw [h] at hlt; simp at hlt)
      obtain ⟨c, hc, hcell⟩ := hcc i t ht
      obtain ⟨⟨vf, vc, vw, rfl, ⟨⟨af, cf, rfl, -, -⟩, -⟩, ⟨⟨ac, cc, rfl, -, -⟩, -⟩, ⟨⟨aw, cw, rfl, -, -⟩, -, -⟩⟩, hbd⟩ := hc
      unfold tpc at hcell
      have HCL : Hid (∀ j u, (#[.string t.n, .int .i64 t.k, .int .i64 t.lo, .int .i64 t.hi, .string t.r.n, .bool t.r.z, .slice af t.fs.length cf, .slice ac t.cs.length cc, .slice aw t.ws.length cw] : Array Value)[j]? = some u → wr.cell? ⟨b, off + i * 9 + j, none⟩ = some u) := fun j u hj => keep_below HOi.out.b _ _ (hcell j u hj)
      have HNS := hide hbd.n
      have HTK := hide (takeP l i t ht)
      have HTL : Hid ((l.take i).length = i) := by show _ = _; rw [List.length_take]; omega
      have HO1 := hide (HOi.out.next (below_alloc4 wr (.cells #[.string t.n, .int .i64 t.k, .int .i64 t.lo, .int .i64 t.hi, .string t.r.n, .bool t.r.z, .slice af t.fs.length cf, .slice ac t.cs.length cc, .slice aw t.ws.length cw] 29)))
      obtain ⟨n, hn, hm⟩ := HO1.out.m
      have HM := hide hm
      have HN : Hid (n < 140737488351232) := by show _ < _; omega
      have HIW : Hid ((Lit.int .i64 (i : Nat)).wf = true) := WalkArith.wf_i64 (by omega)
      have HN2 : Hid (n ≤ i) := hn
      clear hcc hcell hbd ht hm hn HF
      have HIT := hide infoTp
      have HAT : Hid (∀ w, (isAgg 29).run Tryz.prog w = .ok true w) := aggTp
      cases hp : plc (l.take i) t.n with
      | none =>
        have hps : gpl (l.take i) t.n = none := by unfold gpl; rw [hp]; rfl
        have HG : Hid (putG (gpl (l.take i)) t.n (i : Nat) = gpl (l.take (i + 1))) := by
          show _ = _
          have h := gpl_put (l.take i) t hp
          rw [HTL.out] at h
          rw [HTK.out]
          exact h
        have HPS := hide hps
        clear hp hps
        go_wp2_with (first
          | (refine wpList_aggAt rfl rfl HIT.out HAT.out b (off + i * 9) #[.string t.n, .int .i64 t.k, .int .i64 t.lo, .int .i64 t.hi, .string t.r.n, .bool t.r.z, .slice af t.fs.length cf, .slice ac t.cs.length cc, .slice aw t.ws.length cw] rfl rfl HCL.out ?_)
          | (refine wpList_lookGo rfl rfl rfl rfl HM.out HNS.out ?_; rw [HPS.out])
          | (refine wpList_putG rfl rfl rfl rfl rfl HM.out HNS.out HIW.out HN.out ?_; intro w1 hm1 hk1))
        go_roundw
        case rel =>
          refine ⟨i + 1, by omega, by go_num, ?_⟩
          rw [HG.out] at hm1
          exact ⟨(hk1.block _ (blk_lt HO1.out.r) (by omega)).trans HO1.out.r, ⟨n + 1, by have := HN2.out; omega, hm1⟩, HO1.out.b.trans (hk1.below HO1.out.b.size (fun q e => by omega))⟩
        case measure => simp [intOf]; omega
      | some k =>
        have hps : gpl (l.take i) t.n = some (k : Int) := by unfold gpl; rw [hp]; rfl
        have HG : Hid (gpl (l.take i) = gpl (l.take (i + 1))) := by
          show _ = _
          rw [HTK.out]
          exact gpl_old (l.take i) t (by rw [hp]; exact fun h => by cases h)
        have HPS := hide hps
        clear hp hps
        go_wp2_with (first
          | (refine wpList_aggAt rfl rfl HIT.out HAT.out b (off + i * 9) #[.string t.n, .int .i64 t.k, .int .i64 t.lo, .int .i64 t.hi, .string t.r.n, .bool t.r.z, .slice af t.fs.length cf, .slice ac t.cs.length cc, .slice aw t.ws.length cw] rfl rfl HCL.out ?_)
          | (refine wpList_lookGo rfl rfl rfl rfl HM.out HNS.out ?_; rw [HPS.out]))
        go_roundw
        case rel =>
          refine ⟨i + 1, by omega, by go_num, ?_⟩
          have hm1 := HM.out
          rw [HG.out] at hm1
          exact ⟨HO1.out.r, ⟨n, by have := HN2.out; omega, hm1⟩, HO1.out.b⟩
        case measure => simp [intOf]; omega
    · as_aux_lemma =>
      have g1 : ¬ (i : Int) < (l.length : Int) := by omega
      have hil : i = l.length := by omega
      have HR := hide HOi.out.r
      have HIB : Hid ((Tryz.prog.info? 55).map (·.size) = some (#[.slice a l.length cap, .map (some (w.heap.size + 1))] : Array Value).size) := infoBk
      have HAB : Hid ((#[.slice a l.length cap, .map (some (w.heap.size + 1))] : Array Value).all (·.oneCell') = true) := by show _ = _; simp [Value.oneCell']
      obtain ⟨n, hn, hm⟩ := HOi.out.m
      rw [hil, List.take_length] at hm
      have HM := hide hm
      clear hil hm hn HF
      go_wp2_with (refine wpList_storeRow rfl rfl w.heap.size #[.slice none 0 0, .map none] #[.slice a l.length cap, .map (some (w.heap.size + 1))] 55 rfl rfl HR.out HIB.out rfl HAB.out ?_)
      have hkr := row_kp wr w.heap.size #[.slice a l.length cap, .map (some (w.heap.size + 1))]
      exact bodyPost_ret (end_bk rfl (row_same HR.out) rfl) rfl ⟨_, rfl, by omega, ⟨n, HM.out.kp hkr (by omega)⟩, HOi.out.b.trans (hkr.below HOi.out.b.size (fun q e => by omega))⟩
end
section
open Go.RowKit Go
theorem end_ct {wx : World} {R : Nat} {c : Array Value} {fn : Func} {p u : Tmp} {tmps : Array Value} {T : TypeId} {fs : Array Field} {x : Value} (hf : fn.results = #[.cell p T, .tmp u]) (hr : wx.heap[R]? = some (.cells c T (0, 0))) (hp : tmps.getD p undef = .pointer (some ⟨R, 0, none⟩)) (hx : tmps.getD u undef = x) (hu : Tryz.prog.underlying T = some (.struct fs)) (hi : (Tryz.prog.info? T).map (·.size) = some c.size) : (results fn tmps).run Tryz.prog wx = .ok (.tuple #[.agg c, x]) wx := by
  have h1 := run_loadVar_row (P := Tryz.prog) wx R T T c (0, 0) _ hr hu rfl hi
  refine (results_cell_tmp hf _ _ _).trans ?_
  rw [hp, hx]
  simp [asAddr, h1, Result.andThen]
theorem otp_tpi (w : World) (s : ByteArray) (hs : s.size ≤ 140737488351232) : Tpi w (otp s) #[.string s, .int .i64 0, .int .i64 0, .int .i64 0, .string ⟨#[]⟩, .bool false, .slice none 0 0, .slice none 0 0, .slice none 0 0] := ⟨⟨.slice none 0 0, .slice none 0 0, .slice none 0 0, rfl, GSl.nil, GSl.nil, ⟨⟨none, 0, rfl, ⟨Nat.le_refl _, fun _ => rfl⟩, .inl rfl⟩, Nat.zero_le _, fun _ h => by cases h⟩⟩, ⟨hs, by show (ByteArray.mk #[]).size ≤ _; decide, ⟨by show (-9223372036854775808 : Int) ≤ 0; decide, by show (0 : Int) ≤ _; decide⟩, ⟨by show (-9223372036854775808 : Int) ≤ 0; decide, by show (0 : Int) ≤ _; decide⟩, ⟨by show (-9223372036854775808 : Int) ≤ 0; decide, by show (0 : Int) ≤ _; decide⟩⟩⟩
theorem ztp_tpi (w : World) : Tpi w ztp #[.string ⟨#[]⟩, .int .i64 0, .int .i64 0, .int .i64 0, .string ⟨#[]⟩, .bool false, .slice none 0 0, .slice none 0 0, .slice none 0 0] := otp_tpi w ⟨#[]⟩ (by decide)
/-- Where a result stands that is a type. -/
structure Fin2 (w wx : World) (vt : Value) (B : Nat) : Prop where
  a : wx.heap[w.heap.size]? = some (.cells #[vt, .map (some B)] 55 (0, 0))
  r : wx.heap[w.heap.size + 1]? = some (.cells #[.string ⟨#[]⟩, .int .i64 0, .int .i64 0, .int .i64 0, .string ⟨#[]⟩, .bool false, .slice none 0 0, .slice none 0 0, .slice none 0 0] 29 (0, 0))
  b : Below w.heap.size w wx
theorem Fin2.start (w : World) (vt : Value) (B : Nat) : Fin2 w ((w.alloc (.cells #[vt, .map (some B)] 55)).alloc (.cells #[.string ⟨#[]⟩, .int .i64 0, .int .i64 0, .int .i64 0, .string ⟨#[]⟩, .bool false, .slice none 0 0, .slice none 0 0, .slice none 0 0] 29)) vt B := by
  have h1 := heap_alloc_new w (.cells #[vt, .map (some B)] 55)
  have e1 : (w.alloc (.cells #[vt, .map (some B)] 55)).heap.size = w.heap.size + 1 := by simp
  have h2 := heap_alloc_new (w.alloc (.cells #[vt, .map (some B)] 55)) (.cells #[.string ⟨#[]⟩, .int .i64 0, .int .i64 0, .int .i64 0, .string ⟨#[]⟩, .bool false, .slice none 0 0, .slice none 0 0, .slice none 0 0] 29)
  rw [e1] at h2
  exact ⟨blk_alloc _ h1, h2, (below_alloc4 w _).trans ((below_alloc4 _ _).mono (below_alloc4 w _).size)⟩
theorem Fin2.next {w wx wy : World} {vt : Value} {B : Nat} (h : Fin2 w wx vt B) (hb : Below wx.heap.size wx wy) : Fin2 w wy vt B := ⟨(hb.block _ (blk_lt h.a)).trans h.a, (hb.block _ (blk_lt h.r)).trans h.r, h.b.trans (hb.mono h.b.size)⟩
theorem Fin2.set {w wx : World} {vt : Value} {B : Nat} (h : Fin2 w wx vt B) (c : Array Value) : (wx.setRow (w.heap.size + 1) c).heap[w.heap.size + 1]? = some (.cells c 29 (0, 0)) ∧ Below w.heap.size w (wx.setRow (w.heap.size + 1) c) := ⟨row_same h.r, h.b.trans ((row_kp wx _ c).below h.b.size (fun q e => by omega))⟩
/-- What find tells. -/
def FndP (w : World) (l : List Tp) (s : ByteArray) (e : Ending) (w' : World) : Prop := ∃ c, e = .returned (.tuple #[.agg c, .bool (fnd l s).2]) ∧ Tpi w' (fnd l s).1 c ∧ Below w.heap.size w w'
theorem FndP.mk {w w' : World} {l : List Tp} {s : ByteArray} {c : Array Value} {t : Tp} {b : Bool} (h : fnd l s = (t, b)) (hc : Tpi w' t c) (hb : Below w.heap.size w w') : FndP w l s (.returned (.tuple #[.agg c, .bool b])) w' := ⟨c, by rw [h], by rw [h]; exact hc, hb⟩
set_option maxRecDepth 1000000 in
set_option maxHeartbeats 1000000 in
theorem find_any (w : World) (hT : Otb w) (vt : Value) (B : Nat) (l : List Tp) (hB : Sbok w vt B l) (s : ByteArray) (hs : s.size ≤ 140737488351232) : Calls Tryz.prog 30 #[.agg #[vt, .map (some B)], .string s] w (FndP w l s) := by
  have HT := hide hT
  have HB := hide hB
  have HS := hide hs
  have hmax := hB.t.max
  obtain ⟨⟨⟨a, cap, rfl, _, hform⟩, _⟩, _⟩ := hB
  have HF := hide hform
  have HW := hide (Fin2.start w (.slice a l.length cap) B)
  have HB1 := hide (HB.out.next HW.out.b)
  obtain ⟨n, hm⟩ := HB1.out.m
  have HM := hide hm
  have HIT : Hid (∀ c : Array Value, c.size = 9 → (Tryz.prog.info? 29).map (·.size) = some c.size) := fun c h => by rw [h]; exact infoTp
  have HAT : Hid (∀ w, (isAgg 29).run Tryz.prog w = .ok true w) := aggTp
  have HI9 := hide infoTp
  clear hform hT hs hm
  go_enter Tryz.func30, Tryz.ntmps30
  cases hp : plc l s with
  | some i => as_aux_lemma =>
    have hps : gpl l s = some (i : Int) := by unfold gpl; rw [hp]; rfl
    have HPS := hide hps
    obtain ⟨t, ht, htn⟩ := plc_lt hp
    have hil : i < l.length := (List.getElem?_eq_some_iff.1 ht).1
    have HFN : Hid (fnd l s = (t, true)) := by show _ = _; unfold fnd; rw [hp]; simp only [List.getD, ht]; rfl
    have g1 : (i : Int) < (l.length : Int) := by omega
    obtain ⟨b, off, rfl, hcc⟩ := HF.out.resolve_left (fun h => by rw [h] at hil; simp at hil)
    obtain ⟨c, hc, hcell⟩ := hcc i t ht
    have HC := hide hc
    obtain ⟨⟨vf, vc, vw, rfl, ⟨⟨af, cf, rfl, -, -⟩, -⟩, ⟨⟨ac, cc, rfl, -, -⟩, -⟩, ⟨⟨aw, cw, rfl, -, -⟩, -, -⟩⟩, hbd⟩ := hc
    unfold tpc at hcell HC
    have HCL : Hid (∀ wx, Below w.heap.size w wx → ∀ j u, (#[.string t.n, .int .i64 t.k, .int .i64 t.lo, .int .i64 t.hi, .string t.r.n, .bool t.r.z, .slice af t.fs.length cf, .slice ac t.cs.length cc, .slice aw t.ws.length cw] : Array Value)[j]? = some u → wx.cell? ⟨b, off + i * 9 + j, none⟩ = some u) := fun wx hx j u hj => keep_below hx _ _ (hcell j u hj)
    have HA1 : Hid ((#[.string t.n, .int .i64 t.k, .int .i64 t.lo, .int .i64 t.hi, .string t.r.n, .bool t.r.z, .slice af t.fs.length cf, .slice ac t.cs.length cc, .slice aw t.ws.length cw] : Array Value).all (·.oneCell') = true) := by show _ = _; simp [Value.oneCell']
    have q0 := blk_cell (j := 0) HW.out.a rfl
    have q1 := blk_cell (j := 1) HW.out.a rfl
    have HR := hide HW.out.r
    clear hcc hcell hbd ht htn hp hps hil HF
    go_wp2_with (first
      | (refine wpList_lookGo rfl rfl rfl rfl HM.out HS.out ?_; rw [HPS.out])
      | (refine wpList_aggAt rfl rfl HI9.out HAT.out b (off + i * 9) #[.string t.n, .int .i64 t.k, .int .i64 t.lo, .int .i64 t.hi, .string t.r.n, .bool t.r.z, .slice af t.fs.length cf, .slice ac t.cs.length cc, .slice aw t.ws.length cw] rfl rfl (HCL.out _ HW.out.b) ?_)
      | (refine wpList_storeRow rfl rfl (w.heap.size + 1) #[.string ⟨#[]⟩, .int .i64 0, .int .i64 0, .int .i64 0, .string ⟨#[]⟩, .bool false, .slice none 0 0, .slice none 0 0, .slice none 0 0] #[.string t.n, .int .i64 t.k, .int .i64 t.lo, .int .i64 t.hi, .string t.r.n, .bool t.r.z, .slice af t.fs.length cf, .slice ac t.cs.length cc, .slice aw t.ws.length cw] 29 rfl rfl HR.out (HIT.out _ rfl) rfl HA1.out ?_))
    have hs2 := HW.out.set #[.string t.n, .int .i64 t.k, .int .i64 t.lo, .int .i64 t.hi, .string t.r.n, .bool t.r.z, .slice af t.fs.length cf, .slice ac t.cs.length cc, .slice aw t.ws.length cw]
    exact bodyPost_ret (end_ct rfl hs2.1 rfl rfl Tryz.underlying29 infoTp) rfl (FndP.mk HFN.out (HC.out.move (keep_below hs2.2)) hs2.2)
  | none =>
    have hps : gpl l s = none := by unfold gpl; rw [hp]; rfl
    have HPS := hide hps
    have HPN := hide hp
    clear hp hps
    have q0 := blk_cell (j := 0) HW.out.a rfl
    have q1 := blk_cell (j := 1) HW.out.a rfl
    go_wp2_with (refine wpList_lookGo rfl rfl rfl rfl HM.out HS.out ?_; rw [HPS.out])
    generalize (w.alloc (.cells #[.slice a l.length cap, .map (some B)] 55)).alloc (.cells #[.string ⟨#[]⟩, .int .i64 0, .int .i64 0, .int .i64 0, .string ⟨#[]⟩, .bool false, .slice none 0 0, .slice none 0 0, .slice none 0 0] 29) = w1 at *
    refine (ownKind_any s w1 (HT.out.next (keep_below HW.out.b))).mono ?_
    rintro e w2 ⟨rfl, hb⟩
    have HW2 := hide (HW.out.next hb)
    have HR := hide HW2.out.r
    clear hb HM HB1
    cases ho : ownK s with
    | some k => as_aux_lemma =>
      have HFN : Hid (fnd l s = (otp s, true)) := by show _ = _; unfold fnd; rw [HPN.out]; simp only; rw [ho]; rfl
      clear ho
      simp only [Option.getD_some, Option.isSome_some]
      have HA1 : Hid ((#[.string s, .int .i64 0, .int .i64 0, .int .i64 0, .string ⟨#[]⟩, .bool false, .slice none 0 0, .slice none 0 0, .slice none 0 0] : Array Value).all (·.oneCell') = true) := by show _ = _; simp [Value.oneCell']
      go_wp2_with (refine wpList_storeRow rfl rfl (w.heap.size + 1) #[.string ⟨#[]⟩, .int .i64 0, .int .i64 0, .int .i64 0, .string ⟨#[]⟩, .bool false, .slice none 0 0, .slice none 0 0, .slice none 0 0] #[.string s, .int .i64 0, .int .i64 0, .int .i64 0, .string ⟨#[]⟩, .bool false, .slice none 0 0, .slice none 0 0, .slice none 0 0] 29 rfl rfl HR.out (HIT.out _ rfl) rfl HA1.out ?_)
      have hs2 := HW2.out.set #[.string s, .int .i64 0, .int .i64 0, .int .i64 0, .string ⟨#[]⟩, .bool false, .slice none 0 0, .slice none 0 0, .slice none 0 0]
      exact bodyPost_ret (end_ct rfl hs2.1 rfl rfl Tryz.underlying29 infoTp) rfl (FndP.mk HFN.out (otp_tpi _ s HS.out) hs2.2)
    | none => as_aux_lemma =>
      have HFN : Hid (fnd l s = (ztp, false)) := by show _ = _; unfold fnd; rw [HPN.out]; simp only; rw [ho]; rfl
      clear ho
      simp only [Option.getD_none, Option.isSome_none]
      have HA1 : Hid ((#[.string ⟨#[]⟩, .int .i64 0, .int .i64 0, .int .i64 0, .string ⟨#[]⟩, .bool false, .slice none 0 0, .slice none 0 0, .slice none 0 0] : Array Value).all (·.oneCell') = true) := by show _ = _; simp [Value.oneCell']
      go_wp2_with (refine wpList_storeRow rfl rfl (w.heap.size + 1) #[.string ⟨#[]⟩, .int .i64 0, .int .i64 0, .int .i64 0, .string ⟨#[]⟩, .bool false, .slice none 0 0, .slice none 0 0, .slice none 0 0] #[.string ⟨#[]⟩, .int .i64 0, .int .i64 0, .int .i64 0, .string ⟨#[]⟩, .bool false, .slice none 0 0, .slice none 0 0, .slice none 0 0] 29 rfl rfl HR.out (HIT.out _ rfl) rfl HA1.out ?_)
      have hs2 := HW2.out.set #[.string ⟨#[]⟩, .int .i64 0, .int .i64 0, .int .i64 0, .string ⟨#[]⟩, .bool false, .slice none 0 0, .slice none 0 0, .slice none 0 0]
      exact bodyPost_ret (end_ct rfl hs2.1 rfl rfl Tryz.underlying29 infoTp) rfl (FndP.mk HFN.out (ztp_tpi _) hs2.2)
end
section
open Go.RowKit Go
theorem any_list : nAny.toList = [97, 110, 121] := by rw [ByteArray.toList_eq]; rfl
theorem null_list : nNull.toList = [110, 117, 108, 108] := by rw [ByteArray.toList_eq]; rfl
theorem infoEn : (Tryz.prog.info? 93).map (·.size) = some 2 := by kernel_rfl
theorem aggBk (w : World) : (isAgg 55).run Tryz.prog w = .ok true w := by
  unfold isAgg
  rw [Sem.run_bind, run_underlying Tryz.underlying55 w]
  simp
theorem flw_size {l : List Tp} (hl : ∀ t ∈ l, t.r.n.size ≤ 140737488351232) (s : ByteArray) : (fnd l s).1.r.n.size ≤ 140737488351232 := by
  unfold fnd
  cases h : plc l s with
  | some i =>
    obtain ⟨t, ht, _⟩ := plc_lt h
    simp only [List.getD, ht]
    exact hl t (List.mem_of_getElem? ht)
  | none =>
    simp only
    split
    · show (ByteArray.mk #[]).size ≤ _; decide
    · show (ByteArray.mk #[]).size ≤ _; decide
/-- What follow has in hand. -/
structure Flw (w : World) (vt : Value) (B : Nat) (l : List Tp) (wx : World) : Prop where
  a : wx.heap[w.heap.size]? = some (.cells #[vt, .map (some B)] 55 (0, 0))
  r : wx.heap[w.heap.size + 1]? = some (.cells #[.string ⟨#[]⟩, .bool false] 93 (0, 0))
  b : Below w.heap.size w wx
theorem Flw.start (w : World) (vt : Value) (B : Nat) (l : List Tp) : Flw w vt B l ((w.alloc (.cells #[vt, .map (some B)] 55)).alloc (.cells #[.string ⟨#[]⟩, .bool false] 93)) := by
  have h1 := heap_alloc_new w (.cells #[vt, .map (some B)] 55)
  have e1 : (w.alloc (.cells #[vt, .map (some B)] 55)).heap.size = w.heap.size + 1 := by simp
  have h2 := heap_alloc_new (w.alloc (.cells #[vt, .map (some B)] 55)) (.cells #[.string ⟨#[]⟩, .bool false] 93)
  rw [e1] at h2
  exact ⟨blk_alloc _ h1, h2, (below_alloc4 w _).trans ((below_alloc4 _ _).mono (below_alloc4 w _).size)⟩
theorem Flw.next {w wx wy : World} {vt : Value} {B : Nat} {l : List Tp} (h : Flw w vt B l wx) (hb : Below wx.heap.size wx wy) : Flw w vt B l wy := ⟨(hb.block _ (blk_lt h.a)).trans h.a, (hb.block _ (blk_lt h.r)).trans h.r, h.b.trans (hb.mono h.b.size)⟩
theorem Flw.set {w wx : World} {vt : Value} {B : Nat} {l : List Tp} (h : Flw w vt B l wx) (c : Array Value) : (wx.setRow (w.heap.size + 1) c).heap[w.heap.size + 1]? = some (.cells c 93 (0, 0)) ∧ Below w.heap.size w (wx.setRow (w.heap.size + 1) c) := ⟨row_same h.r, h.b.trans ((row_kp wx _ c).below h.b.size (fun q e => by omega))⟩
theorem Flw.cells {w wx : World} {vt : Value} {B : Nat} {l : List Tp} (h : Flw w vt B l wx) : ∀ j u, (#[vt, .map (some B)] : Array Value)[j]? = some u → wx.cell? ⟨w.heap.size, 0 + j, none⟩ = some u := fun j u hu => by rw [Nat.zero_add]; exact blk_cell h.a hu
set_option maxRecDepth 1000000 in
set_option maxHeartbeats 1000000 in
theorem follow_any (w : World) (hT : Otb w) (vt : Value) (B : Nat) (l : List Tp) (hB : Sbok w vt B l) (hl : ∀ t ∈ l, t.r.n.size ≤ 140737488351232) (s : ByteArray) (hs : s.size ≤ 140737488351232) : Calls Tryz.prog 39 #[.agg #[vt, .map (some B)], .string s] w fun e w' => e = .returned (.agg #[.string (flo l s).1, .bool (flo l s).2]) ∧ Below w.heap.size w w' := by
  have HT := hide hT
  have HB := hide hB
  have HS := hide hs
  have HL := hide hl
  have hmax := hB.t.max
  obtain ⟨⟨⟨a, cap, rfl, _, _⟩, _⟩, _⟩ := hB
  have HW := hide (Flw.start w (.slice a l.length cap) B l)
  have HIB := hide infoBk
  have HAB : Hid (∀ w, (isAgg 55).run Tryz.prog w = .ok true w) := aggBk
  have HIE : Hid (∀ c : Array Value, c.size = 2 → (Tryz.prog.info? 93).map (·.size) = some c.size) := fun c h => by rw [h]; exact infoEn
  clear hT hs hl
  go_enter Tryz.func39, Tryz.ntmps39
  have q0 := blk_cell (j := 0) HW.out.a rfl
  have e1 : IntKind.i64.wrap ((l.length : Int) + 1) = ((l.length + 1 : Nat) : Int) := by rw [IntKind.wrap_i64]; omega
  go_wp2_with fail
  generalize (w.alloc (.cells #[.slice a l.length cap, .map (some B)] 55)).alloc (.cells #[.string ⟨#[]⟩, .bool false] 93) = w1 at *
  clear q0 e1
  go_loopw [1, 5, 12] (fun vs vz vi wx => ∃ (i : Nat) (s' : ByteArray) (z : Bool), i ≤ l.length + 1 ∧ vs = .string s' ∧ vz = .bool z ∧ vi = .int .i64 (i : Nat) ∧ Hid (s'.size ≤ 140737488351232) ∧ Hid (flw l (l.length + 1 - i) s' z = flo l s) ∧ Hid (Flw w (.slice a l.length cap) B l wx)) (fun _ _ vi _ => l.length + 1 - (intOf vi).toNat)
  case atStart => exact ⟨0, s, false, by omega, rfl, rfl, rfl, HS, rfl, HW⟩
  case round =>
    obtain ⟨i, s', z, hi, rfl, rfl, rfl, HSS, HFL, HWx⟩ := hrel
    clear HW
    by_cases hlt : i < l.length + 1
    · have g1 : (i : Int) < (l.length : Int) + 1 := by omega
      have HE : Hid (flw l (l.length + 1 - i) s' z = if (fnd l s').1.k ≠ 1 then (s', z || decide (s' = nAny) || decide (s' = nNull)) else flw l (l.length + 1 - (i + 1)) (fnd l s').1.r.n (z || (fnd l s').1.r.z)) := by
        show _ = _
        rw [show l.length + 1 - i = (l.length + 1 - (i + 1)) + 1 by omega]
        rfl
      rw [HFL.out] at HE
      have HZ2 := hide (flw_size HL.out s')
      have HCB := hide HWx.out.cells
      clear HFL
      go_wp2_with (refine wpList_aggAt rfl rfl HIB.out HAB.out w.heap.size 0 #[.slice a l.length cap, .map (some B)] rfl rfl HCB.out ?_)
      refine (find_any wr (HT.out.next (keep_below HWx.out.b)) _ B l (HB.out.next HWx.out.b) s' HSS.out).mono ?_
      rintro e w2 ⟨c, rfl, hc, hb⟩
      replace HWx := hide (HWx.out.next hb)
      clear hb HCB
      generalize (fnd l s').2 = fb at *
      generalize (fnd l s').1 = T at *
      obtain ⟨⟨vf, vc, vw, rfl, ⟨⟨af, cf, rfl, -, -⟩, -⟩, ⟨⟨ac, cc, rfl, -, -⟩, -⟩, ⟨⟨aw, cw, rfl, -, -⟩, -, -⟩⟩, hbd⟩ := hc
      unfold tpc
      have HX := hide (HWx.out.next (below_alloc4 w2 (.cells #[.string T.n, .int .i64 T.k, .int .i64 T.lo, .int .i64 T.hi, .string T.r.n, .bool T.r.z, .slice af T.fs.length cf, .slice ac T.cs.length cc, .slice aw T.ws.length cw] 29)))
      have HR := hide HX.out.r
      clear hbd HWx
      by_cases hk : T.k = 1
      · as_aux_lemma =>
        have gk : (T.k != 1) = false := by rw [hk]; rfl
        have HE2 : Hid (flw l (l.length + 1 - (i + 1)) T.r.n (z || T.r.z) = flo l s) := by
          have h := HE.out
          rw [if_neg (fun h => h hk)] at h
          exact h.symm
        clear HE hk
        cases z with
        | true =>
          go_wp2_with fail
          go_quiet (fail)
          go_wp2_with fail
          go_roundw
          case rel => exact ⟨i + 1, T.r.n, true, by omega, rfl, rfl, by go_num, HZ2, HE2, HX.out.next (_root_.Go.below_drewN (Below.refl _ _) _)⟩
          case measure => simp [intOf]; omega
        | false =>
          go_wp2_with fail
          go_quiet (fail)
          go_wp2_with fail
          go_roundw
          case rel => exact ⟨i + 1, T.r.n, T.r.z, by omega, rfl, rfl, by go_num, HZ2, (by have h := HE2.out; rw [Bool.false_or] at h; exact h), HX.out.next (_root_.Go.below_drewN (Below.refl _ _) _)⟩
          case measure => simp [intOf]; omega
      · as_aux_lemma =>
        have gk : (T.k != 1) = true := by simp [hk]
        rw [if_pos hk] at HE
        clear hk
        cases z with
        | true =>
          have HA1 : Hid ((#[.string s', .bool true] : Array Value).all (·.oneCell') = true) := by show _ = _; simp [Value.oneCell']
          go_wp2_with (refine wpList_storeRow rfl rfl (w.heap.size + 1) #[.string ⟨#[]⟩, .bool false] #[.string s', .bool true] 93 rfl rfl HR.out (HIE.out _ rfl) rfl HA1.out ?_)
          have hs2 := HX.out.set #[.string s', .bool true]
          exact bodyPost_ret (results_cell_row rfl _ _ _ _ _ _ _ rfl hs2.1 Tryz.underlying93 rfl infoEn) rfl ⟨by rw [HE.out]; rfl, hs2.2⟩
        | false =>
          by_cases ha : s' = nAny
          · have ga : (s'.toList == nAny.toList) = true := by rw [ha]; exact str_yes _
            have HA1 : Hid ((#[.string s', .bool true] : Array Value).all (·.oneCell') = true) := by show _ = _; simp [Value.oneCell']
            have HEE : Hid (flo l s = (s', true)) := by show _ = _; rw [HE.out, decide_eq_true ha]; rfl
            clear HE ha
            rw [any_list] at ga
            go_wp2_with (refine wpList_storeRow rfl rfl (w.heap.size + 1) #[.string ⟨#[]⟩, .bool false] #[.string s', .bool true] 93 rfl rfl HR.out (HIE.out _ rfl) rfl HA1.out ?_)
            have hs2 := HX.out.set #[.string s', .bool true]
            exact bodyPost_ret (results_cell_row rfl _ _ _ _ _ _ _ rfl hs2.1 Tryz.underlying93 rfl infoEn) rfl ⟨by rw [HEE.out], hs2.2⟩
          · have ga : (s'.toList == nAny.toList) = false := str_no ha
            obtain ⟨nb, hnb⟩ : ∃ nb, nb = decide (s' = nNull) := ⟨_, rfl⟩
            have gn : (s'.toList == nNull.toList) = nb := by
              by_cases hn : s' = nNull
              · rw [hnb, decide_eq_true hn, hn]; exact str_yes _
              · rw [hnb, decide_eq_false hn]; exact str_no hn
            have HEE : Hid (flo l s = (s', nb)) := by show _ = _; rw [HE.out, decide_eq_false ha, hnb]; rfl
            have HA1 : Hid ((#[.string s', .bool nb] : Array Value).all (·.oneCell') = true) := by show _ = _; simp [Value.oneCell']
            clear HE ha hnb
            rw [any_list] at ga
            rw [null_list] at gn
            go_wp2_with (refine wpList_storeRow rfl rfl (w.heap.size + 1) #[.string ⟨#[]⟩, .bool false] #[.string s', .bool nb] 93 rfl rfl HR.out (HIE.out _ rfl) rfl HA1.out ?_)
            have hs2 := HX.out.set #[.string s', .bool nb]
            exact bodyPost_ret (results_cell_row rfl _ _ _ _ _ _ _ rfl hs2.1 Tryz.underlying93 rfl infoEn) rfl ⟨by rw [HEE.out], hs2.2⟩
    · as_aux_lemma =>
      have g1 : ¬ (i : Int) < (l.length : Int) + 1 := by omega
      have HE : Hid (flo l s = (⟨#[]⟩, false)) := by
        show _ = _
        rw [← HFL.out, show l.length + 1 - i = 0 by omega]
        rfl
      have HR := hide HWx.out.r
      have HA1 : Hid ((#[.string ⟨#[]⟩, .bool false] : Array Value).all (·.oneCell') = true) := by show _ = _; simp [Value.oneCell']
      clear HFL
      go_wp2_with (refine wpList_storeRow rfl rfl (w.heap.size + 1) #[.string ⟨#[]⟩, .bool false] #[.string ⟨#[]⟩, .bool false] 93 rfl rfl HR.out (HIE.out _ rfl) rfl HA1.out ?_)
      have hs2 := HWx.out.set #[.string ⟨#[]⟩, .bool false]
      exact bodyPost_ret (results_cell_row rfl _ _ _ _ _ _ _ rfl hs2.1 Tryz.underlying93 rfl infoEn) rfl ⟨by rw [HE.out], hs2.2⟩
end
section
open Go.RowKit Go
/-! ### Rows of structs that a call makes -/
def gfl (l : List (Array Value)) : List Value := l.flatMap (·.toList)
theorem gfl_app (a b : List (Array Value)) : gfl (a ++ b) = gfl a ++ gfl b := by simp [gfl]
theorem gfl_len {k : Nat} : ∀ {l : List (Array Value)}, (∀ c ∈ l, c.size = k) → (gfl l).length = l.length * k
  | [], _ => by simp [gfl]
  | c :: r, h => by
    have ih := gfl_len (l := r) (fun x hx => h x (List.mem_cons_of_mem _ hx))
    have h0 := h c (List.mem_cons_self ..)
    have e : gfl (c :: r) = c.toList ++ gfl r := by simp [gfl]
    rw [e, List.length_append, ih, List.length_cons, Nat.succ_mul, Array.length_toList, h0, Nat.add_comm]
theorem gfl_get {n : Nat} : ∀ {l : List (Array Value)}, (∀ c ∈ l, c.size = n) → ∀ (k : Nat) (c : Array Value) (j : Nat) (u : Value), l[k]? = some c → c[j]? = some u → (gfl l)[k * n + j]? = some u
  | [], _, k, c, j, u, hk, _ => by cases hk
  | x :: r, h, 0, c, j, u, hk, hj => by
    have e : gfl (x :: r) = x.toList ++ gfl r := by simp [gfl]
    have hx : x = c := by simpa using hk
    subst hx
    rw [e, Nat.zero_mul, Nat.zero_add, List.getElem?_append_left (by have := (Array.getElem?_eq_some_iff.1 hj).1; simpa using this)]
    simpa using hj
  | x :: r, h, k + 1, c, j, u, hk, hj => by
    have e : gfl (x :: r) = x.toList ++ gfl r := by simp [gfl]
    have h0 := h x (List.mem_cons_self ..)
    have ih := gfl_get (fun y hy => h y (List.mem_cons_of_mem _ hy)) k c j u (by simpa using hk) hj
    rw [e, List.getElem?_append_right (by rw [Array.length_toList, h0, Nat.succ_mul]; omega), Array.length_toList, h0, Nat.succ_mul, show k * n + n + j - n = k * n + j by omega]
    exact ih
theorem addr0 (g j : Nat) : (⟨g, 0, none⟩ : Addr).add j = ⟨g, j, none⟩ := by unfold Addr.add; split <;> simp_all
theorem addrO (g o j : Nat) : (⟨g, o, none⟩ : Addr).add j = ⟨g, o + j, none⟩ := by unfold Addr.add; split <;> simp_all
/-- A type's row of the table. -/
theorem info_ex {T : TypeId} {z : Value} {k by' : Nat} (h : (Tryz.prog.info? T).map (fun i => (i.zero, i.size, i.bytes)) = some (some z, k, by')) : ∃ i, Tryz.prog.info? T = some i ∧ i.zero = some z ∧ i.size = k ∧ i.bytes = by' := by
  cases hi : Tryz.prog.info? T with
  | none => rw [hi] at h; cases h
  | some i =>
    rw [hi] at h
    injection h with h
    injection h with h1 h2
    injection h2 with h2 h3
    exact ⟨i, rfl, h1, h2, h3⟩
/-- append of one struct. -/
theorem append_gB {ops : Array Oper} {rest : List Oper} {o : Oper} {a : Act} {Q : Exit → Act → World → Prop} {w : World} {S T : TypeId} {z : Value} {k by' : Nat} (hI : (Tryz.prog.info? T).map (fun i => (i.zero, i.size, i.bytes)) = some (some z, k, by')) (hS : Tryz.prog.underlying S = some (.slice T)) (hzs : z.cells.size = k) (hk : 0 < k) (hgd : o.guard = none) {s x : Operand}
    (ho : o.op = .call { callee := .builtin .append, args := #[s, x], argTypes := #[S, S] }) {B : Nat} {v : Value} {L : List (Array Value)} (hs : a.eval s = v) (hown : w.ownsRow B T k v L.length (gfl L))
    {g : Nat} {c : Array Value} (hx : a.eval x = .slice (some ⟨g, 0, none⟩) 1 1) (hg : w.heap[g]? = some (.cells c T (0, 0))) (hc : c.size = k) (h1 : ∀ u ∈ c.toList, u.oneCell' = true) (hlen : L.length + 1 ≤ 140737488355328) (hb : (L.length + 1) * by' ≤ 140737488355328) (hbase : B ≤ w.heap.size)
    (h : ∀ v' w', w'.ownsRow B T k v' (L.length + 1) (gfl (L ++ [c])) → w.grownBy w' v.ownBlock → (v'.ownBlock = v.ownBlock ∨ v'.ownBlock = some w.heap.size) → wpList Tryz.prog ops Q rest (a.put o.dst v') w') : wpList Tryz.prog ops Q (o :: rest) a w := by
  obtain ⟨i, hi, hz0, hz1, hz2⟩ := info_ex hI
  refine wpList_append_own_at w hgd s x S ho B T i z k by' hS hi hz0 hz1 hz2 hzs hk v L.length (gfl L) hs hown ⟨g, 0, none⟩ 1 1 c.toList hx (by simp [hc]) (fun j u hu => ?_) h1 (by unfold maxLen; omega) hb hbase fun v' w' h1 h2 _ h4 => h v' w' (by rw [gfl_app]; simpa [gfl] using h1) h2 h4
  rw [addr0]
  exact blk_cell hg (by simpa using hu)
theorem append_g {ops : Array Oper} {rest : List Oper} {o : Oper} {a : Act} {Q : Exit → Act → World → Prop} {w : World} {S T : TypeId} {z : Value} {k by' : Nat} (hI : (Tryz.prog.info? T).map (fun i => (i.zero, i.size, i.bytes)) = some (some z, k, by')) (hS : Tryz.prog.underlying S = some (.slice T)) (hzs : z.cells.size = k) (hk : 0 < k) (hby : by' ≤ 1000) (hgd : o.guard = none) {s x : Operand}
    (ho : o.op = .call { callee := .builtin .append, args := #[s, x], argTypes := #[S, S] }) {B : Nat} {v : Value} {L : List (Array Value)} (hs : a.eval s = v) (hown : w.ownsRow B T k v L.length (gfl L))
    {g : Nat} {c : Array Value} (hx : a.eval x = .slice (some ⟨g, 0, none⟩) 1 1) (hg : w.heap[g]? = some (.cells c T (0, 0))) (hc : c.size = k) (h1 : ∀ u ∈ c.toList, u.oneCell' = true) (hlen : L.length ≤ 1000000) (hbase : B ≤ w.heap.size)
    (h : ∀ v' w', w'.ownsRow B T k v' (L.length + 1) (gfl (L ++ [c])) → w.grownBy w' v.ownBlock → (v'.ownBlock = v.ownBlock ∨ v'.ownBlock = some w.heap.size) → wpList Tryz.prog ops Q rest (a.put o.dst v') w') : wpList Tryz.prog ops Q (o :: rest) a w := by
  have hb : (L.length + 1) * by' ≤ 140737488355328 := by
    have : (L.length + 1) * by' ≤ 1000001 * 1000 := Nat.mul_le_mul (by omega) hby
    omega
  exact append_gB hI hS hzs hk hgd ho hs hown hx hg hc h1 (by omega) hb hbase h
theorem own_formG {w : World} {B : Nat} {e : TypeId} {k : Nat} {v : Value} {n : Nat} {xs : List Value} (h : w.ownsRow B e k v n xs) : ∃ a cap, v = .slice a n cap ∧ (0 < n → ∃ g, a = some ⟨g, 0, none⟩) := by
  rcases h.2 with ⟨rfl, h0⟩ | ⟨g, cap, cur, rfl, _⟩
  · exact ⟨none, 0, by rw [h0], fun hp => by omega⟩
  · exact ⟨_, cap, rfl, fun _ => ⟨g, rfl⟩⟩
theorem own_elt {w : World} {B g n m cap k i : Nat} {T : TypeId} {L : List (Array Value)} {c : Array Value} (h : w.ownsRow B T k (.slice (some ⟨g, 0, none⟩) m cap) n (gfl L)) (hl : ∀ c ∈ L, c.size = k) (hi : L[i]? = some c) : ∀ j u, c[j]? = some u → w.cell? ⟨g, 0 + i * k + j, none⟩ = some u := fun j u hu => by
  have := h.cells (g := g) rfl (i * k + j) u (gfl_get hl i c j u hi hu)
  rw [addr0] at this
  rw [Nat.zero_add]
  exact this
/-- What a call made reads as a row. -/
theorem own_gsl {α : Type} {k : Nat} {P : World → α → Array Value → Prop} {w : World} {B : Nat} {T : TypeId} {v : Value} {L : List (Array Value)} {xs : List α} (h : w.ownsRow B T k v L.length (gfl L)) (hl : ∀ c ∈ L, c.size = k) (hn : L.length = xs.length) (hm : xs.length ≤ 140737488351232) (hp : ∀ (i : Nat) (x : α) (c : Array Value), xs[i]? = some x → L[i]? = some c → P w x c) : GSl k P w v xs := by
  rw [hn] at h
  refine ⟨?_, hm⟩
  rcases id h.2 with ⟨rfl, h0⟩ | ⟨g, cap, cur, rfl, h1, h2, h3, _⟩
  · have : xs = [] := List.length_eq_zero_iff.1 h0
    subst this
    exact ⟨none, 0, rfl, ⟨Nat.le_refl _, fun _ => rfl⟩, .inl rfl⟩
  · refine ⟨_, cap, rfl, ⟨?_, fun e => by cases e⟩, .inr ⟨g, 0, rfl, fun i x hi => ?_⟩⟩
    · omega
    · obtain ⟨hlt, _⟩ := List.getElem?_eq_some_iff.1 hi
      have hiL : L[i]? = some (L[i]'(by omega)) := List.getElem?_eq_getElem (by omega)
      exact ⟨_, hp i x _ hi hiL, own_elt h hl hiL⟩
theorem row1 {ops : Array Oper} {rest : List Oper} {o : Oper} {a : Act} {w : World} {Q : Exit → Act → World → Prop} {S T : TypeId} {z : Value} {k by' : Nat} (hI : (Tryz.prog.info? T).map (fun i => (i.zero, i.size, i.bytes)) = some (some z, k, by')) (hS : Tryz.prog.underlying S = some (.slice T)) (hk : 0 < k) (hk2 : k ≤ 100) (hzs : z.cells.size = k) (hg : o.guard = none) {x : Operand} (ho : o.op = .buildSlice S 1 #[(0, x)]) {c : Array Value} (hx : a.eval x = .agg c) (hc : c.size = k)
    (h : wpList Tryz.prog ops Q rest (a.put o.dst (.slice (some ⟨w.heap.size, 0, none⟩) 1 1)) (w.alloc (.cells c T))) : wpList Tryz.prog ops Q (o :: rest) a w := by
  obtain ⟨i, hi, hz, hs, _⟩ := info_ex hI
  refine wpList_buildSlice hg S T 1 _ ho c i _ hS hi hz (by rw [hs]; omega) (by rw [hs]; omega) ?_ h
  rw [hs]
  have e : (Array.map (fun (i, x) => (i, a.eval x)) #[((0 : Nat), x)]).toList = (([.agg c] : List Value).zipIdx 0).map fun x => (x.2, x.1) := by
    simp [hx]
  rw [e]
  generalize hX : (Array.range (1 * k)).map (z.cells[· % z.cells.size]!) = X
  have hXs : X.size = k := by rw [← hX]; simp
  obtain ⟨r, hr, hsz, hk3⟩ := Great.fill_dense (s := k) hk [.agg c] 0 X (by
    intro v hv
    rw [List.mem_singleton.1 hv]
    exact hc) (by rw [hXs]; simp)
  have e2 : r = c := by
    apply Array.ext_getElem?
    intro j
    rw [hk3 j]
    by_cases hj : j < k
    · rw [if_pos ⟨by omega, by simpa using hj⟩, Nat.div_eq_of_lt hj, Nat.mod_eq_of_lt hj]
      rfl
    · rw [if_neg (by simp; omega), Array.getElem?_eq_none (by omega), Array.getElem?_eq_none (by omega)]
  rw [hr, e2]
end
section
open Go.RowKit Go
/-! ### The reference's small questions -/
/-! ### Place -/
end
section
open Go.RowKit Go
/-! ### BuiltIn, Named -/
def bltn : List ByteArray := [⟨#[97, 110, 121]⟩, ⟨#[98, 111, 111, 108]⟩, ⟨#[98, 121, 116, 101, 115]⟩, ⟨#[102, 108, 111, 97, 116]⟩, ⟨#[105, 110, 116]⟩, ⟨#[108, 105, 110, 107]⟩, ⟨#[110, 117, 108, 108]⟩, ⟨#[115, 105, 110, 103, 108, 101]⟩, ⟨#[116, 101, 120, 116]⟩]
theorem bltn_own : bltn.all (fun s => (ownK s).isSome) = true := by decide
theorem own_bltn : owns.all (fun p => memb bltn p.1) = true := by decide
theorem memb_bltn (s : ByteArray) : memb bltn s = (ownK s).isSome := by
  rw [Bool.eq_iff_iff, memb_iff]
  constructor
  · intro h
    exact List.all_eq_true.1 bltn_own s h
  · intro h
    unfold ownK at h
    rw [Option.isSome_map] at h
    obtain ⟨p, hp⟩ := Option.isSome_iff_exists.1 h
    have h1 := List.mem_of_find?_eq_some hp
    have h2 : p.1 = s := by simpa using List.find?_some hp
    rw [← h2]
    exact memb_iff.1 (List.all_eq_true.1 own_bltn p h1)
end
section
open Go.RowKit Go
/-! ### Follow, the reference's -/
def fwr (l : List Tp) : Nat → ByteArray → Bool → ByteArray × Bool × Bool
  | 0, _, _ => (⟨#[]⟩, false, false)
  | k + 1, s, z => match plc l s with
    | none => (s, z || (decide (s = nAny) || decide (s = nNull)), true)
    | some i => if (l.getD i ztp).k = 1 then fwr l k (l.getD i ztp).r.n (z || (l.getD i ztp).r.z) else (s, z, true)
def flr (l : List Tp) (s : ByteArray) : ByteArray × Bool × Bool := fwr l (l.length + 1) s false
theorem fwr_none {l : List Tp} {k : Nat} {s : ByteArray} {z : Bool} (h : plc l s = none) : fwr l (k + 1) s z = (s, z || (decide (s = nAny) || decide (s = nNull)), true) := by rw [fwr, h]
theorem fwr_end {l : List Tp} {k i : Nat} {s : ByteArray} {z : Bool} {t : Tp} (h : plc l s = some i) (ht : l[i]? = some t) (hk : t.k ≠ 1) : fwr l (k + 1) s z = (s, z, true) := by
  rw [fwr, h]
  simp only [List.getD, ht, Option.getD_some]
  rw [if_neg hk]
theorem fwr_on {l : List Tp} {k i : Nat} {s : ByteArray} {z : Bool} {t : Tp} (h : plc l s = some i) (ht : l[i]? = some t) (hk : t.k = 1) : fwr l (k + 1) s z = fwr l k t.r.n (z || t.r.z) := by
  rw [fwr, h]
  simp only [List.getD, ht, Option.getD_some]
  rw [if_pos hk]
theorem strB (s t : ByteArray) : (s.toList == t.toList) = decide (s = t) := by
  by_cases h : s = t
  · subst h
    rw [str_yes, decide_eq_true rfl]
  · rw [str_no h, decide_eq_false h]
end
section
open Go.RowKit Go
/-! ### only, the reference's -/
end
section
open Go.RowKit Go
/-! ### lean, the reference's -/
theorem eqrf (w : World) (s t : ByteArray) (x y : Bool) : (Op.equalIn 10000 24 (.agg #[.string s, .bool x]) (.agg #[.string t, .bool y])).run Tryz.prog w = .ok (decide (s = t) && (x == y)) w := by
  have u4 := Tryz.underlying4
  have u9 := Tryz.underlying9
  have a4 := Tryz.isAgg4
  have a9 := Tryz.isAgg9
  have z4 := Tryz.sizeOf4
  have z9 := Tryz.sizeOf9
  have hS : Tryz.prog.underlying 24 = some (.struct (Tryz.prog.fieldsOf 24)) := by kernel_rfl
  have hp : Tryz.prog.stoodInHeld 24 = false := by kernel_rfl
  have hs := strB s t
  rw [show (10000 : Nat) = 9999 + 1 from rfl, run_equalIn_agg w 9999 24 _ _ hS hp]
  simp only [Program.fieldsOf, Tryz.underlying24]
  go_simp
  by_cases h : s = t <;> cases x <;> cases y <;> simp [h]
theorem eqgR : Tryz.prog.eqGuardType Tryz.prog.depth 24 = false := by kernel_rfl
theorem wpList_eqrf {ops : Array Oper} {rest : List Oper} {o : Oper} {a : Act} {Q : Exit → Act → World → Prop} {w : World} {x y : Operand} {T2 : TypeId} (hgd : Region.wanted o (yielded ops a.tmps) = true) (ho : o.op = .binOp .eql 24 x y T2) (s t : ByteArray) (p q : Bool) (r : Bool)
    (hx : a.eval x = .agg #[.string s, .bool p]) (hy : a.eval y = .agg #[.string t, .bool q]) (hr : (decide (s = t) && (p == q)) = r) (h : wpList Tryz.prog ops Q rest (a.put o.dst (.bool r)) w) : wpList Tryz.prog ops Q (o :: rest) a w := by
  refine wpList_ex hgd ?_ h
  unfold execOp
  simp only [ho, Sem.run_bind, hx, hy, run_eqGuard_agg w _ 24 x y _ _ eqgR, run_eql_struct, eqrf w s t p q, hr, Result.andThen_ok]
  rfl
end
section
open Go.RowKit Go
/-! ### Good UTF-8 by code points -/
end
section
open Go.RowKit Go
/-! ### What the first look leaves -/
theorem aln_0 {l : List Tp} {i : Nat} {t : Tp} (h : aln l i t = 0) : (!nbl t.n || (ownK t.n).isSome || decide ((plc l t.n).getD 0 < i)) = false ∧ tdy t = true ∧ ((rfs t).any fun r => !(fnd l r.n).2) = false := by
  unfold aln at h
  split at h
  · exact absurd h (by decide)
  · rename_i h1
    split at h
    · exact absurd h (by decide)
    · rename_i h2
      split at h
      · exact absurd h (by decide)
      · split at h
        · exact absurd h (by decide)
        · rename_i h4
          exact ⟨Bool.eq_false_iff.2 h1, by simpa using h2, Bool.eq_false_iff.2 h4⟩
structure Fst (l : List Tp) : Prop where
  own : ∀ t ∈ l, ownK t.n = none
  nam : ∀ t ∈ l, nbl t.n = true
  tdy : ∀ t ∈ l, tdy t = true
  ref : ∀ t ∈ l, ∀ r ∈ rfs t, (fnd l r.n).2 = true
theorem aln_fst {l : List Tp} (h : ∀ i t, l[i]? = some t → aln l i t = 0) : Fst l := by
  have key : ∀ t ∈ l, ∃ i, l[i]? = some t := fun t ht => by
    obtain ⟨i, hi, e⟩ := List.getElem_of_mem ht
    exact ⟨i, by rw [List.getElem?_eq_getElem hi, e]⟩
  refine ⟨fun t ht => ?_, fun t ht => ?_, fun t ht => ?_, fun t ht r hr => ?_⟩
  · obtain ⟨i, hi⟩ := key t ht
    have h1 := (aln_0 (h i t hi)).1
    rw [Bool.or_eq_false_iff, Bool.or_eq_false_iff] at h1
    have h2 := h1.1.2
    cases hk : ownK t.n with
    | none => rfl
    | some k => rw [hk] at h2; cases h2
  · obtain ⟨i, hi⟩ := key t ht
    have h1 := (aln_0 (h i t hi)).1
    rw [Bool.or_eq_false_iff, Bool.or_eq_false_iff] at h1
    simpa using h1.1.1
  · obtain ⟨i, hi⟩ := key t ht
    exact (aln_0 (h i t hi)).2.1
  · obtain ⟨i, hi⟩ := key t ht
    have h1 := (aln_0 (h i t hi)).2.2
    rw [← Bool.not_eq_true, List.any_eq_true] at h1
    cases hk : (fnd l r.n).2 with
    | true => rfl
    | false => exact absurd ⟨r, hr, by rw [hk]; rfl⟩ h1
theorem own_ne {s : ByteArray} (h : ownK s = none) : s ≠ nAny ∧ s ≠ nNull := ⟨fun e => by subst e; exact absurd h (by decide), fun e => by subst e; exact absurd h (by decide)⟩
theorem fnd_some {l : List Tp} {s : ByteArray} {i : Nat} {t : Tp} (hp : plc l s = some i) (ht : l[i]? = some t) : fnd l s = (t, true) := by
  unfold fnd
  rw [hp]
  simp [List.getD, ht]
theorem fnd_none_k {l : List Tp} {s : ByteArray} (hp : plc l s = none) : (fnd l s).1.k = 0 := by
  unfold fnd
  rw [hp]
  simp only
  split <;> rfl
theorem fnd_none_2 {l : List Tp} {s : ByteArray} (hp : plc l s = none) : (fnd l s).2 = (ownK s).isSome := by
  unfold fnd
  rw [hp]
  simp only
  split
  · rename_i h; exact h.symm
  · rename_i h; exact (Bool.eq_false_iff.2 h).symm
theorem fnd_none_1 {l : List Tp} {s : ByteArray} (hp : plc l s = none) (h : (ownK s).isSome = true) : (fnd l s).1 = otp s := by
  unfold fnd
  rw [hp]
  simp only
  rw [if_pos h]
/-! ### Follow -/
theorem fwr_flw {l : List Tp} (h : ∀ t ∈ l, ownK t.n = none) : ∀ (k : Nat) (s : ByteArray) (z : Bool), flw l k s z = ((fwr l k s z).1, (fwr l k s z).2.1)
  | 0, _, _ => rfl
  | k + 1, s, z => by
    cases hp : plc l s with
    | none =>
      rw [fwr_none hp, flw, fnd_none_k hp, if_pos (by decide), Bool.or_assoc]
    | some i =>
      obtain ⟨t, ht, hn⟩ := plc_lt hp
      rw [flw, fnd_some hp ht]
      by_cases hk : t.k = 1
      · rw [fwr_on hp ht hk, if_neg (fun e => e hk)]
        exact fwr_flw h k _ _
      · rw [fwr_end hp ht hk, if_pos hk]
        obtain ⟨h1, h2⟩ := own_ne (h t (List.mem_of_getElem? ht))
        rw [hn] at h1 h2
        rw [decide_eq_false h1, decide_eq_false h2, Bool.or_false, Bool.or_false]
theorem flo_flr {l : List Tp} (h : Fst l) (s : ByteArray) : flo l s = ((flr l s).1, (flr l s).2.1) := fwr_flw h.own _ _ _
theorem fwr_no {l : List Tp} : ∀ (k : Nat) (s : ByteArray) (z : Bool), (fwr l k s z).2.2 = false → fwr l k s z = (⟨#[]⟩, false, false)
  | 0, _, _, _ => rfl
  | k + 1, s, z, h => by
    cases hp : plc l s with
    | none => rw [fwr_none hp] at h; cases h
    | some i =>
      obtain ⟨t, ht, hn⟩ := plc_lt hp
      by_cases hk : t.k = 1
      · rw [fwr_on hp ht hk] at h ⊢
        exact fwr_no k _ _ h
      · rw [fwr_end hp ht hk] at h
        cases h
/-- What a name comes to. -/
structure Fen (l : List Tp) (s : ByteArray) (z : Bool) : Prop where
  known : (fnd l s).2 = true
  kind : (fnd l s).1.k ≠ 1
  null : plc l s = none → z = false → s ≠ nAny ∧ s ≠ nNull
theorem fwr_fen {l : List Tp} (hr : ∀ t ∈ l, t.k = 1 → (fnd l t.r.n).2 = true) : ∀ (k : Nat) (s : ByteArray) (z : Bool), (fnd l s).2 = true → (fwr l k s z).2.2 = true → Fen l (fwr l k s z).1 (fwr l k s z).2.1
  | 0, _, _, _, h => by cases h
  | k + 1, s, z, hs, h => by
    cases hp : plc l s with
    | none =>
      rw [fwr_none hp]
      refine ⟨hs, by rw [fnd_none_k hp]; decide, fun _ hz => ?_⟩
      rw [Bool.or_eq_false_iff, Bool.or_eq_false_iff] at hz
      exact ⟨of_decide_eq_false hz.2.1, of_decide_eq_false hz.2.2⟩
    | some i =>
      obtain ⟨t, ht, hn⟩ := plc_lt hp
      by_cases hk : t.k = 1
      · rw [fwr_on hp ht hk] at h ⊢
        exact fwr_fen hr k _ _ (hr t (List.mem_of_getElem? ht) hk) h
      · rw [fwr_end hp ht hk]
        exact ⟨hs, by rw [fnd_some hp ht]; exact hk, fun h2 => by rw [hp] at h2; cases h2⟩
theorem Fst.name {l : List Tp} (h : Fst l) : ∀ t ∈ l, t.k = 1 → (fnd l t.r.n).2 = true := fun t ht hk => h.ref t ht t.r (by unfold rfs; rw [if_pos (.inl hk)]; simp)
theorem flr_fen {l : List Tp} (h : Fst l) {s : ByteArray} (hs : (fnd l s).2 = true) (he : (flr l s).2.2 = true) : Fen l (flr l s).1 (flr l s).2.1 := fwr_fen h.name _ _ _ hs he
theorem fnd_own {l : List Tp} {i : Nat} {t : Tp} (ht : l[i]? = some t) : (fnd l t.n).2 = true := by
  cases hp : plc l t.n with
  | none =>
    exfalso
    have : ∀ (l : List Tp) (i : Nat), l[i]? = some t → plc l t.n ≠ none := by
      intro l
      induction l with
      | nil => intro i h; cases h
      | cons u r ih =>
        intro i h
        unfold plc
        split
        · simp
        · rename_i hu
          rcases i with _ | i
          · have e : u = t := by simpa using h
            exact absurd (by rw [e]) hu
          · have := ih i (by simpa using h)
            simpa using this
    exact this l i ht hp
  | some j =>
    obtain ⟨u, hu, _⟩ := plc_lt hp
    rw [fnd_some hp hu]
theorem fnd_empty {l : List Tp} (h : Fst l) : (fnd l ⟨#[]⟩).2 = false := by
  cases hp : plc l ⟨#[]⟩ with
  | none => rw [fnd_none_2 hp]; decide
  | some i =>
    obtain ⟨t, ht, hn⟩ := plc_lt hp
    have := h.nam t (List.mem_of_getElem? ht)
    rw [hn] at this
    exact absurd this (by decide)
theorem rng_flr {l : List Tp} (h : Fst l) {i : Nat} {t : Tp} (ht : l[i]? = some t) : rng l t = if (flr l t.n).2.2 then 0 else 117 := by
  unfold rng
  rw [flo_flr h]
  cases he : (flr l t.n).2.2 with
  | false =>
    have := fwr_no _ _ _ he
    rw [show flr l t.n = (⟨#[]⟩, false, false) from this]
    rw [if_pos rfl]
    rfl
  | true =>
    rw [if_neg, if_pos rfl]
    intro e
    have h1 := (flr_fen h (fnd_own ht) he).known
    have e1 : (flr l t.n).1 = ⟨#[]⟩ := (Prod.mk.inj e).1
    rw [e1, fnd_empty h] at h1
    cases h1
/-! ### The kinds of cases -/
/-! ### Rows of texts -/
/-! ### Fields -/
/-! ### One type by itself -/
end
section
open Go.RowKit Go
set_option maxRecDepth 1000000 in
set_option maxHeartbeats 1000000 in
theorem kind_any (w : World) (hT : Otb w) (t : Tp) (c : Array Value) (hc : Tpi w t c) : Calls Tryz.prog 78 #[.agg c] w fun e w' => e = .returned (.int .i64 (knd t : Nat)) ∧ Below w.heap.size w w' := by
  have HT := hide hT
  obtain ⟨⟨vf, vc, vw, rfl, ⟨⟨af, cf, rfl, -, hff⟩, hfm⟩, ⟨⟨ac, cc, rfl, -, hcf⟩, hcm⟩, ⟨⟨aw, cw, rfl, -, -⟩, hwm, -⟩⟩, hbd⟩ := hc
  unfold tpc
  have hb0 := below_alloc4 w (.cells #[.string t.n, .int .i64 t.k, .int .i64 t.lo, .int .i64 t.hi, .string t.r.n, .bool t.r.z, .slice af t.fs.length cf, .slice ac t.cs.length cc, .slice aw t.ws.length cw] 29)
  have HB0 := hide hb0
  clear hff hfm hcf hcm hwm hT hb0
  go_enter Tryz.func78, Tryz.ntmps78
  by_cases h2 : t.k = 2
  · as_aux_lemma =>
    have g2 : (t.k == 2) = true := beq_iff_eq.2 h2
    have HK : Hid (knd t = 3) := by show _ = _; unfold knd; rw [if_pos h2]
    clear h2
    go_wp2_with fail
    go_ret
    exact ⟨by rw [HK.out]; rfl, HB0.out⟩
  have g2 : (t.k == 2) = false := beq_eq_false_iff_ne.2 h2
  by_cases h3 : t.k = 3
  · as_aux_lemma =>
    have g3 : (t.k == 3) = true := beq_iff_eq.2 h3
    have HK : Hid (knd t = 8) := by show _ = _; unfold knd; rw [if_neg h2, if_pos (.inl h3)]
    clear h2 h3
    go_wp2_with fail
    go_ret
    exact ⟨by rw [HK.out]; rfl, HB0.out⟩
  have g3 : (t.k == 3) = false := beq_eq_false_iff_ne.2 h3
  by_cases h6 : t.k = 6
  · as_aux_lemma =>
    have g6 : (t.k == 6) = true := beq_iff_eq.2 h6
    have HK : Hid (knd t = 8) := by show _ = _; unfold knd; rw [if_neg h2, if_pos (.inr h6)]
    clear h2 h3 h6
    go_wp2_with fail
    go_ret
    exact ⟨by rw [HK.out]; rfl, HB0.out⟩
  have g6 : (t.k == 6) = false := beq_eq_false_iff_ne.2 h6
  by_cases h4 : t.k = 4
  · as_aux_lemma =>
    have g4 : (t.k == 4) = true := beq_iff_eq.2 h4
    have HK : Hid (knd t = 9) := by show _ = _; unfold knd; rw [if_neg h2, if_neg (fun h => h.elim h3 h6), if_pos (.inl h4)]
    clear h2 h3 h6 h4
    go_wp2_with fail
    go_ret
    exact ⟨by rw [HK.out]; rfl, HB0.out⟩
  have g4 : (t.k == 4) = false := beq_eq_false_iff_ne.2 h4
  by_cases h5 : t.k = 5
  · as_aux_lemma =>
    have g5 : (t.k == 5) = true := beq_iff_eq.2 h5
    have HK : Hid (knd t = 9) := by show _ = _; unfold knd; rw [if_neg h2, if_neg (fun h => h.elim h3 h6), if_pos (.inr (.inl h5))]
    clear h2 h3 h6 h4 h5
    go_wp2_with fail
    go_ret
    exact ⟨by rw [HK.out]; rfl, HB0.out⟩
  have g5 : (t.k == 5) = false := beq_eq_false_iff_ne.2 h5
  by_cases h7 : t.k = 7
  · as_aux_lemma =>
    have g7 : (t.k == 7) = true := beq_iff_eq.2 h7
    have HK : Hid (knd t = 9) := by show _ = _; unfold knd; rw [if_neg h2, if_neg (fun h => h.elim h3 h6), if_pos (.inr (.inr h7))]
    clear h2 h3 h6 h4 h5 h7
    go_wp2_with fail
    go_ret
    exact ⟨by rw [HK.out]; rfl, HB0.out⟩
  have g7 : (t.k == 7) = false := beq_eq_false_iff_ne.2 h7
  by_cases h9 : t.k = 9
  · as_aux_lemma =>
    have g9 : (t.k == 9) = true := beq_iff_eq.2 h9
    have HK : Hid (knd t = 5) := by show _ = _; unfold knd; rw [if_neg h2, if_neg (fun h => h.elim h3 h6), if_neg (fun h => h.elim h4 (fun h => h.elim h5 h7)), if_pos h9]
    clear h2 h3 h6 h4 h5 h7 h9
    go_wp2_with fail
    go_ret
    exact ⟨by rw [HK.out]; rfl, HB0.out⟩
  have g9 : (t.k == 9) = false := beq_eq_false_iff_ne.2 h9
  have HK : Hid (knd t = (ownK t.n).getD 0) := by show _ = _; unfold knd; rw [if_neg h2, if_neg (fun h => h.elim h3 h6), if_neg (fun h => h.elim h4 (fun h => h.elim h5 h7)), if_neg h9]
  clear h2 h3 h6 h4 h5 h7 h9
  go_wp2_with fail
  refine (ownKind_any t.n _ (HT.out.next (keep_below HB0.out))).mono ?_
  rintro e w1 ⟨rfl, hb⟩
  have HB1 : Hid (Below w.heap.size w w1) := HB0.out.trans (hb.mono HB0.out.size)
  clear hb
  go_wp2_with fail
  go_ret
  exact ⟨by rw [HK.out]; rfl, HB1.out⟩
set_option maxRecDepth 1000000 in
set_option maxHeartbeats 1000000 in
theorem taken_any (w : World) (hT : Otb w) (vt : Value) (B : Nat) (l : List Tp) (hB : Sbok w vt B l) (s : ByteArray) (hs : s.size ≤ 140737488351232) (i : Nat) : Calls Tryz.prog 43 #[.agg #[vt, .map (some B)], .string s, .int .i64 (i : Nat)] w fun e w' => e = .returned (.bool ((ownK s).isSome || decide ((plc l s).getD 0 < i))) ∧ Below w.heap.size w w' := by
  have HT := hide hT
  have HB := hide hB
  have HS := hide hs
  obtain ⟨⟨⟨a, cap, rfl, _, _⟩, _⟩, _⟩ := hB
  have HA := hide (heap_alloc_new w (.cells #[.slice a l.length cap, .map (some B)] 55))
  have HB0 := hide (below_alloc4 w (.cells #[.slice a l.length cap, .map (some B)] 55))
  clear hT hs
  go_enter Tryz.func43, Tryz.ntmps43
  go_wp2_with fail
  generalize w.alloc (.cells #[.slice a l.length cap, .map (some B)] 55) = w1 at *
  refine (ownKind_any s w1 (HT.out.next (keep_below HB0.out))).mono ?_
  rintro e w2 ⟨rfl, hb⟩
  have HB2 : Hid (Below w.heap.size w w2) := HB0.out.trans (hb.mono HB0.out.size)
  have q1 : w2.cell? ⟨w.heap.size, 1, none⟩ = some (.map (some B)) := blk_cell (j := 1) ((hb.block _ (blk_lt HA.out)).trans HA.out) rfl
  obtain ⟨n, hm⟩ := (HB.out.next HB2.out).m
  have HM := hide hm
  clear hb hm
  cases ho : ownK s with
  | some k => as_aux_lemma =>
    have HO := hide ho
    clear ho
    simp only [Option.getD_some, Option.isSome_some]
    go_wp2_with fail
    go_ret
    exact ⟨by rw [HO.out]; rfl, HB2.out⟩
  | none => as_aux_lemma =>
    have HO := hide ho
    clear ho
    simp only [Option.getD_none, Option.isSome_none]
    have HG : Hid ((gpl l s).getD 0 = (((plc l s).getD 0 : Nat) : Int)) := by show _ = _; unfold gpl; cases plc l s <;> rfl
    obtain ⟨p, hp⟩ : ∃ p, p = (plc l s).getD 0 := ⟨_, rfl⟩
    rw [← hp] at HG
    have HP := hide hp
    clear hp
    go_wp2_with (refine wpList_lookG rfl rfl rfl rfl HM.out HS.out ?_; rw [HG.out])
    go_ret
    exact ⟨by rw [HO.out, ← HP.out]; simp, HB2.out⟩
set_option maxRecDepth 1000000 in
set_option maxHeartbeats 1000000 in
theorem lost_any (w : World) (hT : Otb w) (vt : Value) (B : Nat) (l : List Tp) (hB : Sbok w vt B l) (r : Rf) (hs : r.n.size ≤ 140737488351232) : Calls Tryz.prog 47 #[.agg #[vt, .map (some B)], .agg #[.string r.n, .bool r.z]] w fun e w' => e = .returned (.bool (!(fnd l r.n).2)) ∧ Below w.heap.size w w' := by
  have HT := hide hT
  have HB := hide hB
  have HS := hide hs
  obtain ⟨⟨⟨a, cap, rfl, _, _⟩, _⟩, _⟩ := hB
  have h1 := heap_alloc_new w (.cells #[.slice a l.length cap, .map (some B)] 55)
  have HB0 : Hid (Below w.heap.size w ((w.alloc (.cells #[.slice a l.length cap, .map (some B)] 55)).alloc (.cells #[.string r.n, .bool r.z] 24))) := (below_alloc4 w _).trans ((below_alloc4 _ _).mono (below_alloc4 w _).size)
  have HCB : Hid (∀ j u, (#[.slice a l.length cap, .map (some B)] : Array Value)[j]? = some u → ((w.alloc (.cells #[.slice a l.length cap, .map (some B)] 55)).alloc (.cells #[.string r.n, .bool r.z] 24)).cell? ⟨w.heap.size, 0 + j, none⟩ = some u) := fun j u hu => by rw [Nat.zero_add]; exact blk_cell (blk_alloc _ h1) hu
  have HIB := hide infoBk
  have HAB : Hid (∀ w, (isAgg 55).run Tryz.prog w = .ok true w) := aggBk
  clear hT hs h1
  go_enter Tryz.func47, Tryz.ntmps47
  go_wp2_with (refine wpList_aggAt rfl rfl HIB.out HAB.out w.heap.size 0 #[.slice a l.length cap, .map (some B)] rfl rfl HCB.out ?_)
  generalize (w.alloc (.cells #[.slice a l.length cap, .map (some B)] 55)).alloc (.cells #[.string r.n, .bool r.z] 24) = w1 at *
  refine (find_any w1 (HT.out.next (keep_below HB0.out)) _ B l (HB.out.next HB0.out) r.n HS.out).mono ?_
  rintro e w2 ⟨c, rfl, hc, hb⟩
  have HB2 : Hid (Below w.heap.size w w2) := HB0.out.trans (hb.mono HB0.out.size)
  clear hb
  generalize (fnd l r.n).1 = t at *
  obtain ⟨⟨vf, vc, vw, rfl, ⟨⟨af, cf, rfl, -, hff⟩, hfm⟩, ⟨⟨ac, cc, rfl, -, hcf⟩, hcm⟩, ⟨⟨aw, cw, rfl, -, -⟩, hwm, -⟩⟩, hbd⟩ := hc
  unfold tpc
  have HB3 : Hid (Below w.heap.size w (w2.alloc (.cells #[.string t.n, .int .i64 t.k, .int .i64 t.lo, .int .i64 t.hi, .string t.r.n, .bool t.r.z, .slice af t.fs.length cf, .slice ac t.cs.length cc, .slice aw t.ws.length cw] 29))) := HB2.out.trans ((below_alloc4 w2 _).mono HB2.out.size)
  clear hff hfm hcf hcm hwm
  go_wp2_with fail
  go_ret
  exact ⟨rfl, HB3.out⟩
theorem end_field (w : World) (s : ByteArray) (z : Bool) : (Instr.field 93 (.agg #[.string s, .bool z]) 1).run Tryz.prog w = .ok (.bool z) w := by kernel_rfl
theorem end_field0 (w : World) (s : ByteArray) (z : Bool) : (Instr.field 93 (.agg #[.string s, .bool z]) 0).run Tryz.prog w = .ok (.string s) w := by kernel_rfl
theorem exec_null {o : Oper} {a : Act} {x : Operand} {s : ByteArray} {z : Bool} {w : World} (ho : o.op = .field 93 x 1) (hx : a.eval x = .agg #[.string s, .bool z]) : (execOp a.eval o).run Tryz.prog w = .ok (.value (.bool z)) w := by
  unfold execOp
  have hr := end_field w s z
  simp only [ho, Sem.run_bind, hx, hr, Result.andThen_ok]
  rfl
theorem exec_name {o : Oper} {a : Act} {x : Operand} {s : ByteArray} {z : Bool} {w : World} (ho : o.op = .field 93 x 0) (hx : a.eval x = .agg #[.string s, .bool z]) : (execOp a.eval o).run Tryz.prog w = .ok (.value (.string s)) w := by
  unfold execOp
  have hr := end_field0 w s z
  simp only [ho, Sem.run_bind, hx, hr, Result.andThen_ok]
  rfl
set_option maxRecDepth 1000000 in
set_option maxHeartbeats 1000000 in
theorem nullTwice_any (w : World) (hT : Otb w) (vt : Value) (B : Nat) (l : List Tp) (hB : Sbok w vt B l) (hl : ∀ t ∈ l, t.r.n.size ≤ 140737488351232) (r : Rf) (hs : r.n.size ≤ 140737488351232) : Calls Tryz.prog 50 #[.agg #[vt, .map (some B)], .agg #[.string r.n, .bool r.z]] w fun e w' => e = .returned (.bool (r.z && (flo l r.n).2)) ∧ Below w.heap.size w w' := by
  have HT := hide hT
  have HB := hide hB
  have HS := hide hs
  have HL := hide hl
  obtain ⟨rn, rz⟩ := r
  simp only at HS ⊢
  obtain ⟨⟨⟨a, cap, rfl, _, _⟩, _⟩, _⟩ := hB
  have h1 := heap_alloc_new w (.cells #[.slice a l.length cap, .map (some B)] 55)
  have HB0 : Hid (∀ z, Below w.heap.size w ((w.alloc (.cells #[.slice a l.length cap, .map (some B)] 55)).alloc (.cells #[.string rn, .bool z] 24))) := fun z => (below_alloc4 w _).trans ((below_alloc4 _ _).mono (below_alloc4 w _).size)
  have HCB : Hid (∀ z j u, (#[.slice a l.length cap, .map (some B)] : Array Value)[j]? = some u → ((w.alloc (.cells #[.slice a l.length cap, .map (some B)] 55)).alloc (.cells #[.string rn, .bool z] 24)).cell? ⟨w.heap.size, 0 + j, none⟩ = some u) := fun z j u hu => by rw [Nat.zero_add]; exact blk_cell (blk_alloc _ h1) hu
  have HIB := hide infoBk
  have HAB : Hid (∀ w, (isAgg 55).run Tryz.prog w = .ok true w) := aggBk
  clear hT hs h1 hl
  cases rz with
  | false => as_aux_lemma =>
    go_enter Tryz.func50, Tryz.ntmps50
    go_wp2_with fail
    go_ret
    exact ⟨rfl, HB0.out false⟩
  | true => as_aux_lemma =>
    go_enter Tryz.func50, Tryz.ntmps50
    replace HB0 := hide (HB0.out true)
    replace HCB := hide (HCB.out true)
    go_wp2_with (refine wpList_aggAt rfl rfl HIB.out HAB.out w.heap.size 0 #[.slice a l.length cap, .map (some B)] rfl rfl HCB.out ?_)
    generalize (w.alloc (.cells #[.slice a l.length cap, .map (some B)] 55)).alloc (.cells #[.string rn, .bool true] 24) = w1 at *
    refine (follow_any w1 (HT.out.next (keep_below HB0.out)) _ B l (HB.out.next HB0.out) HL.out rn HS.out).mono ?_
    rintro e w2 ⟨rfl, hb⟩
    have HB2 : Hid (Below w.heap.size w w2) := HB0.out.trans (hb.mono HB0.out.size)
    clear hb
    go_wp2_with (refine wpList_ex rfl (exec_null rfl rfl) ?_)
    go_ret
    exact ⟨by rw [Bool.true_and]; rfl, HB2.out⟩
end
section
open Go.RowKit Go
theorem infoRfs : (Tryz.prog.info? 24).map (fun i => (i.zero, i.size, i.bytes)) = some (some (.agg #[.string ⟨#[]⟩, .bool false]), 2, 24) := by kernel_rfl
theorem kp_grown {w w' : World} {row : Option Nat} (h : w.grownBy w' row) : Kp (fun q => row = some q) w w' := ⟨h.os, h.tape, h.output, h.size, fun k hk hne => h.block k hk (fun e => hne e.symm)⟩
theorem sub_cell {w : World} {g T : Nat} {c d : Array Value} {o : Nat} (h : w.heap[g]? = some (.cells c T (0, 0))) (hd : ∀ j u, d[j]? = some u → c[o + j]? = some u) : ∀ j u, d[j]? = some u → w.cell? ⟨g, o + j, none⟩ = some u := fun j u hj => blk_cell h (hd j u hj)
/-- What references has in hand. -/
structure Rfp (w : World) (c : Array Value) (v : Value) (L : List Rf) (wx : World) : Prop where
  a : wx.heap[w.heap.size]? = some (.cells c 29 (0, 0))
  o : wx.ownsRow (w.heap.size + 1) 24 2 v (L.map rfc).length (gfl (L.map rfc))
  b : Below w.heap.size w wx
theorem Rfp.next {w wx wy : World} {c : Array Value} {v : Value} {L : List Rf} (h : Rfp w c v L wx) (hb : Below wx.heap.size wx wy) : Rfp w c v L wy := ⟨(hb.block _ (blk_lt h.a)).trans h.a, (Kp.of_below (S := fun _ => False) hb).owns h.o (fun _ _ e => e), h.b.trans (hb.mono h.b.size)⟩
theorem Rfp.app {w wx wy : World} {c : Array Value} {v v' : Value} {L : List Rf} {r : Rf} (h : Rfp w c v L wx) (hg : wx.grownBy wy v.ownBlock) (ho : wy.ownsRow (w.heap.size + 1) 24 2 v' ((L.map rfc).length + 1) (gfl (L.map rfc ++ [rfc r]))) : Rfp w c v' (L ++ [r]) wy := by
  have hk := kp_grown hg
  have hq : ∀ q, v.ownBlock = some q → w.heap.size < q := fun q e => by have := (h.o.lt q e).1; omega
  refine ⟨(hk.block _ (blk_lt h.a) (fun e => by have := hq _ e; omega)).trans h.a, ?_, h.b.trans (hk.below h.b.size (fun q e => by have := hq q e; omega))⟩
  rw [List.map_append, List.length_append]
  exact ho
theorem Rfp.start {w w1 : World} {c : Array Value} (h1 : w1 = w.alloc (.cells c 29)) : Rfp w c (.slice none 0 0) [] w1 := by
  subst h1
  exact ⟨heap_alloc_new w _, World.ownsRow_nil _ _ _ _, below_alloc4 w _⟩
theorem Rfp.rsl {w wx : World} {c : Array Value} {v : Value} {L : List Rf} (h : Rfp w c v L wx) (hl : L.length ≤ 140737488351232) (hb : ∀ r ∈ L, r.n.size ≤ 140737488351232) : RSl wx v L :=
  own_gsl h.o (fun c hc => by obtain ⟨r, _, rfl⟩ := List.mem_map.1 hc; rfl) (by rw [List.length_map]) hl (fun i r c hr hc => by
    rw [List.getElem?_map, hr] at hc
    injection hc with hc
    exact ⟨hc.symm, hb r (List.mem_of_getElem? hr)⟩)
theorem rfc_one (r : Rf) : ∀ u ∈ (rfc r).toList, u.oneCell' = true := fun u hu => by
  simp only [rfc, List.mem_cons, List.not_mem_nil, or_false] at hu
  rcases hu with rfl | rfl <;> rfl
/-- The row behind one more. -/
theorem append_rf {ops : Array Oper} {rest : List Oper} {o : Oper} {a : Act} {Q : Exit → Act → World → Prop} {w wx : World} (hgd : o.guard = none) {s x : Operand} (ho : o.op = .call { callee := .builtin .append, args := #[s, x], argTypes := #[100, 100] }) {c : Array Value} {v : Value} {L : List Rf} {r : Rf} (hs : a.eval s = v) (h : Rfp w c v L wx)
    (hx : a.eval x = .slice (some ⟨wx.heap.size, 0, none⟩) 1 1) (hlen : L.length + 1 ≤ 5864062014805)
    (hK : ∀ v' w', Rfp w c v' (L ++ [r]) w' → wpList Tryz.prog ops Q rest (a.put o.dst v') w') : wpList Tryz.prog ops Q (o :: rest) a (wx.alloc (.cells (rfc r) 24)) := by
  have h2 := h.next (below_alloc4 wx (.cells (rfc r) 24))
  exact append_gB infoRfs Tryz.underlying100 rfl (by decide) hgd ho hs h2.o hx (heap_alloc_new wx _) rfl (rfc_one r) (by rw [List.length_map]; omega) (by rw [List.length_map]; exact Nat.le_trans (Nat.mul_le_mul_right 24 hlen) (by decide)) (by have := blk_lt h2.a; omega) (fun v' w' h3 h4 _ => hK v' w' (h2.app h4 h3))
set_option maxRecDepth 1000000 in
set_option maxHeartbeats 1000000 in
theorem references_wid (w : World) (t : Tp) (c : Array Value) (hc : Tpi w t c) (hfc : t.fs.length + t.cs.length + 1 ≤ 5864062014805) : Calls Tryz.prog 46 #[.agg c] w fun e w' => ∃ v, e = .returned v ∧ Hid (RSl w' v (rfs t) ∧ Below w.heap.size w w') := by
  obtain ⟨⟨vf, vc, vw, rfl, ⟨⟨af, cf, rfl, -, hff⟩, hfm⟩, ⟨⟨ac, cc, rfl, -, hcf⟩, hcm⟩, ⟨⟨aw, cw, rfl, -, -⟩, hwm, -⟩⟩, hbd⟩ := hc
  have HF := hide hff
  have HC := hide hcf
  have HBD := hide hbd.r
  have HFS : Hid (∀ f ∈ t.fs, f.r.n.size ≤ 140737488351232) := fun f hf => by
    obtain ⟨i, hi, e⟩ := List.getElem_of_mem hf
    rcases hff with h | ⟨b, off, _, h⟩
    · rw [h] at hf; cases hf
    · obtain ⟨_, ⟨_, _, _, h3⟩, _⟩ := h i f (by rw [List.getElem?_eq_getElem hi, e])
      exact h3
  have HCS : Hid (∀ x ∈ t.cs, x.n.size ≤ 140737488351232) := fun x hx => by
    obtain ⟨i, hi, e⟩ := List.getElem_of_mem hx
    rcases hcf with h | ⟨b, off, _, h⟩
    · rw [h] at hx; cases hx
    · obtain ⟨_, ⟨_, _, h3⟩, _⟩ := h i x (by rw [List.getElem?_eq_getElem hi, e])
      exact h3
  have HFC := hide hfc
  unfold tpc
  clear hff hcf hbd hwm hfc
  have HIR := hide infoRf
  have HAR : Hid (∀ w, (isAgg 24).run Tryz.prog w = .ok true w) := aggRf
  go_enter Tryz.func46, Tryz.ntmps46
  go_upto_region 1 with fail
  generalize hw1 : w.alloc (.cells #[.string t.n, .int .i64 t.k, .int .i64 t.lo, .int .i64 t.hi, .string t.r.n, .bool t.r.z, .slice af t.fs.length cf, .slice ac t.cs.length cc, .slice aw t.ws.length cw] 29) = w1 at *
  have HR := hide (Rfp.start hw1.symm)
  clear hw1
  have HT6 : Hid ((#[.string t.n, .int .i64 t.k, .int .i64 t.lo, .int .i64 t.hi, .string t.r.n, .bool t.r.z, .slice af t.fs.length cf, .slice ac t.cs.length cc, .slice aw t.ws.length cw] : Array Value)[6]? = some (.slice af t.fs.length cf)) := rfl
  have HT7 : Hid ((#[.string t.n, .int .i64 t.k, .int .i64 t.lo, .int .i64 t.hi, .string t.r.n, .bool t.r.z, .slice af t.fs.length cf, .slice ac t.cs.length cc, .slice aw t.ws.length cw] : Array Value)[7]? = some (.slice ac t.cs.length cc)) := rfl
  have q1 : w1.cell? ⟨w.heap.size, 1, none⟩ = some (.int .i64 t.k) := blk_cell (j := 1) HR.out.a rfl
  have HRF : Hid (∀ j u, (#[.string t.r.n, .bool t.r.z] : Array Value)[j]? = some u → w1.cell? ⟨w.heap.size, 4 + j, none⟩ = some u) := sub_cell HR.out.a (fun j u hj => by
    rcases j with _ | _ | j
    · exact hj
    · exact hj
    · simp at hj)
  obtain ⟨tc, htc⟩ : ∃ tc : Array Value, tc = #[.string t.n, .int .i64 t.k, .int .i64 t.lo, .int .i64 t.hi, .string t.r.n, .bool t.r.z, .slice af t.fs.length cf, .slice ac t.cs.length cc, .slice aw t.ws.length cw] := ⟨_, rfl⟩
  rw [← htc] at HR HT6 HT7
  clear htc
  go_upto_region 2 with fail
  go_cut [20] from 8 to 21 (fun v wx => v = .bool (decide (t.k = 1 ∨ t.k = 3 ∨ t.k = 4)) ∧ wx = w1)
  case first =>
    as_aux_lemma =>
    by_cases h1 : t.k = 1
    · have g1 : (t.k == 1) = true := beq_iff_eq.2 h1
      have HI : Hid (decide (t.k = 1 ∨ t.k = 3 ∨ t.k = 4) = true) := decide_eq_true (.inl h1)
      clear h1
      go_wp2_with fail
      go_meet
      case rel => exact ⟨by rw [HI.out], rfl⟩
    have g1 : (t.k == 1) = false := beq_eq_false_iff_ne.2 h1
    by_cases h3 : t.k = 3
    · have g3 : (t.k == 3) = true := beq_iff_eq.2 h3
      have HI : Hid (decide (t.k = 1 ∨ t.k = 3 ∨ t.k = 4) = true) := decide_eq_true (.inr (.inl h3))
      clear h1 h3
      go_wp2_with fail
      go_meet
      case rel => exact ⟨by rw [HI.out], rfl⟩
    have g3 : (t.k == 3) = false := beq_eq_false_iff_ne.2 h3
    by_cases h4 : t.k = 4
    · have g4 : (t.k == 4) = true := beq_iff_eq.2 h4
      have HI : Hid (decide (t.k = 1 ∨ t.k = 3 ∨ t.k = 4) = true) := decide_eq_true (.inr (.inr h4))
      clear h1 h3 h4
      go_wp2_with fail
      go_meet
      case rel => exact ⟨by rw [HI.out], rfl⟩
    have g4 : (t.k == 4) = false := beq_eq_false_iff_ne.2 h4
    have HI : Hid (decide (t.k = 1 ∨ t.k = 3 ∨ t.k = 4) = false) := decide_eq_false (fun h => h.elim h1 (fun h => h.elim h3 h4))
    clear h1 h3 h4
    go_wp2_with fail
    go_meet
    case rel => exact ⟨by rw [HI.out], rfl⟩
  obtain ⟨rfl, hww⟩ := hcut
  have hww := hww.symm
  subst hww
  generalize hkb : decide (t.k = 1 ∨ t.k = 3 ∨ t.k = 4) = kb
  have HKB := hide hkb
  clear hkb
  go_upto_if 20 with fail
  go_cut [3] from 21 to 26 (fun v wx => ∃ a0 n0 c0, v = .slice a0 n0 c0 ∧ Hid (Rfp w tc (.slice a0 n0 c0) (if kb = true then [t.r] else []) wx))
  case first =>
    as_aux_lemma =>
    cases kb with
    | true =>
      have HR1 : Hid (∀ (ops : Array Oper) (rest : List Oper) (o : Oper) (a : Act) (Q : Exit → Act → World → Prop) (s x : Operand), o.guard = none → o.op = .call { callee := .builtin .append, args := #[s, x], argTypes := #[100, 100] } → a.eval s = .slice none 0 0 → a.eval x = .slice (some ⟨w1.heap.size, 0, none⟩) 1 1 → (∀ v' w', Rfp w tc v' [t.r] w' → wpList Tryz.prog ops Q rest (a.put o.dst v') w') → wpList Tryz.prog ops Q (o :: rest) a (w1.alloc (.cells #[.string t.r.n, .bool t.r.z] 24))) := fun ops rest o a Q s x h1 h2 h3 h4 h5 => append_rf (r := t.r) h1 h2 h3 HR.out h4 (by simp) h5
      go_wp2_with (first
        | (refine wpList_aggAt rfl rfl HIR.out HAR.out w.heap.size 4 #[.string t.r.n, .bool t.r.z] rfl rfl HRF.out ?_)
        | (refine row1 infoRfs Tryz.underlying100 (by decide) (by decide) rfl rfl rfl (c := #[.string t.r.n, .bool t.r.z]) rfl rfl ?_)
        | (refine HR1.out _ _ _ _ _ _ _ rfl rfl rfl rfl ?_; intro v' w' hr'))
      obtain ⟨a0, c0, hv0, _⟩ := own_formG hr'.o
      subst hv0
      go_meet
      case rel => exact ⟨_, _, _, rfl, hr'⟩
    | false =>
      go_wp2_with fail
      go_meet
      case rel => exact ⟨_, _, _, rfl, HR.out⟩
  obtain ⟨a0, n0, c0, rfl, HP⟩ := hcut
  clear HR q1 HRF
  generalize hR0 : (if kb = true then [t.r] else []) = R0 at *
  have HR0 : Hid (rfs t = R0 ++ t.fs.map (·.r) ++ t.cs.map (fun c => ⟨c.n, false⟩)) := by
    show _ = _
    unfold rfs
    rw [← hR0, ← HKB.out]
    simp only [decide_eq_true_eq]
  have HL0 : Hid (R0.length ≤ 1) := by
    show _ ≤ _
    rw [← hR0]
    split <;> simp
  have HB0 : Hid (∀ r ∈ R0, r.n.size ≤ 140737488351232) := fun r hr => by
    rw [← hR0] at hr
    split at hr
    · rw [List.mem_singleton.1 hr]; exact HBD.out
    · cases hr
  clear hR0 HKB
  rename World => w2
  have q6 : w2.cell? ⟨w.heap.size, 6, none⟩ = some (.slice af t.fs.length cf) := blk_cell (j := 6) HP.out.a HT6.out
  go_wp2_with fail
  clear q6
  go_loopw [3, 29] (fun v vi wx => ∃ (i : Nat) (a0 : Option Addr) (n0 c0 : Nat), i ≤ t.fs.length ∧ v = .slice a0 n0 c0 ∧ vi = .int .i64 (i : Nat) ∧ Hid (Rfp w tc (.slice a0 n0 c0) (R0 ++ (t.fs.take i).map (·.r)) wx)) (fun _ vi _ => t.fs.length - (intOf vi).toNat)
  case atStart => exact ⟨0, a0, n0, c0, by omega, rfl, rfl, (by show Rfp w tc _ _ _; rw [List.take_zero, List.map_nil, List.append_nil]; exact HP.out)⟩
  case round =>
    obtain ⟨i, a1, n1, c1, hi, rfl, rfl, HPi⟩ := hrel
    clear HP
    by_cases hlt : i < t.fs.length
    · as_aux_lemma =>
      have g1 : (i : Int) < (t.fs.length : Int) := by omega
      obtain ⟨f, hf⟩ : ∃ f, t.fs[i]? = some f := ⟨t.fs[i], List.getElem?_eq_getElem hlt⟩
      obtain ⟨b, off, rfl, hcc⟩ := HF.out.resolve_left (fun h => by rw [h] at hlt; simp at hlt)
      obtain ⟨c, ⟨rfl, _⟩, hcell⟩ := hcc i f hf
      unfold fdc at hcell
      have HCL : Hid (∀ j u, (#[.string f.n, .string f.k, .string f.r.n, .bool f.r.z, .bool f.m] : Array Value)[j]? = some u → wr.cell? ⟨b, off + i * 5 + j, none⟩ = some u) := fun j u hj => keep_below HPi.out.b _ _ (hcell j u hj)
      have HTK : Hid (R0 ++ (t.fs.take (i + 1)).map (·.r) = (R0 ++ (t.fs.take i).map (·.r)) ++ [f.r]) := by
        show _ = _
        rw [List.take_succ_eq_append_getElem hlt, List.map_append, List.append_assoc]
        rw [List.getElem?_eq_getElem hlt] at hf
        injection hf with hf
        rw [hf]
        rfl
      have HP1 := hide (HPi.out.next (below_alloc4 wr (.cells #[.string f.n, .string f.k, .string f.r.n, .bool f.r.z, .bool f.m] 80)))
      have HIF := hide infoFd
      have HAF : Hid (∀ w, (isAgg 80).run Tryz.prog w = .ok true w) := aggFd
      have HRF : Hid (∀ j u, (#[.string f.r.n, .bool f.r.z] : Array Value)[j]? = some u → (wr.alloc (.cells #[.string f.n, .string f.k, .string f.r.n, .bool f.r.z, .bool f.m] 80)).cell? ⟨wr.heap.size, 2 + j, none⟩ = some u) := sub_cell (heap_alloc_new wr _) (fun j u hj => by
        rcases j with _ | _ | j
        · exact hj
        · exact hj
        · simp at hj)
      have hll : (R0 ++ (t.fs.take i).map (·.r)).length + 1 ≤ 5864062014805 := by
        have h1 := HL0.out
        have h2 := HFC.out
        rw [List.length_append, List.length_map, List.length_take]
        omega
      have HLL := hide hll
      clear hll
      have HR1 : Hid (∀ (ops : Array Oper) (rest : List Oper) (o : Oper) (a : Act) (Q : Exit → Act → World → Prop) (s x : Operand), o.guard = none → o.op = .call { callee := .builtin .append, args := #[s, x], argTypes := #[100, 100] } → a.eval s = .slice a1 n1 c1 → a.eval x = .slice (some ⟨(wr.alloc (.cells #[.string f.n, .string f.k, .string f.r.n, .bool f.r.z, .bool f.m] 80)).heap.size, 0, none⟩) 1 1 → (∀ v' w', Rfp w tc v' (R0 ++ (t.fs.take (i + 1)).map (·.r)) w' → wpList Tryz.prog ops Q rest (a.put o.dst v') w') → wpList Tryz.prog ops Q (o :: rest) a ((wr.alloc (.cells #[.string f.n, .string f.k, .string f.r.n, .bool f.r.z, .bool f.m] 80)).alloc (.cells #[.string f.r.n, .bool f.r.z] 24))) := fun ops rest o a Q s x h1 h2 h3 h4 h5 => append_rf (r := f.r) h1 h2 h3 HP1.out h4 HLL.out (by rw [← HTK.out]; exact h5)
      clear hcc hcell hf HPi HF HC HR0 HB0
      go_wp2_with (first
        | (refine wpList_aggAt rfl rfl HIF.out HAF.out b (off + i * 5) #[.string f.n, .string f.k, .string f.r.n, .bool f.r.z, .bool f.m] rfl rfl HCL.out ?_)
        | (refine wpList_aggAt rfl rfl HIR.out HAR.out wr.heap.size 2 #[.string f.r.n, .bool f.r.z] rfl rfl HRF.out ?_)
        | (refine row1 infoRfs Tryz.underlying100 (by decide) (by decide) rfl rfl rfl (c := #[.string f.r.n, .bool f.r.z]) rfl rfl ?_)
        | (refine HR1.out _ _ _ _ _ _ _ rfl rfl rfl rfl ?_; intro v' w' hr'))
      obtain ⟨a2, c2, hv0, _⟩ := own_formG hr'.o
      subst hv0
      have HR' := hide hr'
      clear hr'
      go_wp2_with fail
      go_roundw
      case rel => exact ⟨i + 1, _, _, _, by omega, rfl, by go_num, HR'⟩
      case measure => simp [intOf]; omega
    · have g1 : ¬ (i : Int) < (t.fs.length : Int) := by omega
      have hil : i = t.fs.length := by omega
      have HP2 : Hid (Rfp w tc (.slice a1 n1 c1) (R0 ++ t.fs.map (·.r)) wr) := by have h := HPi.out; rw [hil, List.take_length] at h; exact h
      clear hil HPi HF
      have q7 : wr.cell? ⟨w.heap.size, 7, none⟩ = some (.slice ac t.cs.length cc) := blk_cell (j := 7) HP2.out.a HT7.out
      go_wp2_with fail
      clear q7
      go_loopw [3, 42] (fun v vi wx => ∃ (i : Nat) (a0 : Option Addr) (n0 c0 : Nat), i ≤ t.cs.length ∧ v = .slice a0 n0 c0 ∧ vi = .int .i64 (i : Nat) ∧ Hid (Rfp w tc (.slice a0 n0 c0) (R0 ++ t.fs.map (·.r) ++ (t.cs.take i).map (fun c => ⟨c.n, false⟩)) wx)) (fun _ vi _ => t.cs.length - (intOf vi).toNat)
      case atStart => exact ⟨0, a1, n1, c1, by omega, rfl, rfl, (by show Rfp w tc _ _ _; rw [List.take_zero, List.map_nil, List.append_nil]; exact HP2.out)⟩
      case round =>
        rename World => wq
        obtain ⟨i, a3, n3, c3, hi, rfl, rfl, HPi⟩ := hrel
        clear HP2
        by_cases hlt : i < t.cs.length
        · as_aux_lemma =>
          have g1 : (i : Int) < (t.cs.length : Int) := by omega
          obtain ⟨x, hx⟩ : ∃ x, t.cs[i]? = some x := ⟨t.cs[i], List.getElem?_eq_getElem hlt⟩
          obtain ⟨b, off, rfl, hcc⟩ := HC.out.resolve_left (fun h => by rw [h] at hlt; simp at hlt)
          obtain ⟨c, ⟨rfl, _⟩, hcell⟩ := hcc i x hx
          unfold czc at hcell
          have HCL : Hid (∀ j u, (#[.string x.k, .string x.n] : Array Value)[j]? = some u → wq.cell? ⟨b, off + i * 2 + j, none⟩ = some u) := fun j u hj => keep_below HPi.out.b _ _ (hcell j u hj)
          have HTK : Hid (R0 ++ t.fs.map (·.r) ++ (t.cs.take (i + 1)).map (fun c => ⟨c.n, false⟩) = (R0 ++ t.fs.map (·.r) ++ (t.cs.take i).map (fun c => ⟨c.n, false⟩)) ++ [⟨x.n, false⟩]) := by
            show _ = _
            rw [List.take_succ_eq_append_getElem hlt, List.map_append, List.append_assoc _ _ [(⟨x.n, false⟩ : Rf)]]
            rw [List.getElem?_eq_getElem hlt] at hx
            injection hx with hx
            rw [hx]
            rfl
          have HP1 := hide (HPi.out.next (below_alloc4 wq (.cells #[.string x.k, .string x.n] 82)))
          have HIF := hide infoCz
          have HAF : Hid (∀ w, (isAgg 82).run Tryz.prog w = .ok true w) := aggCz
          have hll : List.length (α := Rf) (R0 ++ t.fs.map (·.r) ++ (t.cs.take i).map (fun c => ⟨c.n, false⟩)) + 1 ≤ 5864062014805 := by
            have h1 := HL0.out
            have h2 := HFC.out
            rw [List.length_append, List.length_append, List.length_map, List.length_map, List.length_take]
            omega
          have HLL := hide hll
          clear hll
          have HR1 : Hid (∀ (ops : Array Oper) (rest : List Oper) (o : Oper) (a : Act) (Q : Exit → Act → World → Prop) (s y : Operand), o.guard = none → o.op = .call { callee := .builtin .append, args := #[s, y], argTypes := #[100, 100] } → a.eval s = .slice a3 n3 c3 → a.eval y = .slice (some ⟨(wq.alloc (.cells #[.string x.k, .string x.n] 82)).heap.size, 0, none⟩) 1 1 → (∀ v' w', Rfp w tc v' (R0 ++ t.fs.map (·.r) ++ (t.cs.take (i + 1)).map (fun c => ⟨c.n, false⟩)) w' → wpList Tryz.prog ops Q rest (a.put o.dst v') w') → wpList Tryz.prog ops Q (o :: rest) a ((wq.alloc (.cells #[.string x.k, .string x.n] 82)).alloc (.cells #[.string x.n, .bool false] 24))) := fun ops rest o a Q s y h1 h2 h3 h4 h5 => append_rf (r := ⟨x.n, false⟩) h1 h2 h3 HP1.out h4 HLL.out (by rw [← HTK.out]; exact h5)
          clear hcc hcell hx HPi HC HR0 HB0
          go_wp2_with (first
            | (refine wpList_aggAt rfl rfl HIF.out HAF.out b (off + i * 2) #[.string x.k, .string x.n] rfl rfl HCL.out ?_)
            | (refine row1 infoRfs Tryz.underlying100 (by decide) (by decide) rfl rfl rfl (c := #[.string x.n, .bool false]) rfl rfl ?_)
            | (refine HR1.out _ _ _ _ _ _ _ rfl rfl rfl rfl ?_; intro v' w' hr'))
          obtain ⟨a2, c2, hv0, _⟩ := own_formG hr'.o
          subst hv0
          have HR' := hide hr'
          clear hr'
          go_wp2_with fail
          go_roundw
          case rel => exact ⟨i + 1, _, _, _, by omega, rfl, by go_num, HR'⟩
          case measure => simp [intOf]; omega
        · as_aux_lemma =>
          have g1 : ¬ (i : Int) < (t.cs.length : Int) := by omega
          have hil : i = t.cs.length := by omega
          have HP3 : Hid (Rfp w tc (.slice a3 n3 c3) (rfs t) wq) := by have h := HPi.out; rw [hil, List.take_length, ← HR0.out] at h; exact h
          have HSZ : Hid (∀ r ∈ rfs t, r.n.size ≤ 140737488351232) := fun r hr => by
            rw [HR0.out] at hr
            rcases List.mem_append.1 hr with hr | hr
            · rcases List.mem_append.1 hr with hr | hr
              · exact HB0.out r hr
              · obtain ⟨f, hf, rfl⟩ := List.mem_map.1 hr
                exact HFS.out f hf
            · obtain ⟨x, hx, rfl⟩ := List.mem_map.1 hr
              exact HCS.out x hx
          have HLN : Hid ((rfs t).length ≤ 140737488351232) := by
            have h1 := HL0.out
            have h2 := HFC.out
            show _ ≤ _
            rw [HR0.out, List.length_append, List.length_append, List.length_map, List.length_map]
            omega
          clear hil HPi HC
          go_wp2_with fail
          go_ret
          exact ⟨_, rfl, HP3.out.rsl HLN.out HSZ.out, HP3.out.b⟩
theorem references_any (w : World) (t : Tp) (c : Array Value) (hc : Tpi w t c) (hf1 : t.fs.length ≤ 1000) (hc1 : t.cs.length ≤ 1000) : Calls Tryz.prog 46 #[.agg c] w fun e w' => ∃ v, e = .returned v ∧ Hid (RSl w' v (rfs t) ∧ Below w.heap.size w w') := references_wid w t c hc (by omega)
end
section
open Go.RowKit Go
theorem gfl_cells {w : World} {k b off : Nat} (hk : 0 < k) {L : List (Array Value)} (hl : ∀ c ∈ L, c.size = k) (h : ∀ (i : Nat) (c : Array Value), L[i]? = some c → ∀ j u, c[j]? = some u → w.cell? ⟨b, off + i * k + j, none⟩ = some u) : ∀ (j : Nat) (u : Value), (gfl L)[j]? = some u → w.cell? ⟨b, off + j, none⟩ = some u := fun j u hu => by
  have hj := (List.getElem?_eq_some_iff.1 hu).1
  rw [gfl_len hl] at hj
  have hi : j / k < L.length := (Nat.div_lt_iff_lt_mul hk).2 hj
  have hL : L[j / k]? = some L[j / k] := List.getElem?_eq_getElem hi
  have hs := hl _ (List.getElem_mem hi)
  have hr : j % k < (L[j / k]).size := by rw [hs]; exact Nat.mod_lt _ hk
  have hc : (L[j / k])[j % k]? = some (L[j / k])[j % k] := Array.getElem?_eq_getElem hr
  have hg := gfl_get hl _ _ _ _ hL hc
  have e : j / k * k + j % k = j := by rw [Nat.mul_comm]; exact Nat.div_add_mod j k
  rw [e, hu] at hg
  have h2 := h _ _ hL _ _ hc
  rw [Nat.add_assoc, e] at h2
  rw [Option.some.inj hg]
  exact h2
/-- append of a whole row onto nothing. -/
theorem append_allB {ops : Array Oper} {rest : List Oper} {o : Oper} {a : Act} {Q : Exit → Act → World → Prop} {w : World} {S T : TypeId} {z : Value} {k by' : Nat} (hI : (Tryz.prog.info? T).map (fun i => (i.zero, i.size, i.bytes)) = some (some z, k, by')) (hS : Tryz.prog.underlying S = some (.slice T)) (hzs : z.cells.size = k) (hk : 0 < k) (hgd : o.guard = none) {s x : Operand}
    (ho : o.op = .call { callee := .builtin .append, args := #[s, x], argTypes := #[S, S] }) {L : List (Array Value)} {ad : Option Addr} {c : Nat} (hs : a.eval s = .slice none 0 0) (hx : a.eval x = .slice ad L.length c) (hl : ∀ c ∈ L, c.size = k) (h1 : ∀ u ∈ gfl L, u.oneCell' = true) (hlen : L.length ≤ 140737488355328) (hb : (0 + L.length) * by' ≤ 140737488355328) (hc0 : ad = none → c = 0)
    (hc : L = [] ∨ ∃ b off, ad = some ⟨b, off, none⟩ ∧ ∀ (i : Nat) (d : Array Value), L[i]? = some d → ∀ j u, d[j]? = some u → w.cell? ⟨b, off + i * k + j, none⟩ = some u)
    (h : ∀ v' w', w'.ownsRow w.heap.size T k v' L.length (gfl L) → Below w.heap.size w w' → wpList Tryz.prog ops Q rest (a.put o.dst v') w') : wpList Tryz.prog ops Q (o :: rest) a w := by
  obtain ⟨i, hi, hz0, hz1, hz2⟩ := info_ex hI
  have hbel : ∀ w' : World, w.grownBy w' (Value.ownBlock (.slice none 0 0)) → Below w.heap.size w w' := fun w' hg => (kp_grown hg).below (Nat.le_refl _) (fun q e => by cases e)
  cases ad with
  | none =>
    have h0 : L = [] := hc.resolve_right (fun ⟨_, _, e, _⟩ => by cases e)
    subst h0
    have e0 := hc0 rfl
    subst e0
    refine wpList_append_own_none hgd s x S ho w.heap.size T i k hS hi (.slice none 0 0) 0 [] hs (World.ownsRow_nil _ _ _ _) hx ?_
    exact h _ w (World.ownsRow_nil _ _ _ _) (Below.refl _ _)
  | some ad =>
    have hnews : ∀ j u, (gfl L)[j]? = some u → w.cell? (ad.add j) = some u := fun j u hu => by
      rcases hc with e | ⟨b, off, e, hc⟩
      · rw [e] at hu; cases hu
      · have e' := Option.some.inj e
        subst e'
        rw [addrO]
        exact gfl_cells hk hl hc j u hu
    refine wpList_append_own_at w hgd s x S ho w.heap.size T i z k by' hS hi hz0 hz1 hz2 hzs hk (.slice none 0 0) 0 [] hs (World.ownsRow_nil _ _ _ _) ad L.length c (gfl L) hx (gfl_len hl) hnews h1 (by unfold maxLen; omega) hb (Nat.le_refl _) fun v' w' h2 h3 _ _ => ?_
    exact h v' w' (by rw [Nat.zero_add] at h2; exact h2) (hbel w' h3)
theorem append_all {ops : Array Oper} {rest : List Oper} {o : Oper} {a : Act} {Q : Exit → Act → World → Prop} {w : World} {S T : TypeId} {z : Value} {k by' : Nat} (hI : (Tryz.prog.info? T).map (fun i => (i.zero, i.size, i.bytes)) = some (some z, k, by')) (hS : Tryz.prog.underlying S = some (.slice T)) (hzs : z.cells.size = k) (hk : 0 < k) (hby : by' ≤ 1000) (hgd : o.guard = none) {s x : Operand}
    (ho : o.op = .call { callee := .builtin .append, args := #[s, x], argTypes := #[S, S] }) {L : List (Array Value)} {ad : Option Addr} {c : Nat} (hs : a.eval s = .slice none 0 0) (hx : a.eval x = .slice ad L.length c) (hl : ∀ c ∈ L, c.size = k) (h1 : ∀ u ∈ gfl L, u.oneCell' = true) (hlen : L.length ≤ 1000000) (hc0 : ad = none → c = 0)
    (hc : L = [] ∨ ∃ b off, ad = some ⟨b, off, none⟩ ∧ ∀ (i : Nat) (d : Array Value), L[i]? = some d → ∀ j u, d[j]? = some u → w.cell? ⟨b, off + i * k + j, none⟩ = some u)
    (h : ∀ v' w', w'.ownsRow w.heap.size T k v' L.length (gfl L) → Below w.heap.size w w' → wpList Tryz.prog ops Q rest (a.put o.dst v') w') : wpList Tryz.prog ops Q (o :: rest) a w := by
  have hb : (0 + L.length) * by' ≤ 140737488355328 := by
    have : (0 + L.length) * by' ≤ 1000000 * 1000 := Nat.mul_le_mul (by omega) hby
    omega
  exact append_allB hI hS hzs hk hgd ho hs hx hl h1 (by omega) hb hc0 hc h
theorem infoF3 : (Tryz.prog.info? 80).map (fun i => (i.zero, i.size, i.bytes)) = some (some (.agg #[.string ⟨#[]⟩, .string ⟨#[]⟩, .string ⟨#[]⟩, .bool false, .bool false]), 5, 64) := by kernel_rfl
set_option maxRecDepth 1000000 in
set_option maxHeartbeats 1000000 in
theorem copiedF_any (w : World) (v : Value) (xs : List Fd) (hv : FSl w v xs) (hn : xs.length ≤ 1000000) : Calls Tryz.prog 34 #[v] w fun e w' => ∃ v', e = .returned v' ∧ Hid (FSl w' v' xs ∧ Below w.heap.size w w' ∧ ∀ q, v'.ownBlock = some q → w.heap.size ≤ q) := by
  have HV := hide hv
  obtain ⟨⟨a, cap, rfl, hcap, hform⟩, hmax⟩ := hv
  have HN := hide hn
  have HC : Hid ((xs.map fdc) = [] ∨ ∃ b off, a = some ⟨b, off, none⟩ ∧ ∀ (i : Nat) (d : Array Value), (xs.map fdc)[i]? = some d → ∀ j u, d[j]? = some u → w.cell? ⟨b, off + i * 5 + j, none⟩ = some u) := by
    rcases hform with h | ⟨b, off, e, h⟩
    · exact .inl (by rw [h]; rfl)
    · refine .inr ⟨b, off, e, fun i d hd j u hu => ?_⟩
      rw [List.getElem?_map] at hd
      cases hx : xs[i]? with
      | none => rw [hx] at hd; cases hd
      | some x =>
        rw [hx] at hd
        injection hd with hd
        subst hd
        obtain ⟨c, ⟨hcx, _⟩, hcell⟩ := h i x hx
        subst hcx
        exact hcell j u hu
  have HL : Hid (∀ c ∈ xs.map fdc, c.size = 5) := fun c hc => by obtain ⟨x, _, rfl⟩ := List.mem_map.1 hc; rfl
  have H1 : Hid (∀ u ∈ gfl (xs.map fdc), u.oneCell' = true) := fun u hu => by
    obtain ⟨c, hc, hu⟩ := List.mem_flatMap.1 hu
    obtain ⟨x, _, rfl⟩ := List.mem_map.1 hc
    simp only [fdc, List.mem_cons, List.not_mem_nil, or_false] at hu
    rcases hu with rfl | rfl | rfl | rfl | rfl <;> rfl
  have HC0 := hide hcap.2
  have HLE : Hid ((xs.map fdc).length = xs.length) := by show _ = _; rw [List.length_map]
  have HAP : Hid (∀ (ops : Array Oper) (rest : List Oper) (o : Oper) (ac : Act) (Q : Exit → Act → World → Prop) (s y : Operand), o.guard = none → o.op = .call { callee := .builtin .append, args := #[s, y], argTypes := #[25, 25] } → ac.eval s = .slice none 0 0 → ac.eval y = .slice a xs.length cap → (∀ v' w', w'.ownsRow w.heap.size 80 5 v' (xs.map fdc).length (gfl (xs.map fdc)) → Below w.heap.size w w' → wpList Tryz.prog ops Q rest (ac.put o.dst v') w') → wpList Tryz.prog ops Q (o :: rest) ac w) := fun ops rest o ac Q s y h1 h2 h3 h4 h5 => append_all infoF3 Tryz.underlying25 rfl (by decide) (by decide) h1 h2 h3 (by rw [HLE.out]; exact h4) HL.out H1.out (by rw [HLE.out]; exact HN.out) HC0.out HC.out h5
  clear hform hcap hn
  go_enter Tryz.func34, Tryz.ntmps34
  go_wp2_with (refine HAP.out _ _ _ _ _ _ _ rfl rfl rfl rfl ?_; intro v' w' ho hb)
  go_ret
  refine ⟨_, rfl, ?_, hb, fun q e => (ho.lt q e).1⟩
  exact own_gsl (xs := xs) ho HL.out HLE.out HV.out.max (fun i x c hx hc => by
    rw [List.getElem?_map, hx] at hc
    injection hc with hc
    subst hc
    rcases HV.out.form with ⟨_, _, _, _, h | ⟨b, off, _, h⟩⟩
    · rw [h] at hx; cases hx
    · obtain ⟨c', hP, _⟩ := h i x hx
      exact ⟨rfl, hP.2⟩)

theorem infoC3 : (Tryz.prog.info? 82).map (fun i => (i.zero, i.size, i.bytes)) = some (some (.agg #[.string ⟨#[]⟩, .string ⟨#[]⟩]), 2, 32) := by kernel_rfl
set_option maxRecDepth 1000000 in
set_option maxHeartbeats 1000000 in
theorem copiedC_any (w : World) (v : Value) (xs : List Cz) (hv : CSl w v xs) (hn : xs.length ≤ 1000000) : Calls Tryz.prog 35 #[v] w fun e w' => ∃ v', e = .returned v' ∧ Hid (CSl w' v' xs ∧ Below w.heap.size w w' ∧ ∀ q, v'.ownBlock = some q → w.heap.size ≤ q) := by
  have HV := hide hv
  obtain ⟨⟨a, cap, rfl, hcap, hform⟩, hmax⟩ := hv
  have HN := hide hn
  have HC : Hid ((xs.map czc) = [] ∨ ∃ b off, a = some ⟨b, off, none⟩ ∧ ∀ (i : Nat) (d : Array Value), (xs.map czc)[i]? = some d → ∀ j u, d[j]? = some u → w.cell? ⟨b, off + i * 2 + j, none⟩ = some u) := by
    rcases hform with h | ⟨b, off, e, h⟩
    · exact .inl (by rw [h]; rfl)
    · refine .inr ⟨b, off, e, fun i d hd j u hu => ?_⟩
      rw [List.getElem?_map] at hd
      cases hx : xs[i]? with
      | none => rw [hx] at hd; cases hd
      | some x =>
        rw [hx] at hd
        injection hd with hd
        subst hd
        obtain ⟨c, ⟨hcx, _⟩, hcell⟩ := h i x hx
        subst hcx
        exact hcell j u hu
  have HL : Hid (∀ c ∈ xs.map czc, c.size = 2) := fun c hc => by obtain ⟨x, _, rfl⟩ := List.mem_map.1 hc; rfl
  have H1 : Hid (∀ u ∈ gfl (xs.map czc), u.oneCell' = true) := fun u hu => by
    obtain ⟨c, hc, hu⟩ := List.mem_flatMap.1 hu
    obtain ⟨x, _, rfl⟩ := List.mem_map.1 hc
    simp only [czc, List.mem_cons, List.not_mem_nil, or_false] at hu
    rcases hu with rfl | rfl <;> rfl
  have HC0 := hide hcap.2
  have HLE : Hid ((xs.map czc).length = xs.length) := by show _ = _; rw [List.length_map]
  have HAP : Hid (∀ (ops : Array Oper) (rest : List Oper) (o : Oper) (ac : Act) (Q : Exit → Act → World → Prop) (s y : Operand), o.guard = none → o.op = .call { callee := .builtin .append, args := #[s, y], argTypes := #[26, 26] } → ac.eval s = .slice none 0 0 → ac.eval y = .slice a xs.length cap → (∀ v' w', w'.ownsRow w.heap.size 82 2 v' (xs.map czc).length (gfl (xs.map czc)) → Below w.heap.size w w' → wpList Tryz.prog ops Q rest (ac.put o.dst v') w') → wpList Tryz.prog ops Q (o :: rest) ac w) := fun ops rest o ac Q s y h1 h2 h3 h4 h5 => append_all infoC3 Tryz.underlying26 rfl (by decide) (by decide) h1 h2 h3 (by rw [HLE.out]; exact h4) HL.out H1.out (by rw [HLE.out]; exact HN.out) HC0.out HC.out h5
  clear hform hcap hn
  go_enter Tryz.func35, Tryz.ntmps35
  go_wp2_with (refine HAP.out _ _ _ _ _ _ _ rfl rfl rfl rfl ?_; intro v' w' ho hb)
  go_ret
  refine ⟨_, rfl, ?_, hb, fun q e => (ho.lt q e).1⟩
  exact own_gsl (xs := xs) ho HL.out HLE.out HV.out.max (fun i x c hx hc => by
    rw [List.getElem?_map, hx] at hc
    injection hc with hc
    subst hc
    rcases HV.out.form with ⟨_, _, _, _, h | ⟨b, off, _, h⟩⟩
    · rw [h] at hx; cases hx
    · obtain ⟨c', hP, _⟩ := h i x hx
      exact ⟨rfl, hP.2⟩)

theorem infoS3 : (Tryz.prog.info? 9).map (fun i => (i.zero, i.size, i.bytes)) = some (some (.string ⟨#[]⟩), 1, 16) := by kernel_rfl
set_option maxRecDepth 1000000 in
set_option maxHeartbeats 1000000 in
theorem copiedS_any (w : World) (v : Value) (xs : List ByteArray) (hv : SSl w v xs) (hn : xs.length ≤ 1000000) : Calls Tryz.prog 36 #[v] w fun e w' => ∃ v', e = .returned v' ∧ Hid (SSl w' v' xs ∧ Below w.heap.size w w' ∧ ∀ q, v'.ownBlock = some q → w.heap.size ≤ q) := by
  have HV := hide hv
  obtain ⟨⟨a, cap, rfl, hcap, hform⟩, hmax, _⟩ := hv
  have HN := hide hn
  have HC : Hid ((xs.map (fun s => #[Value.string s])) = [] ∨ ∃ b off, a = some ⟨b, off, none⟩ ∧ ∀ (i : Nat) (d : Array Value), (xs.map (fun s => #[Value.string s]))[i]? = some d → ∀ j u, d[j]? = some u → w.cell? ⟨b, off + i * 1 + j, none⟩ = some u) := by
    rcases hform with h | ⟨b, off, e, h⟩
    · exact .inl (by rw [h]; rfl)
    · refine .inr ⟨b, off, e, fun i d hd j u hu => ?_⟩
      rw [List.getElem?_map] at hd
      cases hx : xs[i]? with
      | none => rw [hx] at hd; cases hd
      | some x =>
        rw [hx] at hd
        injection hd with hd
        subst hd
        rcases j with _ | j
        · have e1 : u = .string x := by simpa using hu.symm
          subst e1
          rw [Nat.mul_one, Nat.add_zero]
          exact h i x hx
        · simp at hu
  have HL : Hid (∀ c ∈ xs.map (fun s => #[Value.string s]), c.size = 1) := fun c hc => by obtain ⟨x, _, rfl⟩ := List.mem_map.1 hc; rfl
  have H1 : Hid (∀ u ∈ gfl (xs.map (fun s => #[Value.string s])), u.oneCell' = true) := fun u hu => by
    obtain ⟨c, hc, hu⟩ := List.mem_flatMap.1 hu
    obtain ⟨x, _, rfl⟩ := List.mem_map.1 hc
    simp only [List.mem_cons, List.not_mem_nil, or_false] at hu
    rw [hu]; rfl
  have HC0 := hide hcap.2
  have HLE : Hid ((xs.map (fun s => #[Value.string s])).length = xs.length) := by show _ = _; rw [List.length_map]
  have HAP : Hid (∀ (ops : Array Oper) (rest : List Oper) (o : Oper) (ac : Act) (Q : Exit → Act → World → Prop) (s y : Operand), o.guard = none → o.op = .call { callee := .builtin .append, args := #[s, y], argTypes := #[27, 27] } → ac.eval s = .slice none 0 0 → ac.eval y = .slice a xs.length cap → (∀ v' w', w'.ownsRow w.heap.size 9 1 v' (xs.map (fun s => #[Value.string s])).length (gfl (xs.map (fun s => #[Value.string s]))) → Below w.heap.size w w' → wpList Tryz.prog ops Q rest (ac.put o.dst v') w') → wpList Tryz.prog ops Q (o :: rest) ac w) := fun ops rest o ac Q s y h1 h2 h3 h4 h5 => append_all infoS3 Tryz.underlying27 rfl (by decide) (by decide) h1 h2 h3 (by rw [HLE.out]; exact h4) HL.out H1.out (by rw [HLE.out]; exact HN.out) HC0.out HC.out h5
  clear hform hcap hn
  go_enter Tryz.func36, Tryz.ntmps36
  go_wp2_with (refine HAP.out _ _ _ _ _ _ _ rfl rfl rfl rfl ?_; intro v' w' ho hb)
  go_ret
  refine ⟨_, rfl, ?_, hb, fun q e => (ho.lt q e).1⟩
  have hg := own_gsl (P := fun _ s c => c = #[Value.string s]) (xs := xs) ho HL.out HLE.out HV.out.max (fun i x c hx hc => by
    rw [List.getElem?_map, hx] at hc
    injection hc with hc
    exact hc.symm)
  obtain ⟨⟨a', cap', hv', hc', hf'⟩, hm'⟩ := hg
  refine ⟨⟨a', cap', hv', hc', ?_⟩, hm', HV.out.size⟩
  rcases hf' with h | ⟨b, off, e, h⟩
  · exact .inl h
  · refine .inr ⟨b, off, e, fun j s hs => ?_⟩
    obtain ⟨c, rfl, hcell⟩ := h j s hs
    have := hcell 0 (.string s) rfl
    rw [Nat.mul_one, Nat.add_zero] at this
    exact this
end
section
open Go.RowKit Go
section
variable {P : Program} {Q : Exit → Act → World → Prop} {S : World → Prop} {l : List Oper} {fuel : Nat} {listed : Array Bool} {a : Act} {w : World}
/-- A region that draws its order, by hand: begin. -/
theorem heldStart {id : Nat} (hm : P.follows .mixedOrders = true) (h : wpAnyH P .any l.toArray Q S l.length (Array.replicate l.length false) a w.drew) : (Code.region id l.toArray true).wp P Q a w :=
  wp_region_held (S := S) hm (by simpa using h)
/-- Take one first that reads alone. -/
theorem heldTake (i : Nat) {oi : Oper} (v : Value) (hi : l[i]? = some oi) (hs : Region.noSelect l.toArray = true) (hf : Region.free .any l.toArray listed i = true) (hr : (Region.ready .any l.toArray listed).contains i = true)
    (hQ : ∀ c a w, Q (.panic c) (a.put oi.dst v) w → Q (.panic c) a w) (hw : Region.wanted oi (yielded l.toArray a.tmps) = true) (hS : S w) (hy : ∀ w, S w → (execOp a.eval oi).run P w = .ok (.value v) w)
    (h : wpAnyH P .any l.toArray Q S fuel (listed.setIfInBounds i true) (a.put oi.dst v) w) : wpAnyH P .any l.toArray Q S (fuel + 1) listed a w :=
  wpAnyH_take (by simpa using hi) hs hf hr hQ (.inl ⟨hw, hy⟩) hS h
/-- The only one that may come up. -/
theorem heldStep (i : Nat) {oi : Oper} (hi : l[i]? = some oi) (hr : Region.ready .any l.toArray listed = [i])
    (h : ∀ K : Act → World → Prop, Hid (∀ a w, S w → (S w → wpAnyH P .any l.toArray Q S fuel (listed.setIfInBounds i true) a w) → K a w) → if Region.wanted oi (yielded l.toArray a.tmps) = true then Oper.wp P oi a w K Q else K (a.put oi.dst undef) w) : wpAnyH P .any l.toArray Q S (fuel + 1) listed a w :=
  wpAnyH_ready hr (by simp) (AllReadyH.cons (by simpa using hi) (fun K hK => h K hK) AllReadyH.nil)
theorem heldDone (hr : Region.ready .any l.toArray listed = []) (h : Q .normal a w) : wpAnyH P .any l.toArray Q S fuel listed a w := wpAnyH_done hr h fuel
end
end
section
open Go.RowKit Go

end
end Go.Proofs.YtagkogpjckjobaaGreatDoor

import Derived.Test.YtbbalhfjgpaabaaGreatDoorJb
import Derived.Test.YtbbalhfjgpaabaaGreatDoorJa
import Derived.Great.BuildSlice
import Derived.Great.FillDense
import Derived.Laws.AppendOwnNone
import Derived.DeepKeys
import Derived.Deep.RegionHeld
import Derived.Lib.SlBytesConst
import Derived.StillTailTactics
import Derived.Laws.IdiomStrings
import Derived.Deep.RegionLaw
namespace Go.Proofs.YtbbalhfjgpaabaaGreatDoor
section
open Go.RowKit Go
theorem plc_app (l : List Tp) (t : Tp) (s : ByteArray) : plc (l ++ [t]) s = match plc l s with
    | some i => some i
    | none => if t.n = s then some l.length else none := by
  induction l with
  | nil => simp [plc]
  | cons x r ih =>
    simp only [List.cons_append, plc]
    by_cases h : x.n = s
    · simp [h]
    · rw [if_neg h, if_neg h, ih]
      cases plc r s with
      | some i => rfl
      | none => by_cases h2 : t.n = s <;> simp [h2]
theorem plc_lt {l : List Tp} {s : ByteArray} {i : Nat} (h : plc l s = some i) : ∃ t, l[i]? = some t ∧ t.n = s := by
  induction l generalizing i with
  | nil => cases h
  | cons x r ih =>
    simp only [plc] at h
    by_cases hx : x.n = s
    · rw [if_pos hx] at h
      rw [← Option.some.inj h]
      exact ⟨x, rfl, hx⟩
    · rw [if_neg hx] at h
      cases hr : plc r s with
      | none => rw [hr] at h; cases h
      | some k =>
        rw [hr] at h
        rw [← Option.some.inj h]
        obtain ⟨t, h1, h2⟩ := ih hr
        exact ⟨t, by simpa using h1, h2⟩
def gpl (l : List Tp) : ByteArray → Option Int := fun s => (plc l s).map fun i => (i : Int)
theorem gpl_put (l : List Tp) (t : Tp) (h : plc l t.n = none) : putG (gpl l) t.n (l.length : Nat) = gpl (l ++ [t]) := by
  funext s
  unfold putG gpl
  rw [plc_app]
  by_cases e : s = t.n
  · subst e
    rw [if_pos rfl, h]
    simp
  · rw [if_neg e]
    cases plc l s with
    | some i => rfl
    | none => rw [if_neg (fun h : t.n = s => e h.symm)]
theorem gpl_old (l : List Tp) (t : Tp) (h : plc l t.n ≠ none) : gpl l = gpl (l ++ [t]) := by
  funext s
  unfold gpl
  rw [plc_app]
  cases hs : plc l s with
  | some i => rfl
  | none =>
    have : t.n ≠ s := fun e => h (by rw [e]; exact hs)
    simp [this]
theorem takeP (l : List Tp) (k : Nat) (t : Tp) (h : l[k]? = some t) : l.take (k + 1) = l.take k ++ [t] := by
  have hk := (List.getElem?_eq_some_iff.1 h).1
  rw [List.take_succ_eq_append_getElem hk]
  rw [List.getElem?_eq_getElem hk] at h
  injection h with h
  rw [h]
structure Sbok (w : World) (vt : Value) (B : Nat) (l : List Tp) : Prop where
  t : TSl w vt l
  m : ∃ n, Mps w B n (gpl l)
theorem Sbok.next {w w' : World} {vt : Value} {B : Nat} {l : List Tp} (h : Sbok w vt B l) (hb : Below w.heap.size w w') : Sbok w' vt B l := ⟨h.t.mv (keep_below hb), h.m.elim fun n h => ⟨n, h.next hb⟩⟩
theorem end_bk {wx : World} {R : Nat} {c : Array Value} {fn : Func} {p : Tmp} {tmps : Array Value} (hf : fn.results = #[.cell p 76]) (hr : wx.heap[R]? = some (.cells c 76 (0, 0))) (hp : tmps.getD p undef = .pointer (some ⟨R, 0, none⟩)) (hn : c.size = 2 := by rfl) : (results fn tmps).run Tryz.prog wx = .ok (.agg c) wx := by
  exact results_cell_row hf tmps wx R 76 c (0, 0) _ hp hr Tryz.underlying76 rfl (by rw [hn]; kernel_rfl)
theorem infoBk : (Tryz.prog.info? 76).map (·.size) = some 2 := by kernel_rfl
structure Opd (w : World) (B i : Nat) (l : List Tp) (wx : World) : Prop where
  r : wx.heap[w.heap.size]? = some (.cells #[.slice none 0 0, .map none] 76 (0, 0))
  m : ∃ n, n ≤ i ∧ Mps wx B n (gpl (l.take i))
  b : Below w.heap.size w wx
theorem Opd.next {w wx wy : World} {B i : Nat} {l : List Tp} (h : Opd w B i l wx) (hb : Below wx.heap.size wx wy) : Opd w B i l wy := ⟨(hb.block _ (blk_lt h.r)).trans h.r, h.m.elim fun n h => ⟨n, h.1, h.2.next hb⟩, h.b.trans (hb.mono h.b.size)⟩
set_option maxRecDepth 1000000 in
set_option maxHeartbeats 1000000 in
theorem opened_any (w : World) (v : Value) (l : List Tp) (hv : TSl w v l) : Calls Tryz.prog 20 #[v] w fun e w' => ∃ B, e = .returned (.agg #[v, .map (some B)]) ∧ Hid (w.heap.size ≤ B ∧ (∃ n, Mps w' B n (gpl l)) ∧ Below w.heap.size w w') := by
  have hmax := hv.max
  obtain ⟨⟨a, cap, rfl, _, hform⟩, _⟩ := hv
  have HF := hide hform
  have hmm := @run_makeMap Tryz.prog
  have e1 : (w.alloc (.cells #[.slice none 0 0, .map none] 76)).heap.size = w.heap.size + 1 := by simp
  have HO : Hid (Opd w (w.heap.size + 1) 0 l ((w.alloc (.cells #[.slice none 0 0, .map none] 76)).alloc (.map #[] 0))) := by
    have h := Mps.made (w.alloc (.cells #[.slice none 0 0, .map none] 76))
    rw [e1] at h
    exact ⟨blk_alloc _ (heap_alloc_new w _), ⟨0, Nat.le_refl _, h⟩, (below_alloc4 w _).trans ((below_alloc4 _ _).mono (below_alloc4 w _).size)⟩
  clear hform e1
  go_enter Tryz.func20, Tryz.ntmps20
  go_wp2_with fail
  generalize (w.alloc (.cells #[.slice none 0 0, .map none] 76)).alloc (.map #[] 0) = w0 at *
  go_loopw [11] (fun vi wx => ∃ i : Nat, i ≤ l.length ∧ vi = .int .i64 (i : Nat) ∧ Hid (Opd w (w.heap.size + 1) i l wx)) (fun vi _ => l.length - (intOf vi).toNat)
  case atStart => exact ⟨0, by omega, rfl, HO⟩
  case round =>
    obtain ⟨i, hi, rfl, HOi⟩ := hrel
    clear HO hmm
    by_cases hlt : i < l.length
    · as_aux_lemma =>
      have g1 : (i : Int) < (l.length : Int) := by omega
      obtain ⟨t, ht⟩ : ∃ t, l[i]? = some t := ⟨l[i], List.getElem?_eq_getElem hlt⟩
      obtain ⟨b, off, rfl, hcc⟩ := HF.out.resolve_left (fun h => by rw [h] at hlt; simp at hlt)
      obtain ⟨c, hc, hcell⟩ := hcc i t ht
      obtain ⟨⟨vf, vc, vw, rfl, ⟨⟨af, cf, rfl, -, -⟩, -⟩, ⟨⟨ac, cc, rfl, -, -⟩, -⟩, ⟨⟨aw, cw, rfl, -, -⟩, -, -⟩⟩, hbd⟩ := hc
      unfold tpc at hcell
      have HCL : Hid (∀ j u, (#[.string t.n, .int .i64 t.k, .int .i64 t.lo, .int .i64 t.hi, .string t.r.n, .bool t.r.z, .slice af t.fs.length cf, .slice ac t.cs.length cc, .slice aw t.ws.length cw] : Array Value)[j]? = some u → wr.cell? ⟨b, off + i * 9 + j, none⟩ = some u) := fun j u hj => keep_below HOi.out.b _ _ (hcell j u hj)
      have HNS := hide hbd.n
      have HTK := hide (takeP l i t ht)
      have HTL : Hid ((l.take i).length = i) := by show _ = _; rw [List.length_take]; omega
      have HO1 := hide (HOi.out.next (below_alloc4 wr (.cells #[.string t.n, .int .i64 t.k, .int .i64 t.lo, .int .i64 t.hi, .string t.r.n, .bool t.r.z, .slice af t.fs.length cf, .slice ac t.cs.length cc, .slice aw t.ws.length cw] 69)))
      obtain ⟨n, hn, hm⟩ := HO1.out.m
      have HM := hide hm
      have HN : Hid (n < 140737488351232) := by show _ < _; omega
      have HIW : Hid ((Lit.int .i64 (i : Nat)).wf = true) := WalkArith.wf_i64 (by omega)
      have HN2 : Hid (n ≤ i) := hn
      clear hcc hcell hbd ht hm hn HF
      have HIT := hide infoTp
      have HAT : Hid (∀ w, (isAgg 69).run Tryz.prog w = .ok true w) := aggTp
      cases hp : plc (l.take i) t.n with
      | none =>
        have hps : gpl (l.take i) t.n = none := by unfold gpl; rw [hp]; rfl
        have HG : Hid (putG (gpl (l.take i)) t.n (i : Nat) = gpl (l.take (i + 1))) := by
          show _ = _
          have h := gpl_put (l.take i) t hp
          rw [HTL.out] at h
          rw [HTK.out]
          exact h
        have HPS := hide hps
        clear hp hps
        go_wp2_with (first
          | (refine wpList_aggAt rfl rfl HIT.out HAT.out b (off + i * 9) #[.string t.n, .int .i64 t.k, .int .i64 t.lo, .int .i64 t.hi, .string t.r.n, .bool t.r.z, .slice af t.fs.length cf, .slice ac t.cs.length cc, .slice aw t.ws.length cw] rfl rfl HCL.out ?_)
          | (refine wpList_lookGo rfl rfl rfl rfl HM.out HNS.out ?_; rw [HPS.out])
          | (refine wpList_putG rfl rfl rfl rfl rfl HM.out HNS.out HIW.out HN.out ?_; intro w1 hm1 hk1))
        go_roundw
        case rel =>
          refine ⟨i + 1, by omega, by go_num, ?_⟩
          rw [HG.out] at hm1
          exact ⟨(hk1.block _ (blk_lt HO1.out.r) (by omega)).trans HO1.out.r, ⟨n + 1, by have := HN2.out; omega, hm1⟩, HO1.out.b.trans (hk1.below HO1.out.b.size (fun q e => by omega))⟩
        case measure => simp [intOf]; omega
      | some k =>
        have hps : gpl (l.take i) t.n = some (k : Int) := by unfold gpl; rw [hp]; rfl
        have HG : Hid (gpl (l.take i) = gpl (l.take (i + 1))) := by
          show _ = _
          rw [HTK.out]
          exact gpl_old (l.take i) t (by rw [hp]; exact fun h => by cases h)
        have HPS := hide hps
        clear hp hps
        go_wp2_with (first
          | (refine wpList_aggAt rfl rfl HIT.out HAT.out b (off + i * 9) #[.string t.n, .int .i64 t.k, .int .i64 t.lo, .int .i64 t.hi, .string t.r.n, .bool t.r.z, .slice af t.fs.length cf, .slice ac t.cs.length cc, .slice aw t.ws.length cw] rfl rfl HCL.out ?_)
          | (refine wpList_lookGo rfl rfl rfl rfl HM.out HNS.out ?_; rw [HPS.out]))
        go_roundw
        case rel =>
          refine ⟨i + 1, by omega, by go_num, ?_⟩
          have hm1 := HM.out
          rw [HG.out] at hm1
          exact ⟨HO1.out.r, ⟨n, by have := HN2.out; omega, hm1⟩, HO1.out.b⟩
        case measure => simp [intOf]; omega
    · as_aux_lemma =>
      have g1 : ¬ (i : Int) < (l.length : Int) := by omega
      have hil : i = l.length := by omega
      have HR := hide HOi.out.r
      have HIB : Hid ((Tryz.prog.info? 76).map (·.size) = some (#[.slice a l.length cap, .map (some (w.heap.size + 1))] : Array Value).size) := infoBk
      have HAB : Hid ((#[.slice a l.length cap, .map (some (w.heap.size + 1))] : Array Value).all (·.oneCell') = true) := by show _ = _; simp [Value.oneCell']
      obtain ⟨n, hn, hm⟩ := HOi.out.m
      rw [hil, List.take_length] at hm
      have HM := hide hm
      clear hil hm hn HF
      go_wp2_with (refine wpList_storeRow rfl rfl w.heap.size #[.slice none 0 0, .map none] #[.slice a l.length cap, .map (some (w.heap.size + 1))] 76 rfl rfl HR.out HIB.out rfl HAB.out ?_)
      have hkr := row_kp wr w.heap.size #[.slice a l.length cap, .map (some (w.heap.size + 1))]
      exact bodyPost_ret (end_bk rfl (row_same HR.out) rfl) rfl ⟨_, rfl, by omega, ⟨n, HM.out.kp hkr (by omega)⟩, HOi.out.b.trans (hkr.below HOi.out.b.size (fun q e => by omega))⟩
end
section
open Go.RowKit Go
theorem end_ct {wx : World} {R : Nat} {c : Array Value} {fn : Func} {p u : Tmp} {tmps : Array Value} {T : TypeId} {fs : Array Field} {x : Value} (hf : fn.results = #[.cell p T, .tmp u]) (hr : wx.heap[R]? = some (.cells c T (0, 0))) (hp : tmps.getD p undef = .pointer (some ⟨R, 0, none⟩)) (hx : tmps.getD u undef = x) (hu : Tryz.prog.underlying T = some (.struct fs)) (hi : (Tryz.prog.info? T).map (·.size) = some c.size) : (results fn tmps).run Tryz.prog wx = .ok (.tuple #[.agg c, x]) wx := by
  have h1 := run_loadVar_row (P := Tryz.prog) wx R T T c (0, 0) _ hr hu rfl hi
  refine (results_cell_tmp hf _ _ _).trans ?_
  rw [hp, hx]
  simp [asAddr, h1, Result.andThen]
theorem otp_tpi (w : World) (s : ByteArray) (hs : s.size ≤ 140737488351232) : Tpi w (otp s) #[.string s, .int .i64 0, .int .i64 0, .int .i64 0, .string ⟨#[]⟩, .bool false, .slice none 0 0, .slice none 0 0, .slice none 0 0] := ⟨⟨.slice none 0 0, .slice none 0 0, .slice none 0 0, rfl, GSl.nil, GSl.nil, ⟨⟨none, 0, rfl, ⟨Nat.le_refl _, fun _ => rfl⟩, .inl rfl⟩, Nat.zero_le _, fun _ h => by cases h⟩⟩, ⟨hs, by show (ByteArray.mk #[]).size ≤ _; decide, ⟨by show (-9223372036854775808 : Int) ≤ 0; decide, by show (0 : Int) ≤ _; decide⟩, ⟨by show (-9223372036854775808 : Int) ≤ 0; decide, by show (0 : Int) ≤ _; decide⟩, ⟨by show (-9223372036854775808 : Int) ≤ 0; decide, by show (0 : Int) ≤ _; decide⟩⟩⟩
theorem ztp_tpi (w : World) : Tpi w ztp #[.string ⟨#[]⟩, .int .i64 0, .int .i64 0, .int .i64 0, .string ⟨#[]⟩, .bool false, .slice none 0 0, .slice none 0 0, .slice none 0 0] := otp_tpi w ⟨#[]⟩ (by decide)
structure Fin2 (w wx : World) (vt : Value) (B : Nat) : Prop where
  a : wx.heap[w.heap.size]? = some (.cells #[vt, .map (some B)] 76 (0, 0))
  r : wx.heap[w.heap.size + 1]? = some (.cells #[.string ⟨#[]⟩, .int .i64 0, .int .i64 0, .int .i64 0, .string ⟨#[]⟩, .bool false, .slice none 0 0, .slice none 0 0, .slice none 0 0] 69 (0, 0))
  b : Below w.heap.size w wx
theorem Fin2.start (w : World) (vt : Value) (B : Nat) : Fin2 w ((w.alloc (.cells #[vt, .map (some B)] 76)).alloc (.cells #[.string ⟨#[]⟩, .int .i64 0, .int .i64 0, .int .i64 0, .string ⟨#[]⟩, .bool false, .slice none 0 0, .slice none 0 0, .slice none 0 0] 69)) vt B := by
  have h1 := heap_alloc_new w (.cells #[vt, .map (some B)] 76)
  have e1 : (w.alloc (.cells #[vt, .map (some B)] 76)).heap.size = w.heap.size + 1 := by simp
  have h2 := heap_alloc_new (w.alloc (.cells #[vt, .map (some B)] 76)) (.cells #[.string ⟨#[]⟩, .int .i64 0, .int .i64 0, .int .i64 0, .string ⟨#[]⟩, .bool false, .slice none 0 0, .slice none 0 0, .slice none 0 0] 69)
  rw [e1] at h2
  exact ⟨blk_alloc _ h1, h2, (below_alloc4 w _).trans ((below_alloc4 _ _).mono (below_alloc4 w _).size)⟩
theorem Fin2.next {w wx wy : World} {vt : Value} {B : Nat} (h : Fin2 w wx vt B) (hb : Below wx.heap.size wx wy) : Fin2 w wy vt B := ⟨(hb.block _ (blk_lt h.a)).trans h.a, (hb.block _ (blk_lt h.r)).trans h.r, h.b.trans (hb.mono h.b.size)⟩
theorem Fin2.set {w wx : World} {vt : Value} {B : Nat} (h : Fin2 w wx vt B) (c : Array Value) : (wx.setRow (w.heap.size + 1) c).heap[w.heap.size + 1]? = some (.cells c 69 (0, 0)) ∧ Below w.heap.size w (wx.setRow (w.heap.size + 1) c) := ⟨row_same h.r, h.b.trans ((row_kp wx _ c).below h.b.size (fun q e => by omega))⟩
def FndP (w : World) (l : List Tp) (s : ByteArray) (e : Ending) (w' : World) : Prop := ∃ c, e = .returned (.tuple #[.agg c, .bool (fnd l s).2]) ∧ Tpi w' (fnd l s).1 c ∧ Below w.heap.size w w'
theorem FndP.mk {w w' : World} {l : List Tp} {s : ByteArray} {c : Array Value} {t : Tp} {b : Bool} (h : fnd l s = (t, b)) (hc : Tpi w' t c) (hb : Below w.heap.size w w') : FndP w l s (.returned (.tuple #[.agg c, .bool b])) w' := ⟨c, by rw [h], by rw [h]; exact hc, hb⟩
set_option maxRecDepth 1000000 in
set_option maxHeartbeats 1000000 in
theorem find_any (w : World) (hT : Otb w) (vt : Value) (B : Nat) (l : List Tp) (hB : Sbok w vt B l) (s : ByteArray) (hs : s.size ≤ 140737488351232) : Calls Tryz.prog 41 #[.agg #[vt, .map (some B)], .string s] w (FndP w l s) := by
  have HT := hide hT
  have HB := hide hB
  have HS := hide hs
  have hmax := hB.t.max
  obtain ⟨⟨⟨a, cap, rfl, _, hform⟩, _⟩, _⟩ := hB
  have HF := hide hform
  have HW := hide (Fin2.start w (.slice a l.length cap) B)
  have HB1 := hide (HB.out.next HW.out.b)
  obtain ⟨n, hm⟩ := HB1.out.m
  have HM := hide hm
  have HIT : Hid (∀ c : Array Value, c.size = 9 → (Tryz.prog.info? 69).map (·.size) = some c.size) := fun c h => by rw [h]; exact infoTp
  have HAT : Hid (∀ w, (isAgg 69).run Tryz.prog w = .ok true w) := aggTp
  have HI9 := hide infoTp
  clear hform hT hs hm
  go_enter Tryz.func41, Tryz.ntmps41
  cases hp : plc l s with
  | some i => as_aux_lemma =>
    have hps : gpl l s = some (i : Int) := by unfold gpl; rw [hp]; rfl
    have HPS := hide hps
    obtain ⟨t, ht, htn⟩ := plc_lt hp
    have hil : i < l.length := (List.getElem?_eq_some_iff.1 ht).1
    have HFN : Hid (fnd l s = (t, true)) := by show _ = _; unfold fnd; rw [hp]; simp only [List.getD, ht]; rfl
    have g1 : (i : Int) < (l.length : Int) := by omega
    obtain ⟨b, off, rfl, hcc⟩ := HF.out.resolve_left (fun h => by rw [h] at hil; simp at hil)
    obtain ⟨c, hc, hcell⟩ := hcc i t ht
    have HC := hide hc
    obtain ⟨⟨vf, vc, vw, rfl, ⟨⟨af, cf, rfl, -, -⟩, -⟩, ⟨⟨ac, cc, rfl, -, -⟩, -⟩, ⟨⟨aw, cw, rfl, -, -⟩, -, -⟩⟩, hbd⟩ := hc
    unfold tpc at hcell HC
    have HCL : Hid (∀ wx, Below w.heap.size w wx → ∀ j u, (#[.string t.n, .int .i64 t.k, .int .i64 t.lo, .int .i64 t.hi, .string t.r.n, .bool t.r.z, .slice af t.fs.length cf, .slice ac t.cs.length cc, .slice aw t.ws.length cw] : Array Value)[j]? = some u → wx.cell? ⟨b, off + i * 9 + j, none⟩ = some u) := fun wx hx j u hj => keep_below hx _ _ (hcell j u hj)
    have HA1 : Hid ((#[.string t.n, .int .i64 t.k, .int .i64 t.lo, .int .i64 t.hi, .string t.r.n, .bool t.r.z, .slice af t.fs.length cf, .slice ac t.cs.length cc, .slice aw t.ws.length cw] : Array Value).all (·.oneCell') = true) := by show _ = _; simp [Value.oneCell']
    have q0 := blk_cell (j := 0) HW.out.a rfl
    have q1 := blk_cell (j := 1) HW.out.a rfl
    have HR := hide HW.out.r
    clear hcc hcell hbd ht htn hp hps hil HF
    go_wp2_with (first
      | (refine wpList_lookGo rfl rfl rfl rfl HM.out HS.out ?_; rw [HPS.out])
      | (refine wpList_aggAt rfl rfl HI9.out HAT.out b (off + i * 9) #[.string t.n, .int .i64 t.k, .int .i64 t.lo, .int .i64 t.hi, .string t.r.n, .bool t.r.z, .slice af t.fs.length cf, .slice ac t.cs.length cc, .slice aw t.ws.length cw] rfl rfl (HCL.out _ HW.out.b) ?_)
      | (refine wpList_storeRow rfl rfl (w.heap.size + 1) #[.string ⟨#[]⟩, .int .i64 0, .int .i64 0, .int .i64 0, .string ⟨#[]⟩, .bool false, .slice none 0 0, .slice none 0 0, .slice none 0 0] #[.string t.n, .int .i64 t.k, .int .i64 t.lo, .int .i64 t.hi, .string t.r.n, .bool t.r.z, .slice af t.fs.length cf, .slice ac t.cs.length cc, .slice aw t.ws.length cw] 69 rfl rfl HR.out (HIT.out _ rfl) rfl HA1.out ?_))
    have hs2 := HW.out.set #[.string t.n, .int .i64 t.k, .int .i64 t.lo, .int .i64 t.hi, .string t.r.n, .bool t.r.z, .slice af t.fs.length cf, .slice ac t.cs.length cc, .slice aw t.ws.length cw]
    exact bodyPost_ret (end_ct rfl hs2.1 rfl rfl Tryz.underlying69 infoTp) rfl (FndP.mk HFN.out (HC.out.move (keep_below hs2.2)) hs2.2)
  | none =>
    have hps : gpl l s = none := by unfold gpl; rw [hp]; rfl
    have HPS := hide hps
    have HPN := hide hp
    clear hp hps
    have q0 := blk_cell (j := 0) HW.out.a rfl
    have q1 := blk_cell (j := 1) HW.out.a rfl
    go_wp2_with (refine wpList_lookGo rfl rfl rfl rfl HM.out HS.out ?_; rw [HPS.out])
    generalize (w.alloc (.cells #[.slice a l.length cap, .map (some B)] 76)).alloc (.cells #[.string ⟨#[]⟩, .int .i64 0, .int .i64 0, .int .i64 0, .string ⟨#[]⟩, .bool false, .slice none 0 0, .slice none 0 0, .slice none 0 0] 69) = w1 at *
    refine (ownKind_any s w1 (HT.out.next (keep_below HW.out.b))).mono ?_
    rintro e w2 ⟨rfl, hb⟩
    have HW2 := hide (HW.out.next hb)
    have HR := hide HW2.out.r
    clear hb HM HB1
    cases ho : ownK s with
    | some k => as_aux_lemma =>
      have HFN : Hid (fnd l s = (otp s, true)) := by show _ = _; unfold fnd; rw [HPN.out]; simp only; rw [ho]; rfl
      clear ho
      simp only [Option.getD_some, Option.isSome_some]
      have HA1 : Hid ((#[.string s, .int .i64 0, .int .i64 0, .int .i64 0, .string ⟨#[]⟩, .bool false, .slice none 0 0, .slice none 0 0, .slice none 0 0] : Array Value).all (·.oneCell') = true) := by show _ = _; simp [Value.oneCell']
      go_wp2_with (refine wpList_storeRow rfl rfl (w.heap.size + 1) #[.string ⟨#[]⟩, .int .i64 0, .int .i64 0, .int .i64 0, .string ⟨#[]⟩, .bool false, .slice none 0 0, .slice none 0 0, .slice none 0 0] #[.string s, .int .i64 0, .int .i64 0, .int .i64 0, .string ⟨#[]⟩, .bool false, .slice none 0 0, .slice none 0 0, .slice none 0 0] 69 rfl rfl HR.out (HIT.out _ rfl) rfl HA1.out ?_)
      have hs2 := HW2.out.set #[.string s, .int .i64 0, .int .i64 0, .int .i64 0, .string ⟨#[]⟩, .bool false, .slice none 0 0, .slice none 0 0, .slice none 0 0]
      exact bodyPost_ret (end_ct rfl hs2.1 rfl rfl Tryz.underlying69 infoTp) rfl (FndP.mk HFN.out (otp_tpi _ s HS.out) hs2.2)
    | none => as_aux_lemma =>
      have HFN : Hid (fnd l s = (ztp, false)) := by show _ = _; unfold fnd; rw [HPN.out]; simp only; rw [ho]; rfl
      clear ho
      simp only [Option.getD_none, Option.isSome_none]
      have HA1 : Hid ((#[.string ⟨#[]⟩, .int .i64 0, .int .i64 0, .int .i64 0, .string ⟨#[]⟩, .bool false, .slice none 0 0, .slice none 0 0, .slice none 0 0] : Array Value).all (·.oneCell') = true) := by show _ = _; simp [Value.oneCell']
      go_wp2_with (refine wpList_storeRow rfl rfl (w.heap.size + 1) #[.string ⟨#[]⟩, .int .i64 0, .int .i64 0, .int .i64 0, .string ⟨#[]⟩, .bool false, .slice none 0 0, .slice none 0 0, .slice none 0 0] #[.string ⟨#[]⟩, .int .i64 0, .int .i64 0, .int .i64 0, .string ⟨#[]⟩, .bool false, .slice none 0 0, .slice none 0 0, .slice none 0 0] 69 rfl rfl HR.out (HIT.out _ rfl) rfl HA1.out ?_)
      have hs2 := HW2.out.set #[.string ⟨#[]⟩, .int .i64 0, .int .i64 0, .int .i64 0, .string ⟨#[]⟩, .bool false, .slice none 0 0, .slice none 0 0, .slice none 0 0]
      exact bodyPost_ret (end_ct rfl hs2.1 rfl rfl Tryz.underlying69 infoTp) rfl (FndP.mk HFN.out (ztp_tpi _) hs2.2)
end
section
open Go.RowKit Go
theorem any_list : nAny.toList = [97, 110, 121] := by rw [ByteArray.toList_eq]; rfl
theorem null_list : nNull.toList = [110, 117, 108, 108] := by rw [ByteArray.toList_eq]; rfl
theorem infoEn : (Tryz.prog.info? 128).map (·.size) = some 2 := by kernel_rfl
theorem aggBk (w : World) : (isAgg 76).run Tryz.prog w = .ok true w := by
  unfold isAgg
  rw [Sem.run_bind, run_underlying Tryz.underlying76 w]
  simp
theorem flw_size {l : List Tp} (hl : ∀ t ∈ l, t.r.n.size ≤ 140737488351232) (s : ByteArray) : (fnd l s).1.r.n.size ≤ 140737488351232 := by
  unfold fnd
  cases h : plc l s with
  | some i =>
    obtain ⟨t, ht, _⟩ := plc_lt h
    simp only [List.getD, ht]
    exact hl t (List.mem_of_getElem? ht)
  | none =>
    simp only
    split
    · show (ByteArray.mk #[]).size ≤ _; decide
    · show (ByteArray.mk #[]).size ≤ _; decide
structure Flw (w : World) (vt : Value) (B : Nat) (l : List Tp) (wx : World) : Prop where
  a : wx.heap[w.heap.size]? = some (.cells #[vt, .map (some B)] 76 (0, 0))
  r : wx.heap[w.heap.size + 1]? = some (.cells #[.string ⟨#[]⟩, .bool false] 128 (0, 0))
  b : Below w.heap.size w wx
theorem Flw.start (w : World) (vt : Value) (B : Nat) (l : List Tp) : Flw w vt B l ((w.alloc (.cells #[vt, .map (some B)] 76)).alloc (.cells #[.string ⟨#[]⟩, .bool false] 128)) := by
  have h1 := heap_alloc_new w (.cells #[vt, .map (some B)] 76)
  have e1 : (w.alloc (.cells #[vt, .map (some B)] 76)).heap.size = w.heap.size + 1 := by simp
  have h2 := heap_alloc_new (w.alloc (.cells #[vt, .map (some B)] 76)) (.cells #[.string ⟨#[]⟩, .bool false] 128)
  rw [e1] at h2
  exact ⟨blk_alloc _ h1, h2, (below_alloc4 w _).trans ((below_alloc4 _ _).mono (below_alloc4 w _).size)⟩
theorem Flw.next {w wx wy : World} {vt : Value} {B : Nat} {l : List Tp} (h : Flw w vt B l wx) (hb : Below wx.heap.size wx wy) : Flw w vt B l wy := ⟨(hb.block _ (blk_lt h.a)).trans h.a, (hb.block _ (blk_lt h.r)).trans h.r, h.b.trans (hb.mono h.b.size)⟩
theorem Flw.set {w wx : World} {vt : Value} {B : Nat} {l : List Tp} (h : Flw w vt B l wx) (c : Array Value) : (wx.setRow (w.heap.size + 1) c).heap[w.heap.size + 1]? = some (.cells c 128 (0, 0)) ∧ Below w.heap.size w (wx.setRow (w.heap.size + 1) c) := ⟨row_same h.r, h.b.trans ((row_kp wx _ c).below h.b.size (fun q e => by omega))⟩
theorem Flw.cells {w wx : World} {vt : Value} {B : Nat} {l : List Tp} (h : Flw w vt B l wx) : ∀ j u, (#[vt, .map (some B)] : Array Value)[j]? = some u → wx.cell? ⟨w.heap.size, 0 + j, none⟩ = some u := fun j u hu => by rw [Nat.zero_add]; exact blk_cell h.a hu
set_option maxRecDepth 1000000 in
set_option maxHeartbeats 1000000 in
theorem follow_any (w : World) (hT : Otb w) (vt : Value) (B : Nat) (l : List Tp) (hB : Sbok w vt B l) (hl : ∀ t ∈ l, t.r.n.size ≤ 140737488351232) (s : ByteArray) (hs : s.size ≤ 140737488351232) : Calls Tryz.prog 64 #[.agg #[vt, .map (some B)], .string s] w fun e w' => e = .returned (.agg #[.string (flo l s).1, .bool (flo l s).2]) ∧ Below w.heap.size w w' := by
  have HT := hide hT
  have HB := hide hB
  have HS := hide hs
  have HL := hide hl
  have hmax := hB.t.max
  obtain ⟨⟨⟨a, cap, rfl, _, _⟩, _⟩, _⟩ := hB
  have HW := hide (Flw.start w (.slice a l.length cap) B l)
  have HIB := hide infoBk
  have HAB : Hid (∀ w, (isAgg 76).run Tryz.prog w = .ok true w) := aggBk
  have HIE : Hid (∀ c : Array Value, c.size = 2 → (Tryz.prog.info? 128).map (·.size) = some c.size) := fun c h => by rw [h]; exact infoEn
  clear hT hs hl
  go_enter Tryz.func64, Tryz.ntmps64
  have q0 := blk_cell (j := 0) HW.out.a rfl
  have e1 : IntKind.i64.wrap ((l.length : Int) + 1) = ((l.length + 1 : Nat) : Int) := by rw [IntKind.wrap_i64]; omega
  go_wp2_with fail
  generalize (w.alloc (.cells #[.slice a l.length cap, .map (some B)] 76)).alloc (.cells #[.string ⟨#[]⟩, .bool false] 128) = w1 at *
  clear q0 e1
  go_loopw [1, 5, 12] (fun vs vz vi wx => ∃ (i : Nat) (s' : ByteArray) (z : Bool), i ≤ l.length + 1 ∧ vs = .string s' ∧ vz = .bool z ∧ vi = .int .i64 (i : Nat) ∧ Hid (s'.size ≤ 140737488351232) ∧ Hid (flw l (l.length + 1 - i) s' z = flo l s) ∧ Hid (Flw w (.slice a l.length cap) B l wx)) (fun _ _ vi _ => l.length + 1 - (intOf vi).toNat)
  case atStart => exact ⟨0, s, false, by omega, rfl, rfl, rfl, HS, rfl, HW⟩
  case round =>
    obtain ⟨i, s', z, hi, rfl, rfl, rfl, HSS, HFL, HWx⟩ := hrel
    clear HW
    by_cases hlt : i < l.length + 1
    · have g1 : (i : Int) < (l.length : Int) + 1 := by omega
      have HE : Hid (flw l (l.length + 1 - i) s' z = if (fnd l s').1.k ≠ 1 then (s', z || decide (s' = nAny) || decide (s' = nNull)) else flw l (l.length + 1 - (i + 1)) (fnd l s').1.r.n (z || (fnd l s').1.r.z)) := by
        show _ = _
        rw [show l.length + 1 - i = (l.length + 1 - (i + 1)) + 1 by omega]
        rfl
      rw [HFL.out] at HE
      have HZ2 := hide (flw_size HL.out s')
      have HCB := hide HWx.out.cells
      clear HFL
      go_wp2_with (refine wpList_aggAt rfl rfl HIB.out HAB.out w.heap.size 0 #[.slice a l.length cap, .map (some B)] rfl rfl HCB.out ?_)
      refine (find_any wr (HT.out.next (keep_below HWx.out.b)) _ B l (HB.out.next HWx.out.b) s' HSS.out).mono ?_
      rintro e w2 ⟨c, rfl, hc, hb⟩
      replace HWx := hide (HWx.out.next hb)
      clear hb HCB
      generalize (fnd l s').2 = fb at *
      generalize (fnd l s').1 = T at *
      obtain ⟨⟨vf, vc, vw, rfl, ⟨⟨af, cf, rfl, -, -⟩, -⟩, ⟨⟨ac, cc, rfl, -, -⟩, -⟩, ⟨⟨aw, cw, rfl, -, -⟩, -, -⟩⟩, hbd⟩ := hc
      unfold tpc
      have HX := hide (HWx.out.next (below_alloc4 w2 (.cells #[.string T.n, .int .i64 T.k, .int .i64 T.lo, .int .i64 T.hi, .string T.r.n, .bool T.r.z, .slice af T.fs.length cf, .slice ac T.cs.length cc, .slice aw T.ws.length cw] 69)))
      have HR := hide HX.out.r
      clear hbd HWx
      by_cases hk : T.k = 1
      · as_aux_lemma =>
        have gk : (T.k != 1) = false := by rw [hk]; rfl
        have HE2 : Hid (flw l (l.length + 1 - (i + 1)) T.r.n (z || T.r.z) = flo l s) := by
          have h := HE.out
          rw [if_neg (fun h => h hk)] at h
          exact h.symm
        clear HE hk
        cases z with
        | true =>
          go_wp2_with fail
          go_quiet (fail)
          go_wp2_with fail
          go_roundw
          case rel => exact ⟨i + 1, T.r.n, true, by omega, rfl, rfl, by go_num, HZ2, HE2, HX.out.next (_root_.Go.below_drewN (Below.refl _ _) _)⟩
          case measure => simp [intOf]; omega
        | false =>
          go_wp2_with fail
          go_quiet (fail)
          go_wp2_with fail
          go_roundw
          case rel => exact ⟨i + 1, T.r.n, T.r.z, by omega, rfl, rfl, by go_num, HZ2, (by have h := HE2.out; rw [Bool.false_or] at h; exact h), HX.out.next (_root_.Go.below_drewN (Below.refl _ _) _)⟩
          case measure => simp [intOf]; omega
      · as_aux_lemma =>
        have gk : (T.k != 1) = true := by simp [hk]
        rw [if_pos hk] at HE
        clear hk
        cases z with
        | true =>
          have HA1 : Hid ((#[.string s', .bool true] : Array Value).all (·.oneCell') = true) := by show _ = _; simp [Value.oneCell']
          go_wp2_with (refine wpList_storeRow rfl rfl (w.heap.size + 1) #[.string ⟨#[]⟩, .bool false] #[.string s', .bool true] 128 rfl rfl HR.out (HIE.out _ rfl) rfl HA1.out ?_)
          have hs2 := HX.out.set #[.string s', .bool true]
          exact bodyPost_ret (results_cell_row rfl _ _ _ _ _ _ _ rfl hs2.1 Tryz.underlying128 rfl infoEn) rfl ⟨by rw [HE.out]; rfl, hs2.2⟩
        | false =>
          by_cases ha : s' = nAny
          · have ga : (s'.toList == nAny.toList) = true := by rw [ha]; exact str_yes _
            have HA1 : Hid ((#[.string s', .bool true] : Array Value).all (·.oneCell') = true) := by show _ = _; simp [Value.oneCell']
            have HEE : Hid (flo l s = (s', true)) := by show _ = _; rw [HE.out, decide_eq_true ha]; rfl
            clear HE ha
            rw [any_list] at ga
            go_wp2_with (refine wpList_storeRow rfl rfl (w.heap.size + 1) #[.string ⟨#[]⟩, .bool false] #[.string s', .bool true] 128 rfl rfl HR.out (HIE.out _ rfl) rfl HA1.out ?_)
            have hs2 := HX.out.set #[.string s', .bool true]
            exact bodyPost_ret (results_cell_row rfl _ _ _ _ _ _ _ rfl hs2.1 Tryz.underlying128 rfl infoEn) rfl ⟨by rw [HEE.out], hs2.2⟩
          · have ga : (s'.toList == nAny.toList) = false := str_no ha
            obtain ⟨nb, hnb⟩ : ∃ nb, nb = decide (s' = nNull) := ⟨_, rfl⟩
            have gn : (s'.toList == nNull.toList) = nb := by
              by_cases hn : s' = nNull
              · rw [hnb, decide_eq_true hn, hn]; exact str_yes _
              · rw [hnb, decide_eq_false hn]; exact str_no hn
            have HEE : Hid (flo l s = (s', nb)) := by show _ = _; rw [HE.out, decide_eq_false ha, hnb]; rfl
            have HA1 : Hid ((#[.string s', .bool nb] : Array Value).all (·.oneCell') = true) := by show _ = _; simp [Value.oneCell']
            clear HE ha hnb
            rw [any_list] at ga
            rw [null_list] at gn
            go_wp2_with (refine wpList_storeRow rfl rfl (w.heap.size + 1) #[.string ⟨#[]⟩, .bool false] #[.string s', .bool nb] 128 rfl rfl HR.out (HIE.out _ rfl) rfl HA1.out ?_)
            have hs2 := HX.out.set #[.string s', .bool nb]
            exact bodyPost_ret (results_cell_row rfl _ _ _ _ _ _ _ rfl hs2.1 Tryz.underlying128 rfl infoEn) rfl ⟨by rw [HEE.out], hs2.2⟩
    · as_aux_lemma =>
      have g1 : ¬ (i : Int) < (l.length : Int) + 1 := by omega
      have HE : Hid (flo l s = (⟨#[]⟩, false)) := by
        show _ = _
        rw [← HFL.out, show l.length + 1 - i = 0 by omega]
        rfl
      have HR := hide HWx.out.r
      have HA1 : Hid ((#[.string ⟨#[]⟩, .bool false] : Array Value).all (·.oneCell') = true) := by show _ = _; simp [Value.oneCell']
      clear HFL
      go_wp2_with (refine wpList_storeRow rfl rfl (w.heap.size + 1) #[.string ⟨#[]⟩, .bool false] #[.string ⟨#[]⟩, .bool false] 128 rfl rfl HR.out (HIE.out _ rfl) rfl HA1.out ?_)
      have hs2 := HWx.out.set #[.string ⟨#[]⟩, .bool false]
      exact bodyPost_ret (results_cell_row rfl _ _ _ _ _ _ _ rfl hs2.1 Tryz.underlying128 rfl infoEn) rfl ⟨by rw [HE.out], hs2.2⟩
end
section
open Go.RowKit Go
def gfl (l : List (Array Value)) : List Value := l.flatMap (·.toList)
theorem gfl_app (a b : List (Array Value)) : gfl (a ++ b) = gfl a ++ gfl b := by simp [gfl]
theorem gfl_len {k : Nat} : ∀ {l : List (Array Value)}, (∀ c ∈ l, c.size = k) → (gfl l).length = l.length * k
  | [], _ => by simp [gfl]
  | c :: r, h => by
    have ih := gfl_len (l := r) (fun x hx => h x (List.mem_cons_of_mem _ hx))
    have h0 := h c (List.mem_cons_self ..)
    have e : gfl (c :: r) = c.toList ++ gfl r := by simp [gfl]
    rw [e, List.length_append, ih, List.length_cons, Nat.succ_mul, Array.length_toList, h0, Nat.add_comm]
theorem gfl_get {n : Nat} : ∀ {l : List (Array Value)}, (∀ c ∈ l, c.size = n) → ∀ (k : Nat) (c : Array Value) (j : Nat) (u : Value), l[k]? = some c → c[j]? = some u → (gfl l)[k * n + j]? = some u
  | [], _, k, c, j, u, hk, _ => by cases hk
  | x :: r, h, 0, c, j, u, hk, hj => by
    have e : gfl (x :: r) = x.toList ++ gfl r := by simp [gfl]
    have hx : x = c := by simpa using hk
    subst hx
    rw [e, Nat.zero_mul, Nat.zero_add, List.getElem?_append_left (by have := (Array.getElem?_eq_some_iff.1 hj).1; simpa using this)]
    simpa using hj
  | x :: r, h, k + 1, c, j, u, hk, hj => by
    have e : gfl (x :: r) = x.toList ++ gfl r := by simp [gfl]
    have h0 := h x (List.mem_cons_self ..)
    have ih := gfl_get (fun y hy => h y (List.mem_cons_of_mem _ hy)) k c j u (by simpa using hk) hj
    rw [e, List.getElem?_append_right (by rw [Array.length_toList, h0, Nat.succ_mul]; omega), Array.length_toList, h0, Nat.succ_mul, show k * n + n + j - n = k * n + j by omega]
    exact ih
theorem addr0 (g j : Nat) : (⟨g, 0, none⟩ : Addr).add j = ⟨g, j, none⟩ := by unfold Addr.add; split <;> simp_all
theorem addrO (g o j : Nat) : (⟨g, o, none⟩ : Addr).add j = ⟨g, o + j, none⟩ := by unfold Addr.add; split <;> simp_all
theorem info_ex {T : TypeId} {z : Value} {k by' : Nat} (h : (Tryz.prog.info? T).map (fun i => (i.zero, i.size, i.bytes)) = some (some z, k, by')) : ∃ i, Tryz.prog.info? T = some i ∧ i.zero = some z ∧ i.size = k ∧ i.bytes = by' := by
  cases hi : Tryz.prog.info? T with
  | none => rw [hi] at h; cases h
  | some i =>
    rw [hi] at h
    injection h with h
    injection h with h1 h2
    injection h2 with h2 h3
    exact ⟨i, rfl, h1, h2, h3⟩
theorem append_gB {ops : Array Oper} {rest : List Oper} {o : Oper} {a : Act} {Q : Exit → Act → World → Prop} {w : World} {S T : TypeId} {z : Value} {k by' : Nat} (hI : (Tryz.prog.info? T).map (fun i => (i.zero, i.size, i.bytes)) = some (some z, k, by')) (hS : Tryz.prog.underlying S = some (.slice T)) (hzs : z.cells.size = k) (hk : 0 < k) (hgd : o.guard = none) {s x : Operand}
    (ho : o.op = .call { callee := .builtin .append, args := #[s, x], argTypes := #[S, S] }) {B : Nat} {v : Value} {L : List (Array Value)} (hs : a.eval s = v) (hown : w.ownsRow B T k v L.length (gfl L))
    {g : Nat} {c : Array Value} (hx : a.eval x = .slice (some ⟨g, 0, none⟩) 1 1) (hg : w.heap[g]? = some (.cells c T (0, 0))) (hc : c.size = k) (h1 : ∀ u ∈ c.toList, u.oneCell' = true) (hlen : L.length + 1 ≤ 140737488355328) (hb : (L.length + 1) * by' ≤ 140737488355328) (hbase : B ≤ w.heap.size)
    (h : ∀ v' w', w'.ownsRow B T k v' (L.length + 1) (gfl (L ++ [c])) → w.grownBy w' v.ownBlock → (v'.ownBlock = v.ownBlock ∨ v'.ownBlock = some w.heap.size) → wpList Tryz.prog ops Q rest (a.put o.dst v') w') : wpList Tryz.prog ops Q (o :: rest) a w := by
  obtain ⟨i, hi, hz0, hz1, hz2⟩ := info_ex hI
  refine wpList_append_own_at w hgd s x S ho B T i z k by' hS hi hz0 hz1 hz2 hzs hk v L.length (gfl L) hs hown ⟨g, 0, none⟩ 1 1 c.toList hx (by simp [hc]) (fun j u hu => ?_) h1 (by unfold maxLen; omega) hb hbase fun v' w' h1 h2 _ h4 => h v' w' (by rw [gfl_app]; simpa [gfl] using h1) h2 h4
  rw [addr0]
  exact blk_cell hg (by simpa using hu)
theorem append_g {ops : Array Oper} {rest : List Oper} {o : Oper} {a : Act} {Q : Exit → Act → World → Prop} {w : World} {S T : TypeId} {z : Value} {k by' : Nat} (hI : (Tryz.prog.info? T).map (fun i => (i.zero, i.size, i.bytes)) = some (some z, k, by')) (hS : Tryz.prog.underlying S = some (.slice T)) (hzs : z.cells.size = k) (hk : 0 < k) (hby : by' ≤ 1000) (hgd : o.guard = none) {s x : Operand}
    (ho : o.op = .call { callee := .builtin .append, args := #[s, x], argTypes := #[S, S] }) {B : Nat} {v : Value} {L : List (Array Value)} (hs : a.eval s = v) (hown : w.ownsRow B T k v L.length (gfl L))
    {g : Nat} {c : Array Value} (hx : a.eval x = .slice (some ⟨g, 0, none⟩) 1 1) (hg : w.heap[g]? = some (.cells c T (0, 0))) (hc : c.size = k) (h1 : ∀ u ∈ c.toList, u.oneCell' = true) (hlen : L.length ≤ 1000000) (hbase : B ≤ w.heap.size)
    (h : ∀ v' w', w'.ownsRow B T k v' (L.length + 1) (gfl (L ++ [c])) → w.grownBy w' v.ownBlock → (v'.ownBlock = v.ownBlock ∨ v'.ownBlock = some w.heap.size) → wpList Tryz.prog ops Q rest (a.put o.dst v') w') : wpList Tryz.prog ops Q (o :: rest) a w := by
  have hb : (L.length + 1) * by' ≤ 140737488355328 := by
    have : (L.length + 1) * by' ≤ 1000001 * 1000 := Nat.mul_le_mul (by omega) hby
    omega
  exact append_gB hI hS hzs hk hgd ho hs hown hx hg hc h1 (by omega) hb hbase h
theorem own_formG {w : World} {B : Nat} {e : TypeId} {k : Nat} {v : Value} {n : Nat} {xs : List Value} (h : w.ownsRow B e k v n xs) : ∃ a cap, v = .slice a n cap ∧ (0 < n → ∃ g, a = some ⟨g, 0, none⟩) := by
  rcases h.2 with ⟨rfl, h0⟩ | ⟨g, cap, cur, rfl, _⟩
  · exact ⟨none, 0, by rw [h0], fun hp => by omega⟩
  · exact ⟨_, cap, rfl, fun _ => ⟨g, rfl⟩⟩
theorem own_elt {w : World} {B g n m cap k i : Nat} {T : TypeId} {L : List (Array Value)} {c : Array Value} (h : w.ownsRow B T k (.slice (some ⟨g, 0, none⟩) m cap) n (gfl L)) (hl : ∀ c ∈ L, c.size = k) (hi : L[i]? = some c) : ∀ j u, c[j]? = some u → w.cell? ⟨g, 0 + i * k + j, none⟩ = some u := fun j u hu => by
  have := h.cells (g := g) rfl (i * k + j) u (gfl_get hl i c j u hi hu)
  rw [addr0] at this
  rw [Nat.zero_add]
  exact this
theorem own_gsl {α : Type} {k : Nat} {P : World → α → Array Value → Prop} {w : World} {B : Nat} {T : TypeId} {v : Value} {L : List (Array Value)} {xs : List α} (h : w.ownsRow B T k v L.length (gfl L)) (hl : ∀ c ∈ L, c.size = k) (hn : L.length = xs.length) (hm : xs.length ≤ 140737488351232) (hp : ∀ (i : Nat) (x : α) (c : Array Value), xs[i]? = some x → L[i]? = some c → P w x c) : GSl k P w v xs := by
  rw [hn] at h
  refine ⟨?_, hm⟩
  rcases id h.2 with ⟨rfl, h0⟩ | ⟨g, cap, cur, rfl, h1, h2, h3, _⟩
  · have : xs = [] := List.length_eq_zero_iff.1 h0
    subst this
    exact ⟨none, 0, rfl, ⟨Nat.le_refl _, fun _ => rfl⟩, .inl rfl⟩
  · refine ⟨_, cap, rfl, ⟨?_, fun e => by cases e⟩, .inr ⟨g, 0, rfl, fun i x hi => ?_⟩⟩
    · omega
    · obtain ⟨hlt, _⟩ := List.getElem?_eq_some_iff.1 hi
      have hiL : L[i]? = some (L[i]'(by omega)) := List.getElem?_eq_getElem (by omega)
      exact ⟨_, hp i x _ hi hiL, own_elt h hl hiL⟩
theorem row1 {ops : Array Oper} {rest : List Oper} {o : Oper} {a : Act} {w : World} {Q : Exit → Act → World → Prop} {S T : TypeId} {z : Value} {k by' : Nat} (hI : (Tryz.prog.info? T).map (fun i => (i.zero, i.size, i.bytes)) = some (some z, k, by')) (hS : Tryz.prog.underlying S = some (.slice T)) (hk : 0 < k) (hk2 : k ≤ 100) (hzs : z.cells.size = k) (hg : o.guard = none) {x : Operand} (ho : o.op = .buildSlice S 1 #[(0, x)]) {c : Array Value} (hx : a.eval x = .agg c) (hc : c.size = k)
    (h : wpList Tryz.prog ops Q rest (a.put o.dst (.slice (some ⟨w.heap.size, 0, none⟩) 1 1)) (w.alloc (.cells c T))) : wpList Tryz.prog ops Q (o :: rest) a w := by
  obtain ⟨i, hi, hz, hs, _⟩ := info_ex hI
  refine wpList_buildSlice hg S T 1 _ ho c i _ hS hi hz (by rw [hs]; omega) (by rw [hs]; omega) ?_ h
  rw [hs]
  have e : (Array.map (fun (i, x) => (i, a.eval x)) #[((0 : Nat), x)]).toList = (([.agg c] : List Value).zipIdx 0).map fun x => (x.2, x.1) := by
    simp [hx]
  rw [e]
  generalize hX : (Array.range (1 * k)).map (z.cells[· % z.cells.size]!) = X
  have hXs : X.size = k := by rw [← hX]; simp
  obtain ⟨r, hr, hsz, hk3⟩ := Great.fill_dense (s := k) hk [.agg c] 0 X (by
    intro v hv
    rw [List.mem_singleton.1 hv]
    exact hc) (by rw [hXs]; simp)
  have e2 : r = c := by
    apply Array.ext_getElem?
    intro j
    rw [hk3 j]
    by_cases hj : j < k
    · rw [if_pos ⟨by omega, by simpa using hj⟩, Nat.div_eq_of_lt hj, Nat.mod_eq_of_lt hj]
      rfl
    · rw [if_neg (by simp; omega), Array.getElem?_eq_none (by omega), Array.getElem?_eq_none (by omega)]
  rw [hr, e2]
end
section
open Go.RowKit Go
set_option maxRecDepth 1000000 in
set_option maxHeartbeats 1000000 in
theorem kind_any (w : World) (hT : Otb w) (t : Tp) (c : Array Value) (hc : Tpi w t c) : Calls Tryz.prog 145 #[.agg c] w fun e w' => e = .returned (.int .i64 (knd t : Nat)) ∧ Below w.heap.size w w' := by
  have HT := hide hT
  obtain ⟨⟨vf, vc, vw, rfl, ⟨⟨af, cf, rfl, -, hff⟩, hfm⟩, ⟨⟨ac, cc, rfl, -, hcf⟩, hcm⟩, ⟨⟨aw, cw, rfl, -, -⟩, hwm, -⟩⟩, hbd⟩ := hc
  unfold tpc
  have hb0 := below_alloc4 w (.cells #[.string t.n, .int .i64 t.k, .int .i64 t.lo, .int .i64 t.hi, .string t.r.n, .bool t.r.z, .slice af t.fs.length cf, .slice ac t.cs.length cc, .slice aw t.ws.length cw] 69)
  have HB0 := hide hb0
  clear hff hfm hcf hcm hwm hT hb0
  go_enter Tryz.func145, Tryz.ntmps145
  by_cases h2 : t.k = 2
  · as_aux_lemma =>
    have g2 : (t.k == 2) = true := beq_iff_eq.2 h2
    have HK : Hid (knd t = 3) := by show _ = _; unfold knd; rw [if_pos h2]
    clear h2
    go_wp2_with fail
    go_ret
    exact ⟨by rw [HK.out]; rfl, HB0.out⟩
  have g2 : (t.k == 2) = false := beq_eq_false_iff_ne.2 h2
  by_cases h3 : t.k = 3
  · as_aux_lemma =>
    have g3 : (t.k == 3) = true := beq_iff_eq.2 h3
    have HK : Hid (knd t = 8) := by show _ = _; unfold knd; rw [if_neg h2, if_pos (.inl h3)]
    clear h2 h3
    go_wp2_with fail
    go_ret
    exact ⟨by rw [HK.out]; rfl, HB0.out⟩
  have g3 : (t.k == 3) = false := beq_eq_false_iff_ne.2 h3
  by_cases h6 : t.k = 6
  · as_aux_lemma =>
    have g6 : (t.k == 6) = true := beq_iff_eq.2 h6
    have HK : Hid (knd t = 8) := by show _ = _; unfold knd; rw [if_neg h2, if_pos (.inr h6)]
    clear h2 h3 h6
    go_wp2_with fail
    go_ret
    exact ⟨by rw [HK.out]; rfl, HB0.out⟩
  have g6 : (t.k == 6) = false := beq_eq_false_iff_ne.2 h6
  by_cases h4 : t.k = 4
  · as_aux_lemma =>
    have g4 : (t.k == 4) = true := beq_iff_eq.2 h4
    have HK : Hid (knd t = 9) := by show _ = _; unfold knd; rw [if_neg h2, if_neg (fun h => h.elim h3 h6), if_pos (.inl h4)]
    clear h2 h3 h6 h4
    go_wp2_with fail
    go_ret
    exact ⟨by rw [HK.out]; rfl, HB0.out⟩
  have g4 : (t.k == 4) = false := beq_eq_false_iff_ne.2 h4
  by_cases h5 : t.k = 5
  · as_aux_lemma =>
    have g5 : (t.k == 5) = true := beq_iff_eq.2 h5
    have HK : Hid (knd t = 9) := by show _ = _; unfold knd; rw [if_neg h2, if_neg (fun h => h.elim h3 h6), if_pos (.inr (.inl h5))]
    clear h2 h3 h6 h4 h5
    go_wp2_with fail
    go_ret
    exact ⟨by rw [HK.out]; rfl, HB0.out⟩
  have g5 : (t.k == 5) = false := beq_eq_false_iff_ne.2 h5
  by_cases h7 : t.k = 7
  · as_aux_lemma =>
    have g7 : (t.k == 7) = true := beq_iff_eq.2 h7
    have HK : Hid (knd t = 9) := by show _ = _; unfold knd; rw [if_neg h2, if_neg (fun h => h.elim h3 h6), if_pos (.inr (.inr h7))]
    clear h2 h3 h6 h4 h5 h7
    go_wp2_with fail
    go_ret
    exact ⟨by rw [HK.out]; rfl, HB0.out⟩
  have g7 : (t.k == 7) = false := beq_eq_false_iff_ne.2 h7
  by_cases h9 : t.k = 9
  · as_aux_lemma =>
    have g9 : (t.k == 9) = true := beq_iff_eq.2 h9
    have HK : Hid (knd t = 5) := by show _ = _; unfold knd; rw [if_neg h2, if_neg (fun h => h.elim h3 h6), if_neg (fun h => h.elim h4 (fun h => h.elim h5 h7)), if_pos h9]
    clear h2 h3 h6 h4 h5 h7 h9
    go_wp2_with fail
    go_ret
    exact ⟨by rw [HK.out]; rfl, HB0.out⟩
  have g9 : (t.k == 9) = false := beq_eq_false_iff_ne.2 h9
  have HK : Hid (knd t = (ownK t.n).getD 0) := by show _ = _; unfold knd; rw [if_neg h2, if_neg (fun h => h.elim h3 h6), if_neg (fun h => h.elim h4 (fun h => h.elim h5 h7)), if_neg h9]
  clear h2 h3 h6 h4 h5 h7 h9
  go_wp2_with fail
  refine (ownKind_any t.n _ (HT.out.next (keep_below HB0.out))).mono ?_
  rintro e w1 ⟨rfl, hb⟩
  have HB1 : Hid (Below w.heap.size w w1) := HB0.out.trans (hb.mono HB0.out.size)
  clear hb
  go_wp2_with fail
  go_ret
  exact ⟨by rw [HK.out]; rfl, HB1.out⟩
set_option maxRecDepth 1000000 in
set_option maxHeartbeats 1000000 in
theorem taken_any (w : World) (hT : Otb w) (vt : Value) (B : Nat) (l : List Tp) (hB : Sbok w vt B l) (s : ByteArray) (hs : s.size ≤ 140737488351232) (i : Nat) : Calls Tryz.prog 95 #[.agg #[vt, .map (some B)], .string s, .int .i64 (i : Nat)] w fun e w' => e = .returned (.bool ((ownK s).isSome || decide ((plc l s).getD 0 < i))) ∧ Below w.heap.size w w' := by
  have HT := hide hT
  have HB := hide hB
  have HS := hide hs
  obtain ⟨⟨⟨a, cap, rfl, _, _⟩, _⟩, _⟩ := hB
  have HA := hide (heap_alloc_new w (.cells #[.slice a l.length cap, .map (some B)] 76))
  have HB0 := hide (below_alloc4 w (.cells #[.slice a l.length cap, .map (some B)] 76))
  clear hT hs
  go_enter Tryz.func95, Tryz.ntmps95
  go_wp2_with fail
  generalize w.alloc (.cells #[.slice a l.length cap, .map (some B)] 76) = w1 at *
  refine (ownKind_any s w1 (HT.out.next (keep_below HB0.out))).mono ?_
  rintro e w2 ⟨rfl, hb⟩
  have HB2 : Hid (Below w.heap.size w w2) := HB0.out.trans (hb.mono HB0.out.size)
  have q1 : w2.cell? ⟨w.heap.size, 1, none⟩ = some (.map (some B)) := blk_cell (j := 1) ((hb.block _ (blk_lt HA.out)).trans HA.out) rfl
  obtain ⟨n, hm⟩ := (HB.out.next HB2.out).m
  have HM := hide hm
  clear hb hm
  cases ho : ownK s with
  | some k => as_aux_lemma =>
    have HO := hide ho
    clear ho
    simp only [Option.getD_some, Option.isSome_some]
    go_wp2_with fail
    go_ret
    exact ⟨by rw [HO.out]; rfl, HB2.out⟩
  | none => as_aux_lemma =>
    have HO := hide ho
    clear ho
    simp only [Option.getD_none, Option.isSome_none]
    have HG : Hid ((gpl l s).getD 0 = (((plc l s).getD 0 : Nat) : Int)) := by show _ = _; unfold gpl; cases plc l s <;> rfl
    obtain ⟨p, hp⟩ : ∃ p, p = (plc l s).getD 0 := ⟨_, rfl⟩
    rw [← hp] at HG
    have HP := hide hp
    clear hp
    go_wp2_with (refine wpList_lookG rfl rfl rfl rfl HM.out HS.out ?_; rw [HG.out])
    go_ret
    exact ⟨by rw [HO.out, ← HP.out]; simp, HB2.out⟩
set_option maxRecDepth 1000000 in
set_option maxHeartbeats 1000000 in
theorem lost_any (w : World) (hT : Otb w) (vt : Value) (B : Nat) (l : List Tp) (hB : Sbok w vt B l) (r : Rf) (hs : r.n.size ≤ 140737488351232) : Calls Tryz.prog 99 #[.agg #[vt, .map (some B)], .agg #[.string r.n, .bool r.z]] w fun e w' => e = .returned (.bool (!(fnd l r.n).2)) ∧ Below w.heap.size w w' := by
  have HT := hide hT
  have HB := hide hB
  have HS := hide hs
  obtain ⟨⟨⟨a, cap, rfl, _, _⟩, _⟩, _⟩ := hB
  have h1 := heap_alloc_new w (.cells #[.slice a l.length cap, .map (some B)] 76)
  have HB0 : Hid (Below w.heap.size w ((w.alloc (.cells #[.slice a l.length cap, .map (some B)] 76)).alloc (.cells #[.string r.n, .bool r.z] 65))) := (below_alloc4 w _).trans ((below_alloc4 _ _).mono (below_alloc4 w _).size)
  have HCB : Hid (∀ j u, (#[.slice a l.length cap, .map (some B)] : Array Value)[j]? = some u → ((w.alloc (.cells #[.slice a l.length cap, .map (some B)] 76)).alloc (.cells #[.string r.n, .bool r.z] 65)).cell? ⟨w.heap.size, 0 + j, none⟩ = some u) := fun j u hu => by rw [Nat.zero_add]; exact blk_cell (blk_alloc _ h1) hu
  have HIB := hide infoBk
  have HAB : Hid (∀ w, (isAgg 76).run Tryz.prog w = .ok true w) := aggBk
  clear hT hs h1
  go_enter Tryz.func99, Tryz.ntmps99
  go_wp2_with (refine wpList_aggAt rfl rfl HIB.out HAB.out w.heap.size 0 #[.slice a l.length cap, .map (some B)] rfl rfl HCB.out ?_)
  generalize (w.alloc (.cells #[.slice a l.length cap, .map (some B)] 76)).alloc (.cells #[.string r.n, .bool r.z] 65) = w1 at *
  refine (find_any w1 (HT.out.next (keep_below HB0.out)) _ B l (HB.out.next HB0.out) r.n HS.out).mono ?_
  rintro e w2 ⟨c, rfl, hc, hb⟩
  have HB2 : Hid (Below w.heap.size w w2) := HB0.out.trans (hb.mono HB0.out.size)
  clear hb
  generalize (fnd l r.n).1 = t at *
  obtain ⟨⟨vf, vc, vw, rfl, ⟨⟨af, cf, rfl, -, hff⟩, hfm⟩, ⟨⟨ac, cc, rfl, -, hcf⟩, hcm⟩, ⟨⟨aw, cw, rfl, -, -⟩, hwm, -⟩⟩, hbd⟩ := hc
  unfold tpc
  have HB3 : Hid (Below w.heap.size w (w2.alloc (.cells #[.string t.n, .int .i64 t.k, .int .i64 t.lo, .int .i64 t.hi, .string t.r.n, .bool t.r.z, .slice af t.fs.length cf, .slice ac t.cs.length cc, .slice aw t.ws.length cw] 69))) := HB2.out.trans ((below_alloc4 w2 _).mono HB2.out.size)
  clear hff hfm hcf hcm hwm
  go_wp2_with fail
  go_ret
  exact ⟨rfl, HB3.out⟩
theorem end_field (w : World) (s : ByteArray) (z : Bool) : (Instr.field 128 (.agg #[.string s, .bool z]) 1).run Tryz.prog w = .ok (.bool z) w := by kernel_rfl
theorem end_field0 (w : World) (s : ByteArray) (z : Bool) : (Instr.field 128 (.agg #[.string s, .bool z]) 0).run Tryz.prog w = .ok (.string s) w := by kernel_rfl
theorem exec_null {o : Oper} {a : Act} {x : Operand} {s : ByteArray} {z : Bool} {w : World} (ho : o.op = .field 128 x 1) (hx : a.eval x = .agg #[.string s, .bool z]) : (execOp a.eval o).run Tryz.prog w = .ok (.value (.bool z)) w := by
  unfold execOp
  have hr := end_field w s z
  simp only [ho, Sem.run_bind, hx, hr, Result.andThen_ok]
  rfl
theorem exec_name {o : Oper} {a : Act} {x : Operand} {s : ByteArray} {z : Bool} {w : World} (ho : o.op = .field 128 x 0) (hx : a.eval x = .agg #[.string s, .bool z]) : (execOp a.eval o).run Tryz.prog w = .ok (.value (.string s)) w := by
  unfold execOp
  have hr := end_field0 w s z
  simp only [ho, Sem.run_bind, hx, hr, Result.andThen_ok]
  rfl
set_option maxRecDepth 1000000 in
set_option maxHeartbeats 1000000 in
theorem nullTwice_any (w : World) (hT : Otb w) (vt : Value) (B : Nat) (l : List Tp) (hB : Sbok w vt B l) (hl : ∀ t ∈ l, t.r.n.size ≤ 140737488351232) (r : Rf) (hs : r.n.size ≤ 140737488351232) : Calls Tryz.prog 102 #[.agg #[vt, .map (some B)], .agg #[.string r.n, .bool r.z]] w fun e w' => e = .returned (.bool (r.z && (flo l r.n).2)) ∧ Below w.heap.size w w' := by
  have HT := hide hT
  have HB := hide hB
  have HS := hide hs
  have HL := hide hl
  obtain ⟨rn, rz⟩ := r
  simp only at HS ⊢
  obtain ⟨⟨⟨a, cap, rfl, _, _⟩, _⟩, _⟩ := hB
  have h1 := heap_alloc_new w (.cells #[.slice a l.length cap, .map (some B)] 76)
  have HB0 : Hid (∀ z, Below w.heap.size w ((w.alloc (.cells #[.slice a l.length cap, .map (some B)] 76)).alloc (.cells #[.string rn, .bool z] 65))) := fun z => (below_alloc4 w _).trans ((below_alloc4 _ _).mono (below_alloc4 w _).size)
  have HCB : Hid (∀ z j u, (#[.slice a l.length cap, .map (some B)] : Array Value)[j]? = some u → ((w.alloc (.cells #[.slice a l.length cap, .map (some B)] 76)).alloc (.cells #[.string rn, .bool z] 65)).cell? ⟨w.heap.size, 0 + j, none⟩ = some u) := fun z j u hu => by rw [Nat.zero_add]; exact blk_cell (blk_alloc _ h1) hu
  have HIB := hide infoBk
  have HAB : Hid (∀ w, (isAgg 76).run Tryz.prog w = .ok true w) := aggBk
  clear hT hs h1 hl
  cases rz with
  | false => as_aux_lemma =>
    go_enter Tryz.func102, Tryz.ntmps102
    go_wp2_with fail
    go_ret
    exact ⟨rfl, HB0.out false⟩
  | true => as_aux_lemma =>
    go_enter Tryz.func102, Tryz.ntmps102
    replace HB0 := hide (HB0.out true)
    replace HCB := hide (HCB.out true)
    go_wp2_with (refine wpList_aggAt rfl rfl HIB.out HAB.out w.heap.size 0 #[.slice a l.length cap, .map (some B)] rfl rfl HCB.out ?_)
    generalize (w.alloc (.cells #[.slice a l.length cap, .map (some B)] 76)).alloc (.cells #[.string rn, .bool true] 65) = w1 at *
    refine (follow_any w1 (HT.out.next (keep_below HB0.out)) _ B l (HB.out.next HB0.out) HL.out rn HS.out).mono ?_
    rintro e w2 ⟨rfl, hb⟩
    have HB2 : Hid (Below w.heap.size w w2) := HB0.out.trans (hb.mono HB0.out.size)
    clear hb
    go_wp2_with (refine wpList_ex rfl (exec_null rfl rfl) ?_)
    go_ret
    exact ⟨by rw [Bool.true_and]; rfl, HB2.out⟩
end
section
open Go.RowKit Go
theorem infoRfs : (Tryz.prog.info? 65).map (fun i => (i.zero, i.size, i.bytes)) = some (some (.agg #[.string ⟨#[]⟩, .bool false]), 2, 24) := by kernel_rfl
theorem kp_grown {w w' : World} {row : Option Nat} (h : w.grownBy w' row) : Kp (fun q => row = some q) w w' := ⟨h.os, h.tape, h.output, h.size, fun k hk hne => h.block k hk (fun e => hne e.symm)⟩
theorem sub_cell {w : World} {g T : Nat} {c d : Array Value} {o : Nat} (h : w.heap[g]? = some (.cells c T (0, 0))) (hd : ∀ j u, d[j]? = some u → c[o + j]? = some u) : ∀ j u, d[j]? = some u → w.cell? ⟨g, o + j, none⟩ = some u := fun j u hj => blk_cell h (hd j u hj)
structure Rfp (w : World) (c : Array Value) (v : Value) (L : List Rf) (wx : World) : Prop where
  a : wx.heap[w.heap.size]? = some (.cells c 69 (0, 0))
  o : wx.ownsRow (w.heap.size + 1) 65 2 v (L.map rfc).length (gfl (L.map rfc))
  b : Below w.heap.size w wx
theorem Rfp.next {w wx wy : World} {c : Array Value} {v : Value} {L : List Rf} (h : Rfp w c v L wx) (hb : Below wx.heap.size wx wy) : Rfp w c v L wy := ⟨(hb.block _ (blk_lt h.a)).trans h.a, (Kp.of_below (S := fun _ => False) hb).owns h.o (fun _ _ e => e), h.b.trans (hb.mono h.b.size)⟩
theorem Rfp.app {w wx wy : World} {c : Array Value} {v v' : Value} {L : List Rf} {r : Rf} (h : Rfp w c v L wx) (hg : wx.grownBy wy v.ownBlock) (ho : wy.ownsRow (w.heap.size + 1) 65 2 v' ((L.map rfc).length + 1) (gfl (L.map rfc ++ [rfc r]))) : Rfp w c v' (L ++ [r]) wy := by
  have hk := kp_grown hg
  have hq : ∀ q, v.ownBlock = some q → w.heap.size < q := fun q e => by have := (h.o.lt q e).1; omega
  refine ⟨(hk.block _ (blk_lt h.a) (fun e => by have := hq _ e; omega)).trans h.a, ?_, h.b.trans (hk.below h.b.size (fun q e => by have := hq q e; omega))⟩
  rw [List.map_append, List.length_append]
  exact ho
theorem Rfp.start {w w1 : World} {c : Array Value} (h1 : w1 = w.alloc (.cells c 69)) : Rfp w c (.slice none 0 0) [] w1 := by
  subst h1
  exact ⟨heap_alloc_new w _, World.ownsRow_nil _ _ _ _, below_alloc4 w _⟩
theorem Rfp.rsl {w wx : World} {c : Array Value} {v : Value} {L : List Rf} (h : Rfp w c v L wx) (hl : L.length ≤ 140737488351232) (hb : ∀ r ∈ L, r.n.size ≤ 140737488351232) : RSl wx v L :=
  own_gsl h.o (fun c hc => by obtain ⟨r, _, rfl⟩ := List.mem_map.1 hc; rfl) (by rw [List.length_map]) hl (fun i r c hr hc => by
    rw [List.getElem?_map, hr] at hc
    injection hc with hc
    exact ⟨hc.symm, hb r (List.mem_of_getElem? hr)⟩)
theorem rfc_one (r : Rf) : ∀ u ∈ (rfc r).toList, u.oneCell' = true := fun u hu => by
  simp only [rfc, List.mem_cons, List.not_mem_nil, or_false] at hu
  rcases hu with rfl | rfl <;> rfl
theorem append_rf {ops : Array Oper} {rest : List Oper} {o : Oper} {a : Act} {Q : Exit → Act → World → Prop} {w wx : World} (hgd : o.guard = none) {s x : Operand} (ho : o.op = .call { callee := .builtin .append, args := #[s, x], argTypes := #[121, 121] }) {c : Array Value} {v : Value} {L : List Rf} {r : Rf} (hs : a.eval s = v) (h : Rfp w c v L wx)
    (hx : a.eval x = .slice (some ⟨wx.heap.size, 0, none⟩) 1 1) (hlen : L.length + 1 ≤ 5864062014805)
    (hK : ∀ v' w', Rfp w c v' (L ++ [r]) w' → wpList Tryz.prog ops Q rest (a.put o.dst v') w') : wpList Tryz.prog ops Q (o :: rest) a (wx.alloc (.cells (rfc r) 65)) := by
  have h2 := h.next (below_alloc4 wx (.cells (rfc r) 65))
  exact append_gB infoRfs Tryz.underlying121 rfl (by decide) hgd ho hs h2.o hx (heap_alloc_new wx _) rfl (rfc_one r) (by rw [List.length_map]; omega) (by rw [List.length_map]; exact Nat.le_trans (Nat.mul_le_mul_right 24 hlen) (by decide)) (by have := blk_lt h2.a; omega) (fun v' w' h3 h4 _ => hK v' w' (h2.app h4 h3))
set_option maxRecDepth 1000000 in
set_option maxHeartbeats 1000000 in
theorem references_wid (w : World) (t : Tp) (c : Array Value) (hc : Tpi w t c) (hfc : t.fs.length + t.cs.length + 1 ≤ 5864062014805) : Calls Tryz.prog 98 #[.agg c] w fun e w' => ∃ v, e = .returned v ∧ Hid (RSl w' v (rfs t) ∧ Below w.heap.size w w') := by
  obtain ⟨⟨vf, vc, vw, rfl, ⟨⟨af, cf, rfl, -, hff⟩, hfm⟩, ⟨⟨ac, cc, rfl, -, hcf⟩, hcm⟩, ⟨⟨aw, cw, rfl, -, -⟩, hwm, -⟩⟩, hbd⟩ := hc
  have HF := hide hff
  have HC := hide hcf
  have HBD := hide hbd.r
  have HFS : Hid (∀ f ∈ t.fs, f.r.n.size ≤ 140737488351232) := fun f hf => by
    obtain ⟨i, hi, e⟩ := List.getElem_of_mem hf
    rcases hff with h | ⟨b, off, _, h⟩
    · rw [h] at hf; cases hf
    · obtain ⟨_, ⟨_, _, _, h3⟩, _⟩ := h i f (by rw [List.getElem?_eq_getElem hi, e])
      exact h3
  have HCS : Hid (∀ x ∈ t.cs, x.n.size ≤ 140737488351232) := fun x hx => by
    obtain ⟨i, hi, e⟩ := List.getElem_of_mem hx
    rcases hcf with h | ⟨b, off, _, h⟩
    · rw [h] at hx; cases hx
    · obtain ⟨_, ⟨_, _, h3⟩, _⟩ := h i x (by rw [List.getElem?_eq_getElem hi, e])
      exact h3
  have HFC := hide hfc
  unfold tpc
  clear hff hcf hbd hwm hfc
  have HIR := hide infoRf
  have HAR : Hid (∀ w, (isAgg 65).run Tryz.prog w = .ok true w) := aggRf
  go_enter Tryz.func98, Tryz.ntmps98
  go_upto_region 1 with fail
  generalize hw1 : w.alloc (.cells #[.string t.n, .int .i64 t.k, .int .i64 t.lo, .int .i64 t.hi, .string t.r.n, .bool t.r.z, .slice af t.fs.length cf, .slice ac t.cs.length cc, .slice aw t.ws.length cw] 69) = w1 at *
  have HR := hide (Rfp.start hw1.symm)
  clear hw1
  have HT6 : Hid ((#[.string t.n, .int .i64 t.k, .int .i64 t.lo, .int .i64 t.hi, .string t.r.n, .bool t.r.z, .slice af t.fs.length cf, .slice ac t.cs.length cc, .slice aw t.ws.length cw] : Array Value)[6]? = some (.slice af t.fs.length cf)) := rfl
  have HT7 : Hid ((#[.string t.n, .int .i64 t.k, .int .i64 t.lo, .int .i64 t.hi, .string t.r.n, .bool t.r.z, .slice af t.fs.length cf, .slice ac t.cs.length cc, .slice aw t.ws.length cw] : Array Value)[7]? = some (.slice ac t.cs.length cc)) := rfl
  have q1 : w1.cell? ⟨w.heap.size, 1, none⟩ = some (.int .i64 t.k) := blk_cell (j := 1) HR.out.a rfl
  have HRF : Hid (∀ j u, (#[.string t.r.n, .bool t.r.z] : Array Value)[j]? = some u → w1.cell? ⟨w.heap.size, 4 + j, none⟩ = some u) := sub_cell HR.out.a (fun j u hj => by
    rcases j with _ | _ | j
    · exact hj
    · exact hj
    · simp at hj)
  obtain ⟨tc, htc⟩ : ∃ tc : Array Value, tc = #[.string t.n, .int .i64 t.k, .int .i64 t.lo, .int .i64 t.hi, .string t.r.n, .bool t.r.z, .slice af t.fs.length cf, .slice ac t.cs.length cc, .slice aw t.ws.length cw] := ⟨_, rfl⟩
  rw [← htc] at HR HT6 HT7
  clear htc
  go_upto_region 2 with fail
  go_cut [20] from 8 to 21 (fun v wx => v = .bool (decide (t.k = 1 ∨ t.k = 3 ∨ t.k = 4)) ∧ wx = w1)
  case first =>
    as_aux_lemma =>
    by_cases h1 : t.k = 1
    · have g1 : (t.k == 1) = true := beq_iff_eq.2 h1
      have HI : Hid (decide (t.k = 1 ∨ t.k = 3 ∨ t.k = 4) = true) := decide_eq_true (.inl h1)
      clear h1
      go_wp2_with fail
      go_meet
      case rel => exact ⟨by rw [HI.out], rfl⟩
    have g1 : (t.k == 1) = false := beq_eq_false_iff_ne.2 h1
    by_cases h3 : t.k = 3
    · have g3 : (t.k == 3) = true := beq_iff_eq.2 h3
      have HI : Hid (decide (t.k = 1 ∨ t.k = 3 ∨ t.k = 4) = true) := decide_eq_true (.inr (.inl h3))
      clear h1 h3
      go_wp2_with fail
      go_meet
      case rel => exact ⟨by rw [HI.out], rfl⟩
    have g3 : (t.k == 3) = false := beq_eq_false_iff_ne.2 h3
    by_cases h4 : t.k = 4
    · have g4 : (t.k == 4) = true := beq_iff_eq.2 h4
      have HI : Hid (decide (t.k = 1 ∨ t.k = 3 ∨ t.k = 4) = true) := decide_eq_true (.inr (.inr h4))
      clear h1 h3 h4
      go_wp2_with fail
      go_meet
      case rel => exact ⟨by rw [HI.out], rfl⟩
    have g4 : (t.k == 4) = false := beq_eq_false_iff_ne.2 h4
    have HI : Hid (decide (t.k = 1 ∨ t.k = 3 ∨ t.k = 4) = false) := decide_eq_false (fun h => h.elim h1 (fun h => h.elim h3 h4))
    clear h1 h3 h4
    go_wp2_with fail
    go_meet
    case rel => exact ⟨by rw [HI.out], rfl⟩
  obtain ⟨rfl, hww⟩ := hcut
  have hww := hww.symm
  subst hww
  generalize hkb : decide (t.k = 1 ∨ t.k = 3 ∨ t.k = 4) = kb
  have HKB := hide hkb
  clear hkb
  go_upto_if 20 with fail
  go_cut [3] from 21 to 26 (fun v wx => ∃ a0 n0 c0, v = .slice a0 n0 c0 ∧ Hid (Rfp w tc (.slice a0 n0 c0) (if kb = true then [t.r] else []) wx))
  case first =>
    as_aux_lemma =>
    cases kb with
    | true =>
      have HR1 : Hid (∀ (ops : Array Oper) (rest : List Oper) (o : Oper) (a : Act) (Q : Exit → Act → World → Prop) (s x : Operand), o.guard = none → o.op = .call { callee := .builtin .append, args := #[s, x], argTypes := #[121, 121] } → a.eval s = .slice none 0 0 → a.eval x = .slice (some ⟨w1.heap.size, 0, none⟩) 1 1 → (∀ v' w', Rfp w tc v' [t.r] w' → wpList Tryz.prog ops Q rest (a.put o.dst v') w') → wpList Tryz.prog ops Q (o :: rest) a (w1.alloc (.cells #[.string t.r.n, .bool t.r.z] 65))) := fun ops rest o a Q s x h1 h2 h3 h4 h5 => append_rf (r := t.r) h1 h2 h3 HR.out h4 (by simp) h5
      go_wp2_with (first
        | (refine wpList_aggAt rfl rfl HIR.out HAR.out w.heap.size 4 #[.string t.r.n, .bool t.r.z] rfl rfl HRF.out ?_)
        | (refine row1 infoRfs Tryz.underlying121 (by decide) (by decide) rfl rfl rfl (c := #[.string t.r.n, .bool t.r.z]) rfl rfl ?_)
        | (refine HR1.out _ _ _ _ _ _ _ rfl rfl rfl rfl ?_; intro v' w' hr'))
      obtain ⟨a0, c0, hv0, _⟩ := own_formG hr'.o
      subst hv0
      go_meet
      case rel => exact ⟨_, _, _, rfl, hr'⟩
    | false =>
      go_wp2_with fail
      go_meet
      case rel => exact ⟨_, _, _, rfl, HR.out⟩
  obtain ⟨a0, n0, c0, rfl, HP⟩ := hcut
  clear HR q1 HRF
  generalize hR0 : (if kb = true then [t.r] else []) = R0 at *
  have HR0 : Hid (rfs t = R0 ++ t.fs.map (·.r) ++ t.cs.map (fun c => ⟨c.n, false⟩)) := by
    show _ = _
    unfold rfs
    rw [← hR0, ← HKB.out]
    simp only [decide_eq_true_eq]
  have HL0 : Hid (R0.length ≤ 1) := by
    show _ ≤ _
    rw [← hR0]
    split <;> simp
  have HB0 : Hid (∀ r ∈ R0, r.n.size ≤ 140737488351232) := fun r hr => by
    rw [← hR0] at hr
    split at hr
    · rw [List.mem_singleton.1 hr]; exact HBD.out
    · cases hr
  clear hR0 HKB
  rename World => w2
  have q6 : w2.cell? ⟨w.heap.size, 6, none⟩ = some (.slice af t.fs.length cf) := blk_cell (j := 6) HP.out.a HT6.out
  go_wp2_with fail
  clear q6
  go_loopw [3, 29] (fun v vi wx => ∃ (i : Nat) (a0 : Option Addr) (n0 c0 : Nat), i ≤ t.fs.length ∧ v = .slice a0 n0 c0 ∧ vi = .int .i64 (i : Nat) ∧ Hid (Rfp w tc (.slice a0 n0 c0) (R0 ++ (t.fs.take i).map (·.r)) wx)) (fun _ vi _ => t.fs.length - (intOf vi).toNat)
  case atStart => exact ⟨0, a0, n0, c0, by omega, rfl, rfl, (by show Rfp w tc _ _ _; rw [List.take_zero, List.map_nil, List.append_nil]; exact HP.out)⟩
  case round =>
    obtain ⟨i, a1, n1, c1, hi, rfl, rfl, HPi⟩ := hrel
    clear HP
    by_cases hlt : i < t.fs.length
    · as_aux_lemma =>
      have g1 : (i : Int) < (t.fs.length : Int) := by omega
      obtain ⟨f, hf⟩ : ∃ f, t.fs[i]? = some f := ⟨t.fs[i], List.getElem?_eq_getElem hlt⟩
      obtain ⟨b, off, rfl, hcc⟩ := HF.out.resolve_left (fun h => by rw [h] at hlt; simp at hlt)
      obtain ⟨c, ⟨rfl, _⟩, hcell⟩ := hcc i f hf
      unfold fdc at hcell
      have HCL : Hid (∀ j u, (#[.string f.n, .string f.k, .string f.r.n, .bool f.r.z, .bool f.m] : Array Value)[j]? = some u → wr.cell? ⟨b, off + i * 5 + j, none⟩ = some u) := fun j u hj => keep_below HPi.out.b _ _ (hcell j u hj)
      have HTK : Hid (R0 ++ (t.fs.take (i + 1)).map (·.r) = (R0 ++ (t.fs.take i).map (·.r)) ++ [f.r]) := by
        show _ = _
        rw [List.take_succ_eq_append_getElem hlt, List.map_append, List.append_assoc]
        rw [List.getElem?_eq_getElem hlt] at hf
        injection hf with hf
        rw [hf]
        rfl
      have HP1 := hide (HPi.out.next (below_alloc4 wr (.cells #[.string f.n, .string f.k, .string f.r.n, .bool f.r.z, .bool f.m] 104)))
      have HIF := hide infoFd
      have HAF : Hid (∀ w, (isAgg 104).run Tryz.prog w = .ok true w) := aggFd
      have HRF : Hid (∀ j u, (#[.string f.r.n, .bool f.r.z] : Array Value)[j]? = some u → (wr.alloc (.cells #[.string f.n, .string f.k, .string f.r.n, .bool f.r.z, .bool f.m] 104)).cell? ⟨wr.heap.size, 2 + j, none⟩ = some u) := sub_cell (heap_alloc_new wr _) (fun j u hj => by
        rcases j with _ | _ | j
        · exact hj
        · exact hj
        · simp at hj)
      have hll : (R0 ++ (t.fs.take i).map (·.r)).length + 1 ≤ 5864062014805 := by
        have h1 := HL0.out
        have h2 := HFC.out
        rw [List.length_append, List.length_map, List.length_take]
        omega
      have HLL := hide hll
      clear hll
      have HR1 : Hid (∀ (ops : Array Oper) (rest : List Oper) (o : Oper) (a : Act) (Q : Exit → Act → World → Prop) (s x : Operand), o.guard = none → o.op = .call { callee := .builtin .append, args := #[s, x], argTypes := #[121, 121] } → a.eval s = .slice a1 n1 c1 → a.eval x = .slice (some ⟨(wr.alloc (.cells #[.string f.n, .string f.k, .string f.r.n, .bool f.r.z, .bool f.m] 104)).heap.size, 0, none⟩) 1 1 → (∀ v' w', Rfp w tc v' (R0 ++ (t.fs.take (i + 1)).map (·.r)) w' → wpList Tryz.prog ops Q rest (a.put o.dst v') w') → wpList Tryz.prog ops Q (o :: rest) a ((wr.alloc (.cells #[.string f.n, .string f.k, .string f.r.n, .bool f.r.z, .bool f.m] 104)).alloc (.cells #[.string f.r.n, .bool f.r.z] 65))) := fun ops rest o a Q s x h1 h2 h3 h4 h5 => append_rf (r := f.r) h1 h2 h3 HP1.out h4 HLL.out (by rw [← HTK.out]; exact h5)
      clear hcc hcell hf HPi HF HC HR0 HB0
      go_wp2_with (first
        | (refine wpList_aggAt rfl rfl HIF.out HAF.out b (off + i * 5) #[.string f.n, .string f.k, .string f.r.n, .bool f.r.z, .bool f.m] rfl rfl HCL.out ?_)
        | (refine wpList_aggAt rfl rfl HIR.out HAR.out wr.heap.size 2 #[.string f.r.n, .bool f.r.z] rfl rfl HRF.out ?_)
        | (refine row1 infoRfs Tryz.underlying121 (by decide) (by decide) rfl rfl rfl (c := #[.string f.r.n, .bool f.r.z]) rfl rfl ?_)
        | (refine HR1.out _ _ _ _ _ _ _ rfl rfl rfl rfl ?_; intro v' w' hr'))
      obtain ⟨a2, c2, hv0, _⟩ := own_formG hr'.o
      subst hv0
      have HR' := hide hr'
      clear hr'
      go_wp2_with fail
      go_roundw
      case rel => exact ⟨i + 1, _, _, _, by omega, rfl, by go_num, HR'⟩
      case measure => simp [intOf]; omega
    · have g1 : ¬ (i : Int) < (t.fs.length : Int) := by omega
      have hil : i = t.fs.length := by omega
      have HP2 : Hid (Rfp w tc (.slice a1 n1 c1) (R0 ++ t.fs.map (·.r)) wr) := by have h := HPi.out; rw [hil, List.take_length] at h; exact h
      clear hil HPi HF
      have q7 : wr.cell? ⟨w.heap.size, 7, none⟩ = some (.slice ac t.cs.length cc) := blk_cell (j := 7) HP2.out.a HT7.out
      go_wp2_with fail
      clear q7
      go_loopw [3, 42] (fun v vi wx => ∃ (i : Nat) (a0 : Option Addr) (n0 c0 : Nat), i ≤ t.cs.length ∧ v = .slice a0 n0 c0 ∧ vi = .int .i64 (i : Nat) ∧ Hid (Rfp w tc (.slice a0 n0 c0) (R0 ++ t.fs.map (·.r) ++ (t.cs.take i).map (fun c => ⟨c.n, false⟩)) wx)) (fun _ vi _ => t.cs.length - (intOf vi).toNat)
      case atStart => exact ⟨0, a1, n1, c1, by omega, rfl, rfl, (by show Rfp w tc _ _ _; rw [List.take_zero, List.map_nil, List.append_nil]; exact HP2.out)⟩
      case round =>
        rename World => wq
        obtain ⟨i, a3, n3, c3, hi, rfl, rfl, HPi⟩ := hrel
        clear HP2
        by_cases hlt : i < t.cs.length
        · as_aux_lemma =>
          have g1 : (i : Int) < (t.cs.length : Int) := by omega
          obtain ⟨x, hx⟩ : ∃ x, t.cs[i]? = some x := ⟨t.cs[i], List.getElem?_eq_getElem hlt⟩
          obtain ⟨b, off, rfl, hcc⟩ := HC.out.resolve_left (fun h => by rw [h] at hlt; simp at hlt)
          obtain ⟨c, ⟨rfl, _⟩, hcell⟩ := hcc i x hx
          unfold czc at hcell
          have HCL : Hid (∀ j u, (#[.string x.k, .string x.n] : Array Value)[j]? = some u → wq.cell? ⟨b, off + i * 2 + j, none⟩ = some u) := fun j u hj => keep_below HPi.out.b _ _ (hcell j u hj)
          have HTK : Hid (R0 ++ t.fs.map (·.r) ++ (t.cs.take (i + 1)).map (fun c => ⟨c.n, false⟩) = (R0 ++ t.fs.map (·.r) ++ (t.cs.take i).map (fun c => ⟨c.n, false⟩)) ++ [⟨x.n, false⟩]) := by
            show _ = _
            rw [List.take_succ_eq_append_getElem hlt, List.map_append, List.append_assoc _ _ [(⟨x.n, false⟩ : Rf)]]
            rw [List.getElem?_eq_getElem hlt] at hx
            injection hx with hx
            rw [hx]
            rfl
          have HP1 := hide (HPi.out.next (below_alloc4 wq (.cells #[.string x.k, .string x.n] 114)))
          have HIF := hide infoCz
          have HAF : Hid (∀ w, (isAgg 114).run Tryz.prog w = .ok true w) := aggCz
          have hll : List.length (α := Rf) (R0 ++ t.fs.map (·.r) ++ (t.cs.take i).map (fun c => ⟨c.n, false⟩)) + 1 ≤ 5864062014805 := by
            have h1 := HL0.out
            have h2 := HFC.out
            rw [List.length_append, List.length_append, List.length_map, List.length_map, List.length_take]
            omega
          have HLL := hide hll
          clear hll
          have HR1 : Hid (∀ (ops : Array Oper) (rest : List Oper) (o : Oper) (a : Act) (Q : Exit → Act → World → Prop) (s y : Operand), o.guard = none → o.op = .call { callee := .builtin .append, args := #[s, y], argTypes := #[121, 121] } → a.eval s = .slice a3 n3 c3 → a.eval y = .slice (some ⟨(wq.alloc (.cells #[.string x.k, .string x.n] 114)).heap.size, 0, none⟩) 1 1 → (∀ v' w', Rfp w tc v' (R0 ++ t.fs.map (·.r) ++ (t.cs.take (i + 1)).map (fun c => ⟨c.n, false⟩)) w' → wpList Tryz.prog ops Q rest (a.put o.dst v') w') → wpList Tryz.prog ops Q (o :: rest) a ((wq.alloc (.cells #[.string x.k, .string x.n] 114)).alloc (.cells #[.string x.n, .bool false] 65))) := fun ops rest o a Q s y h1 h2 h3 h4 h5 => append_rf (r := ⟨x.n, false⟩) h1 h2 h3 HP1.out h4 HLL.out (by rw [← HTK.out]; exact h5)
          clear hcc hcell hx HPi HC HR0 HB0
          go_wp2_with (first
            | (refine wpList_aggAt rfl rfl HIF.out HAF.out b (off + i * 2) #[.string x.k, .string x.n] rfl rfl HCL.out ?_)
            | (refine row1 infoRfs Tryz.underlying121 (by decide) (by decide) rfl rfl rfl (c := #[.string x.n, .bool false]) rfl rfl ?_)
            | (refine HR1.out _ _ _ _ _ _ _ rfl rfl rfl rfl ?_; intro v' w' hr'))
          obtain ⟨a2, c2, hv0, _⟩ := own_formG hr'.o
          subst hv0
          have HR' := hide hr'
          clear hr'
          go_wp2_with fail
          go_roundw
          case rel => exact ⟨i + 1, _, _, _, by omega, rfl, by go_num, HR'⟩
          case measure => simp [intOf]; omega
        · as_aux_lemma =>
          have g1 : ¬ (i : Int) < (t.cs.length : Int) := by omega
          have hil : i = t.cs.length := by omega
          have HP3 : Hid (Rfp w tc (.slice a3 n3 c3) (rfs t) wq) := by have h := HPi.out; rw [hil, List.take_length, ← HR0.out] at h; exact h
          have HSZ : Hid (∀ r ∈ rfs t, r.n.size ≤ 140737488351232) := fun r hr => by
            rw [HR0.out] at hr
            rcases List.mem_append.1 hr with hr | hr
            · rcases List.mem_append.1 hr with hr | hr
              · exact HB0.out r hr
              · obtain ⟨f, hf, rfl⟩ := List.mem_map.1 hr
                exact HFS.out f hf
            · obtain ⟨x, hx, rfl⟩ := List.mem_map.1 hr
              exact HCS.out x hx
          have HLN : Hid ((rfs t).length ≤ 140737488351232) := by
            have h1 := HL0.out
            have h2 := HFC.out
            show _ ≤ _
            rw [HR0.out, List.length_append, List.length_append, List.length_map, List.length_map]
            omega
          clear hil HPi HC
          go_wp2_with fail
          go_ret
          exact ⟨_, rfl, HP3.out.rsl HLN.out HSZ.out, HP3.out.b⟩
theorem references_any (w : World) (t : Tp) (c : Array Value) (hc : Tpi w t c) (hf1 : t.fs.length ≤ 1000) (hc1 : t.cs.length ≤ 1000) : Calls Tryz.prog 98 #[.agg c] w fun e w' => ∃ v, e = .returned v ∧ Hid (RSl w' v (rfs t) ∧ Below w.heap.size w w') := references_wid w t c hc (by omega)
end
section
open Go.RowKit Go
theorem gfl_cells {w : World} {k b off : Nat} (hk : 0 < k) {L : List (Array Value)} (hl : ∀ c ∈ L, c.size = k) (h : ∀ (i : Nat) (c : Array Value), L[i]? = some c → ∀ j u, c[j]? = some u → w.cell? ⟨b, off + i * k + j, none⟩ = some u) : ∀ (j : Nat) (u : Value), (gfl L)[j]? = some u → w.cell? ⟨b, off + j, none⟩ = some u := fun j u hu => by
  have hj := (List.getElem?_eq_some_iff.1 hu).1
  rw [gfl_len hl] at hj
  have hi : j / k < L.length := (Nat.div_lt_iff_lt_mul hk).2 hj
  have hL : L[j / k]? = some L[j / k] := List.getElem?_eq_getElem hi
  have hs := hl _ (List.getElem_mem hi)
  have hr : j % k < (L[j / k]).size := by rw [hs]; exact Nat.mod_lt _ hk
  have hc : (L[j / k])[j % k]? = some (L[j / k])[j % k] := Array.getElem?_eq_getElem hr
  have hg := gfl_get hl _ _ _ _ hL hc
  have e : j / k * k + j % k = j := by rw [Nat.mul_comm]; exact Nat.div_add_mod j k
  rw [e, hu] at hg
  have h2 := h _ _ hL _ _ hc
  rw [Nat.add_assoc, e] at h2
  rw [Option.some.inj hg]
  exact h2
theorem append_allB {ops : Array Oper} {rest : List Oper} {o : Oper} {a : Act} {Q : Exit → Act → World → Prop} {w : World} {S T : TypeId} {z : Value} {k by' : Nat} (hI : (Tryz.prog.info? T).map (fun i => (i.zero, i.size, i.bytes)) = some (some z, k, by')) (hS : Tryz.prog.underlying S = some (.slice T)) (hzs : z.cells.size = k) (hk : 0 < k) (hgd : o.guard = none) {s x : Operand}
    (ho : o.op = .call { callee := .builtin .append, args := #[s, x], argTypes := #[S, S] }) {L : List (Array Value)} {ad : Option Addr} {c : Nat} (hs : a.eval s = .slice none 0 0) (hx : a.eval x = .slice ad L.length c) (hl : ∀ c ∈ L, c.size = k) (h1 : ∀ u ∈ gfl L, u.oneCell' = true) (hlen : L.length ≤ 140737488355328) (hb : (0 + L.length) * by' ≤ 140737488355328) (hc0 : ad = none → c = 0)
    (hc : L = [] ∨ ∃ b off, ad = some ⟨b, off, none⟩ ∧ ∀ (i : Nat) (d : Array Value), L[i]? = some d → ∀ j u, d[j]? = some u → w.cell? ⟨b, off + i * k + j, none⟩ = some u)
    (h : ∀ v' w', w'.ownsRow w.heap.size T k v' L.length (gfl L) → Below w.heap.size w w' → wpList Tryz.prog ops Q rest (a.put o.dst v') w') : wpList Tryz.prog ops Q (o :: rest) a w := by
  obtain ⟨i, hi, hz0, hz1, hz2⟩ := info_ex hI
  have hbel : ∀ w' : World, w.grownBy w' (Value.ownBlock (.slice none 0 0)) → Below w.heap.size w w' := fun w' hg => (kp_grown hg).below (Nat.le_refl _) (fun q e => by cases e)
  cases ad with
  | none =>
    have h0 : L = [] := hc.resolve_right (fun ⟨_, _, e, _⟩ => by cases e)
    subst h0
    have e0 := hc0 rfl
    subst e0
    refine wpList_append_own_none hgd s x S ho w.heap.size T i k hS hi (.slice none 0 0) 0 [] hs (World.ownsRow_nil _ _ _ _) hx ?_
    exact h _ w (World.ownsRow_nil _ _ _ _) (Below.refl _ _)
  | some ad =>
    have hnews : ∀ j u, (gfl L)[j]? = some u → w.cell? (ad.add j) = some u := fun j u hu => by
      rcases hc with e | ⟨b, off, e, hc⟩
      · rw [e] at hu; cases hu
      · have e' := Option.some.inj e
        subst e'
        rw [addrO]
        exact gfl_cells hk hl hc j u hu
    refine wpList_append_own_at w hgd s x S ho w.heap.size T i z k by' hS hi hz0 hz1 hz2 hzs hk (.slice none 0 0) 0 [] hs (World.ownsRow_nil _ _ _ _) ad L.length c (gfl L) hx (gfl_len hl) hnews h1 (by unfold maxLen; omega) hb (Nat.le_refl _) fun v' w' h2 h3 _ _ => ?_
    exact h v' w' (by rw [Nat.zero_add] at h2; exact h2) (hbel w' h3)
theorem append_all {ops : Array Oper} {rest : List Oper} {o : Oper} {a : Act} {Q : Exit → Act → World → Prop} {w : World} {S T : TypeId} {z : Value} {k by' : Nat} (hI : (Tryz.prog.info? T).map (fun i => (i.zero, i.size, i.bytes)) = some (some z, k, by')) (hS : Tryz.prog.underlying S = some (.slice T)) (hzs : z.cells.size = k) (hk : 0 < k) (hby : by' ≤ 1000) (hgd : o.guard = none) {s x : Operand}
    (ho : o.op = .call { callee := .builtin .append, args := #[s, x], argTypes := #[S, S] }) {L : List (Array Value)} {ad : Option Addr} {c : Nat} (hs : a.eval s = .slice none 0 0) (hx : a.eval x = .slice ad L.length c) (hl : ∀ c ∈ L, c.size = k) (h1 : ∀ u ∈ gfl L, u.oneCell' = true) (hlen : L.length ≤ 1000000) (hc0 : ad = none → c = 0)
    (hc : L = [] ∨ ∃ b off, ad = some ⟨b, off, none⟩ ∧ ∀ (i : Nat) (d : Array Value), L[i]? = some d → ∀ j u, d[j]? = some u → w.cell? ⟨b, off + i * k + j, none⟩ = some u)
    (h : ∀ v' w', w'.ownsRow w.heap.size T k v' L.length (gfl L) → Below w.heap.size w w' → wpList Tryz.prog ops Q rest (a.put o.dst v') w') : wpList Tryz.prog ops Q (o :: rest) a w := by
  have hb : (0 + L.length) * by' ≤ 140737488355328 := by
    have : (0 + L.length) * by' ≤ 1000000 * 1000 := Nat.mul_le_mul (by omega) hby
    omega
  exact append_allB hI hS hzs hk hgd ho hs hx hl h1 (by omega) hb hc0 hc h
theorem infoF3 : (Tryz.prog.info? 104).map (fun i => (i.zero, i.size, i.bytes)) = some (some (.agg #[.string ⟨#[]⟩, .string ⟨#[]⟩, .string ⟨#[]⟩, .bool false, .bool false]), 5, 64) := by kernel_rfl
theorem infoC3 : (Tryz.prog.info? 114).map (fun i => (i.zero, i.size, i.bytes)) = some (some (.agg #[.string ⟨#[]⟩, .string ⟨#[]⟩]), 2, 32) := by kernel_rfl
theorem infoS3 : (Tryz.prog.info? 9).map (fun i => (i.zero, i.size, i.bytes)) = some (some (.string ⟨#[]⟩), 1, 16) := by kernel_rfl
end
section
open Go.RowKit Go
theorem infoTp3 : (Tryz.prog.info? 69).map (fun i => (i.zero, i.size, i.bytes)) = some (some (.agg #[.string ⟨#[]⟩, .int .i64 0, .int .i64 0, .int .i64 0, .string ⟨#[]⟩, .bool false, .slice none 0 0, .slice none 0 0, .slice none 0 0]), 9, 136) := by kernel_rfl
end
section
open Go.RowKit
def tm2 (m : Nat) : ByteArray := nstr [atv m 0, atv m 1]
def cma (m : Nat) : Array Value := #[.string ⟨#[109, 97, 114, 107]⟩, .string (tm2 m)]
def fma (m : Nat) : Array Value := #[.string ⟨#[109, 97, 114, 107]⟩, .string (tm2 m), .string ⟨#[]⟩, .bool false, .bool false]
def yma (m : Nat) : Array Value := #[.string ⟨#[]⟩, .int .i64 (1000 + (m : Int)), .int .i64 0, .int .i64 0, .string ⟨#[]⟩, .bool false, .slice none 0 0, .slice none 0 0, .slice none 0 0]
def KC : Knd := ⟨67, 114, 2, 6, 8000, fun m _ => (cma m).toList⟩
def KF : Knd := ⟨66, 104, 5, 6, 8000, fun m _ => (fma m).toList⟩
def KY : Knd := ⟨49, 69, 9, 6, 8000, fun m _ => (yma m).toList⟩
theorem KC_ok : KC.Ok := ⟨by decide, by decide, by decide, by decide, by decide⟩
theorem KF_ok : KF.Ok := ⟨by decide, by decide, by decide, by decide, by decide⟩
theorem KY_ok : KY.Ok := ⟨by decide, by decide, by decide, by decide, by decide⟩
theorem infoCsS_ex : ∃ i, Tryz.prog.info? 67 = some i ∧ i.zero = some (.slice none 0 0) ∧ i.size = 1 ∧ i.bytes = 24 := by
  have h : (Tryz.prog.info? 67).map (fun i => (i.zero, i.size, i.bytes)) = some (some (.slice none 0 0), 1, 24) := by kernel_rfl
  cases hi : Tryz.prog.info? 67 with
  | none => rw [hi] at h; cases h
  | some i => rw [hi] at h; simp at h; exact ⟨i, rfl, h.1, h.2.1, h.2.2⟩
theorem infoFsS_ex : ∃ i, Tryz.prog.info? 66 = some i ∧ i.zero = some (.slice none 0 0) ∧ i.size = 1 ∧ i.bytes = 24 := by
  have h : (Tryz.prog.info? 66).map (fun i => (i.zero, i.size, i.bytes)) = some (some (.slice none 0 0), 1, 24) := by kernel_rfl
  cases hi : Tryz.prog.info? 66 with
  | none => rw [hi] at h; cases h
  | some i => rw [hi] at h; simp at h; exact ⟨i, rfl, h.1, h.2.1, h.2.2⟩
theorem infoTsS_ex : ∃ i, Tryz.prog.info? 49 = some i ∧ i.zero = some (.slice none 0 0) ∧ i.size = 1 ∧ i.bytes = 24 := by
  have h : (Tryz.prog.info? 49).map (fun i => (i.zero, i.size, i.bytes)) = some (some (.slice none 0 0), 1, 24) := by kernel_rfl
  cases hi : Tryz.prog.info? 49 with
  | none => rw [hi] at h; cases h
  | some i => rw [hi] at h; simp at h; exact ⟨i, rfl, h.1, h.2.1, h.2.2⟩
theorem cma_one (m : Nat) : ∀ u ∈ (cma m).toList, u.oneCell' = true := fun u hu => by
  simp only [cma, List.mem_cons, List.not_mem_nil, or_false] at hu
  rcases hu with rfl | rfl <;> rfl
theorem fma_one (m : Nat) : ∀ u ∈ (fma m).toList, u.oneCell' = true := fun u hu => by
  simp only [fma, List.mem_cons, List.not_mem_nil, or_false] at hu
  rcases hu with rfl | rfl | rfl | rfl | rfl <;> rfl
theorem yma_one (m : Nat) : ∀ u ∈ (yma m).toList, u.oneCell' = true := fun u hu => by
  simp only [yma, List.mem_cons, List.not_mem_nil, or_false] at hu
  rcases hu with rfl | rfl | rfl | rfl | rfl | rfl | rfl | rfl | rfl <;> rfl
theorem end_typesMark {wx : World} {R : Nat} {c : Array Value} {tmps : Array Value} (hn : (Tryz.prog.info? 69).map (·.size) = some c.size) (hr : wx.heap[R]? = some (.cells c 69 (0, 0))) (hp : tmps.getD 2 undef = .pointer (some ⟨R, 0, none⟩)) : (results Tryz.f70 tmps).run Tryz.prog wx = .ok (.agg c) wx := by
  refine (results_one (p := 2) (ty := 69) rfl _ _ _).trans ?_
  rw [hp]
  have h1 := run_loadVar_row (P := Tryz.prog) wx R 69 69 c (0, 0) _ hr Tryz.underlying69 rfl hn
  simp [asAddr, h1, Result.andThen]
set_option maxRecDepth 1000000 in
set_option maxHeartbeats 400000 in
theorem typesMark_any (m : Int) (w : World) (h0 : 0 ≤ m) (h1 : m < 1099511627776) : Calls Tryz.prog 70 #[.int .i64 m] w fun e w' => e = .returned (.agg (yma m.toNat)) ∧ Below w.heap.size w w' := by
  have HG := hide (heap_alloc_new w (.cells #[.string ⟨#[]⟩, .int .i64 0, .int .i64 0, .int .i64 0, .string ⟨#[]⟩, .bool false, .slice none 0 0, .slice none 0 0, .slice none 0 0] 69))
  have hm : ((m.toNat : Nat) : Int) = m := by omega
  have HAL : Hid ((yma m.toNat).all (·.oneCell') = true) := by
    show _ = _
    rw [Array.all_eq_true']
    intro x hx
    exact yma_one m.toNat x (by simpa using hx)
  have hE : yma m.toNat = #[.string ⟨#[]⟩, .int .i64 (1000 + m), .int .i64 0, .int .i64 0, .string ⟨#[]⟩, .bool false, .slice none 0 0, .slice none 0 0, .slice none 0 0] := by unfold yma; rw [hm]
  rw [hE] at HAL ⊢
  have HB := hide (below_alloc4 w (.cells #[.string ⟨#[]⟩, .int .i64 (1000 + m), .int .i64 0, .int .i64 0, .string ⟨#[]⟩, .bool false, .slice none 0 0, .slice none 0 0, .slice none 0 0] 69))
  have HN := hide (heap_alloc_new w (.cells #[.string ⟨#[]⟩, .int .i64 (1000 + m), .int .i64 0, .int .i64 0, .string ⟨#[]⟩, .bool false, .slice none 0 0, .slice none 0 0, .slice none 0 0] 69))
  clear hE hm
  go_enter Tryz.func70, Tryz.ntmps70
  go_wp2_with (refine wpList_storeRow rfl rfl w.heap.size #[.string ⟨#[]⟩, .int .i64 0, .int .i64 0, .int .i64 0, .string ⟨#[]⟩, .bool false, .slice none 0 0, .slice none 0 0, .slice none 0 0] _ 69 rfl rfl HG.out infoTp rfl HAL.out ?_; rw [World.setRow_alloc_new])
  exact bodyPost_ret (end_typesMark (c := #[.string ⟨#[]⟩, .int .i64 (1000 + m), .int .i64 0, .int .i64 0, .string ⟨#[]⟩, .bool false, .slice none 0 0, .slice none 0 0, .slice none 0 0]) infoTp HN.out rfl) rfl ⟨rfl, HB.out⟩
theorem end_casesMark {wx : World} {R : Nat} {c : Array Value} {tmps : Array Value} (hn : (Tryz.prog.info? 114).map (·.size) = some c.size) (hr : wx.heap[R]? = some (.cells c 114 (0, 0))) (hp : tmps.getD 2 undef = .pointer (some ⟨R, 0, none⟩)) : (results Tryz.f121 tmps).run Tryz.prog wx = .ok (.agg c) wx := by
  refine (results_one (p := 2) (ty := 114) rfl _ _ _).trans ?_
  rw [hp]
  have h1 := run_loadVar_row (P := Tryz.prog) wx R 114 114 c (0, 0) _ hr Tryz.underlying114 rfl hn
  simp [asAddr, h1, Result.andThen]
set_option maxRecDepth 1000000 in
set_option maxHeartbeats 400000 in
theorem casesMark_any (m : Int) (w : World) (h0 : 0 ≤ m) (h1 : m < 1099511627776) : Calls Tryz.prog 121 #[.int .i64 m] w fun e w' => e = .returned (.agg (cma m.toNat)) ∧ Below w.heap.size w w' := by
  have HA0 := hide (fun W => at_any m 0 W h0 h1 (by omega) (by omega))
  have HA1 := hide (fun W => at_any m 1 W h0 h1 (by omega) (by omega))
  have HG := hide (heap_alloc_new w (.cells #[.string ⟨#[]⟩, .string ⟨#[]⟩] 114))
  have HB0 := hide (below_alloc4 w (.cells #[.string ⟨#[]⟩, .string ⟨#[]⟩] 114))
  have HAL : Hid ((cma m.toNat).all (·.oneCell') = true) := by
    show _ = _
    rw [Array.all_eq_true']
    intro x hx
    exact cma_one m.toNat x (by simpa using hx)
  unfold cma at HAL ⊢
  go_enter Tryz.func121, Tryz.ntmps121
  go_wp2_with fail
  generalize w.alloc (.cells #[.string ⟨#[]⟩, .string ⟨#[]⟩] 114) = w0 at *
  refine (HA0.out _).mono ?_
  rintro e wq ⟨rfl, hwq⟩
  have hwq := hwq.symm
  subst hwq
  go_wp2_with fail
  refine (HA1.out _).mono ?_
  rintro e wq ⟨rfl, hwq⟩
  have hwq := hwq.symm
  subst hwq
  have hb : ∀ x ∈ [atv m.toNat 0, atv m.toNat 1], x < 256 := by
    intro x hx
    simp only [List.mem_cons, List.not_mem_nil, or_false] at hx
    rcases hx with rfl | rfl
    · unfold atv; split <;> omega
    · unfold atv; split <;> omega
  have tx : (convert 149 9 (.slice (some ⟨w0.heap.size, 0, none⟩) 2 2)).run Tryz.prog (w0.alloc (.cells #[.int .u8 ((atv m.toNat 0 : Nat) : Int), .int .u8 ((atv m.toNat 1 : Nat) : Int)] 5)) = .ok (.string (tm2 m.toNat)) (w0.alloc (.cells #[.int .u8 ((atv m.toNat 0 : Nat) : Int), .int .u8 ((atv m.toNat 1 : Nat) : Int)] 5)) :=
    (bsl_block (xs := [atv m.toNat 0, atv m.toNat 1]) (heap_alloc_new w0 (.cells #[.int .u8 ((atv m.toNat 0 : Nat) : Int), .int .u8 ((atv m.toNat 1 : Nat) : Int)] 5)) hb (by simp)).text
  have hbl := below_alloc4 w0 (.cells #[.int .u8 ((atv m.toNat 0 : Nat) : Int), .int .u8 ((atv m.toNat 1 : Nat) : Int)] 5)
  have HB1 : Hid (Below w.heap.size w (w0.alloc (.cells #[.int .u8 ((atv m.toNat 0 : Nat) : Int), .int .u8 ((atv m.toNat 1 : Nat) : Int)] 5))) := HB0.out.trans (hbl.mono HB0.out.size)
  have HG1 := hide ((hbl.block _ (blk_lt HG.out)).trans HG.out)
  clear hb hbl
  go_wp2_with (refine wpList_storeRow rfl rfl w.heap.size #[.string ⟨#[]⟩, .string ⟨#[]⟩] _ 114 rfl rfl HG1.out infoCz rfl HAL.out ?_)
  have hkr := row_kp (w0.alloc (.cells #[.int .u8 ((atv m.toNat 0 : Nat) : Int), .int .u8 ((atv m.toNat 1 : Nat) : Int)] 5)) w.heap.size #[.string ⟨#[109, 97, 114, 107]⟩, .string (tm2 m.toNat)]
  exact bodyPost_ret (end_casesMark (c := #[.string ⟨#[109, 97, 114, 107]⟩, .string (tm2 m.toNat)]) infoCz (row_same HG1.out) rfl) rfl ⟨rfl, HB1.out.trans (hkr.below HB1.out.size (fun q e => by omega))⟩
theorem end_fieldsMark {wx : World} {R : Nat} {c : Array Value} {tmps : Array Value} (hn : (Tryz.prog.info? 104).map (·.size) = some c.size) (hr : wx.heap[R]? = some (.cells c 104 (0, 0))) (hp : tmps.getD 2 undef = .pointer (some ⟨R, 0, none⟩)) : (results Tryz.f120 tmps).run Tryz.prog wx = .ok (.agg c) wx := by
  refine (results_one (p := 2) (ty := 104) rfl _ _ _).trans ?_
  rw [hp]
  have h1 := run_loadVar_row (P := Tryz.prog) wx R 104 104 c (0, 0) _ hr Tryz.underlying104 rfl hn
  simp [asAddr, h1, Result.andThen]
set_option maxRecDepth 1000000 in
set_option maxHeartbeats 400000 in
theorem fieldsMark_any (m : Int) (w : World) (h0 : 0 ≤ m) (h1 : m < 1099511627776) : Calls Tryz.prog 120 #[.int .i64 m] w fun e w' => e = .returned (.agg (fma m.toNat)) ∧ Below w.heap.size w w' := by
  have HA0 := hide (fun W => at_any m 0 W h0 h1 (by omega) (by omega))
  have HA1 := hide (fun W => at_any m 1 W h0 h1 (by omega) (by omega))
  have HG := hide (heap_alloc_new w (.cells #[.string ⟨#[]⟩, .string ⟨#[]⟩, .string ⟨#[]⟩, .bool false, .bool false] 104))
  have HB0 := hide (below_alloc4 w (.cells #[.string ⟨#[]⟩, .string ⟨#[]⟩, .string ⟨#[]⟩, .bool false, .bool false] 104))
  have HAL : Hid ((fma m.toNat).all (·.oneCell') = true) := by
    show _ = _
    rw [Array.all_eq_true']
    intro x hx
    exact fma_one m.toNat x (by simpa using hx)
  unfold fma at HAL ⊢
  go_enter Tryz.func120, Tryz.ntmps120
  go_wp2_with fail
  generalize w.alloc (.cells #[.string ⟨#[]⟩, .string ⟨#[]⟩, .string ⟨#[]⟩, .bool false, .bool false] 104) = w0 at *
  refine (HA0.out _).mono ?_
  rintro e wq ⟨rfl, hwq⟩
  have hwq := hwq.symm
  subst hwq
  go_wp2_with fail
  refine (HA1.out _).mono ?_
  rintro e wq ⟨rfl, hwq⟩
  have hwq := hwq.symm
  subst hwq
  have hb : ∀ x ∈ [atv m.toNat 0, atv m.toNat 1], x < 256 := by
    intro x hx
    simp only [List.mem_cons, List.not_mem_nil, or_false] at hx
    rcases hx with rfl | rfl
    · unfold atv; split <;> omega
    · unfold atv; split <;> omega
  have tx : (convert 149 9 (.slice (some ⟨w0.heap.size, 0, none⟩) 2 2)).run Tryz.prog (w0.alloc (.cells #[.int .u8 ((atv m.toNat 0 : Nat) : Int), .int .u8 ((atv m.toNat 1 : Nat) : Int)] 5)) = .ok (.string (tm2 m.toNat)) (w0.alloc (.cells #[.int .u8 ((atv m.toNat 0 : Nat) : Int), .int .u8 ((atv m.toNat 1 : Nat) : Int)] 5)) :=
    (bsl_block (xs := [atv m.toNat 0, atv m.toNat 1]) (heap_alloc_new w0 (.cells #[.int .u8 ((atv m.toNat 0 : Nat) : Int), .int .u8 ((atv m.toNat 1 : Nat) : Int)] 5)) hb (by simp)).text
  have hbl := below_alloc4 w0 (.cells #[.int .u8 ((atv m.toNat 0 : Nat) : Int), .int .u8 ((atv m.toNat 1 : Nat) : Int)] 5)
  have HB1 : Hid (Below w.heap.size w (w0.alloc (.cells #[.int .u8 ((atv m.toNat 0 : Nat) : Int), .int .u8 ((atv m.toNat 1 : Nat) : Int)] 5))) := HB0.out.trans (hbl.mono HB0.out.size)
  have HG1 := hide ((hbl.block _ (blk_lt HG.out)).trans HG.out)
  clear hb hbl
  go_wp2_with (refine wpList_storeRow rfl rfl w.heap.size #[.string ⟨#[]⟩, .string ⟨#[]⟩, .string ⟨#[]⟩, .bool false, .bool false] _ 104 rfl rfl HG1.out infoFd rfl HAL.out ?_)
  have hkr := row_kp (w0.alloc (.cells #[.int .u8 ((atv m.toNat 0 : Nat) : Int), .int .u8 ((atv m.toNat 1 : Nat) : Int)] 5)) w.heap.size #[.string ⟨#[109, 97, 114, 107]⟩, .string (tm2 m.toNat), .string ⟨#[]⟩, .bool false, .bool false]
  exact bodyPost_ret (end_fieldsMark (c := #[.string ⟨#[109, 97, 114, 107]⟩, .string (tm2 m.toNat), .string ⟨#[]⟩, .bool false, .bool false]) infoFd (row_same HG1.out) rfl) rfl ⟨rfl, HB1.out.trans (hkr.below HB1.out.size (fun q e => by omega))⟩
end
section
open Go.RowKit
set_option maxRecDepth 1000000 in
set_option maxHeartbeats 1000000 in
theorem growTypesK_any {w : World} {base B : Nat} {C : Array Value} {vb vo : Value} {es : List Ent} {a t u : Nat} (hB : w.heap[B]? = some (.cells C 47 (0, 0))) (h57 : C.size = 57) (hJ0 : C[45]? = some vb) (hJ1 : C[46]? = some vo) (hJ2 : C[47]? = some (.int .i64 ((a : Nat) : Int))) (hK : Ko KY w base vb vo es a t u) (ht : t < 68719476736) (hu : u ≤ 16777216) (hbase : base ≤ w.heap.size) :
    Calls Tryz.prog 91 #[.pointer (some ⟨B, 0, none⟩)] w fun e w' => e = .returned (.tuple #[]) ∧ Hid (GrP KY 45 w base B C vb vo es t u w') := by
  obtain ⟨ab, capb, hvb, -, -, -⟩ := own_form hK.c.hb
  have HBASE := hide hbase
  have H57 := hide h57
  have HJ2 := hide hJ2
  have HK := hide hK
  have hal : a ≤ es.length := by obtain ⟨c, r, h1, h2, _⟩ := hK.count; omega
  have hel : es.length ≤ 139810 := by obtain ⟨c, r, h1, h2, h3⟩ := hK.count; simp only [KY] at h2 h3; omega
  have HG0 : Hid (Gw KY w base B C 45 vb vo es t w vb vo es a) := Gw.start hB hJ0 hJ1 hK
  have HTT := hide ht
  have c0 : w.cell? ⟨B, 45, none⟩ = some vb := blk_cell hB hJ0
  have c2 : w.cell? ⟨B, 47, none⟩ = some (.int .i64 (a : Nat)) := blk_cell hB hJ2
  clear hB h57 hJ0 hJ1 hJ2 hK ht hu hbase
  rw [hvb] at c0
  clear hvb
  obtain ⟨iL, hiL, hzL0, hzL1, hzL2⟩ := infoTsS_ex
  obtain ⟨iE, hiE, hzE0, hzE1, hzE2⟩ := (info_ex infoTp3)
  go_enter Tryz.func91, Tryz.ntmps91
  go_wp2
  clear c0 c2
  go_loopw [3] (fun i wr => ∃ (k : Nat) (vb2 vo2 : Value) (es2 : List Ent), k ≤ es.length ∧ a ≤ k ∧ i = .int .i64 k ∧ Hid (Gw KY w base B C 45 vb vo es t wr vb2 vo2 es2 k) ∧ Hid (es2.length = es.length + 5 * (k - a))) (fun i _ => es.length - (intOf i).toNat)
  case atStart => exact ⟨a, vb, vo, es, hal, Nat.le_refl _, rfl, HG0, by show _ = _; omega⟩
  case round =>
    obtain ⟨k, vb2, vo2, es2, hk, hak, rfl, HG, HL2⟩ := hrel
    clear HG0
    obtain ⟨ab2, capb2, hvb2, -, -, hcb2⟩ := own_form HG.out.core.hb
    obtain ⟨ao2, capo2, hvo2, -, -, hco2⟩ := own_form HG.out.core.ho
    have HCB := hide hcb2
    have HCO := hide hco2
    have c0 : wr.cell? ⟨B, 45, none⟩ = some vb2 := HG.out.c0 (by have := H57.out; omega)
    have c1 : wr.cell? ⟨B, 46, none⟩ = some vo2 := HG.out.c1 (by have := H57.out; omega)
    have c2 : wr.cell? ⟨B, 47, none⟩ = some (.int .i64 (a : Nat)) := HG.out.cx (by decide) (by decide) HJ2.out
    have f2 := blk_frozen 47 HG.out.blk
    have he2 : es2.length ≤ 1398100 := by have := HL2.out; omega
    clear hcb2 hco2
    by_cases hlt : k < es.length
    · have hlt' : (k : Int) < (es.length : Int) := by omega
      obtain ⟨e, hek⟩ : ∃ e, es[k]? = some e := ⟨es[k], by simp [hlt]⟩
      have hek2 := HG.out.pre k e hek
      have hk2 : k < es2.length := (List.getElem?_eq_some_iff.1 hek2).1
      obtain ⟨gb, hab, hcb1⟩ := HCB.out k e.val (by simp [hek2])
      obtain ⟨go, hao, hco1⟩ := HCO.out k (.int .i64 ((e.m : Nat) : Int)) (by simp [hek2])
      have hmm := HG.out.core.hm e (List.mem_of_getElem? hek2)
      have HIN := hide (HG.out.begin hek)
      obtain ⟨ae, ce, hev⟩ := own_slice HIN.out.own
      have HEK := hide hek
      have HMM : Hid (e.m ≤ t ∧ e.n < 68719476736) := ⟨hmm.1, HK.out.hn k e hek hak⟩
      rw [hab] at hvb2
      rw [hao] at hvo2
      rw [hvb2] at c0
      rw [hvo2] at c1
      rw [Nat.add_zero] at hev
      obtain ⟨ev, en, em⟩ := e
      simp only at hev hcb1 hco1
      subst hev
      clear hvb2 hvo2 hab hao HCB HCO hmm hek hek2 f2 c2
      obtain ⟨wo, rfl⟩ : ∃ x, wr = x := ⟨wr, rfl⟩
      go_wp2
      clear c0 c1 hcb1 hco1
      go_loopw [4, 6] (fun g i wr' => ∃ (q : Nat) (vb3 vo3 : Value) (es3 : List Ent) (ag : Option Addr) (cg : Nat), q ≤ 32 ∧ i = .int .i64 ((q + 1 : Nat)) ∧ g = .slice ag (en + q) cg ∧ Hid (Ik KY w base B C 45 vb vo es t wr' vb3 vo3 es3 k ⟨.slice ae en ce, en, em⟩ q (.slice ag (en + q) cg)) ∧ Hid (es3.length = es2.length + pq q)) (fun _ i _ => 33 - (intOf i).toNat)
      case atStart => exact ⟨0, vb2, vo2, es2, ae, ce, by omega, rfl, rfl, HIN, rfl⟩
      case round =>
        obtain ⟨q, vb3, vo3, es3, ag, cg, hq, rfl, rfl, HI, HL3⟩ := hrel
        have hpc := pq_le q
        have he3 : es3.length ≤ 1398200 := by have := HL3.out; omega
        have HSZB : Hid (base ≤ wr.heap.size) := Nat.le_trans HBASE.out HI.out.g.kp.size
        clear HIN hpc
        by_cases hq96 : q < 32
        · have hq96' : ((q + 1 : Nat) : Int) ≤ 32 := by omega
          have HEN : Hid (en < 68719476736) := HMM.out.2
          have HEM : Hid (em ≤ t) := HMM.out.1
          have HMK := hide (fun W => typesMark_any (em : Int) W (by omega) (by have h1 := HEM.out; have h2 := HTT.out; omega))
          go_wp2_with fail
          refine (HMK.out _).mono ?_
          rintro e w1 ⟨rfl, hb1⟩
          have HI1 := hide (HI.out.next hb1)
          have HSZ1 : Hid (base ≤ w1.heap.size) := Nat.le_trans HSZB.out hb1.size
          have HO3 : Hid (w1.ownsRow base 69 9 (Value.slice ag (en + q) cg) (en + q) (KY.mkl em (en + q))) := HI1.out.own
          clear hb1 HI HMK
          rw [Int.toNat_natCast]
          go_wp2_with (first
            | (refine wpList_oneS rfl 49 69 rfl iE _ (yma em) 9 Tryz.underlying49 hiE hzE0 hzE1 (by decide) (by decide) rfl rfl ?_)
            | (at_builtin; refine append_mk rfl _ _ 49 69 iE _ 9 136 Tryz.underlying49 hiE hzE0 hzE1 hzE2 rfl (by decide) rfl base _ (en + q) _ rfl HO3.out (yma em) rfl ?c1 _ rfl rfl ?c2 (by decide) HSZ1.out ?_))
          case c1 => exact yma_one em
          case c2 => have := HEN.out; omega
          intro g4 w4 ho4 hkeep4 hk4 hat4
          obtain ⟨a4, c4, hg4⟩ := own_slice ho4
          have HI4 := hide (HI1.out.append KY_ok HEK.out ho4 hkeep4 hk4 hat4)
          have hsz4 : w1.heap.size ≤ w4.heap.size := hk4.size
          have HSZ4 : Hid (base ≤ w4.heap.size) := Nat.le_trans HSZ1.out hsz4
          subst hg4
          clear ho4 hkeep4 hk4 hat4 hsz4 HI1 HO3
          clear hq96'
          have hpos : ((q : Int) + 1 < 4 ∨ (¬ (q : Int) + 1 < 4 ∧ (((q : Int) + 1) % 16 == 0) = true)) ∨ (¬ (q : Int) + 1 < 4 ∧ (((q : Int) + 1) % 16 == 0) = false) := by
            by_cases h1 : q + 1 < 4
            · exact .inl (.inl (by omega))
            · by_cases h2 : (q + 1) % 16 = 0
              · exact .inl (.inr ⟨by omega, beq_iff_eq.2 (by omega)⟩)
              · exact .inr ⟨by omega, beq_eq_false_iff_ne.2 (by omega)⟩
          rcases hpos with hpos | ⟨hno1, hno2⟩
          · have hpc1 : pq (q + 1) = pq q + 1 := by
              refine pq_yes ?_
              rcases hpos with h | ⟨_, h⟩
              · left; omega
              · right; have := beq_iff_eq.1 h; omega
            have HPC := hide hpc1
            have c0 : w4.cell? ⟨B, 45, none⟩ = some vb3 := HI4.out.g.c0 (by have := H57.out; omega)
            clear hpc1
            rcases hpos with hno1 | ⟨hno1, hno2⟩
            all_goals
              go_wp2_with (at_builtin; refine append_lst rfl _ _ 22 49 iL Tryz.underlying22 hiL hzL0 hzL1 hzL2 rfl base vb3 es3.length _ rfl HI4.out.g.core.hb _ _ rfl rfl rfl (by omega) HSZ4.out ?_)
              intro v5 w5 ho5 hg5 hat5
              obtain ⟨a5, c5, hv5⟩ := own_slice ho5
              obtain ⟨hblk5, hblk6, hhalf, hkp5⟩ := HI4.out.g.core.push_a KY_ok HI4.out.g.blk 45 ⟨Value.slice a4 (en + q + 1) c4, en + (q + 1), em⟩ HI4.out.own v5 ho5 hg5
              have c0' : w5.cell? ⟨B, 45, none⟩ = some vb3 := blk_cell hblk5 (by rw [get_set_ne (by decide), get_set (by have := H57.out; omega)])
              have c1' : (w5.setCell ⟨B, 45, none⟩ v5).cell? ⟨B, 46, none⟩ = some vo3 := blk_cell hblk6 (by rw [get_set_ne (by decide), get_set (by have := H57.out; simp; omega)])
              have f0' := blk_frozen 45 hblk5
              have HHF := hide hhalf
              have HKP5 := hide hkp5
              have HBK6 := hide hblk6
              have HAT5 : Hid (∀ z, v5.ownBlock = some z → vb3.ownBlock = some z ∨ w.heap.size ≤ z) := fun z hz => by
                rcases hat5 with h | h
                · exact .inl (by rw [← h]; exact hz)
                · rw [h] at hz; injection hz with hz; exact .inr (by have := HI4.out.g.kp.size; omega)
              have HSZ5 : Hid (base ≤ (w5.setCell ⟨B, 45, none⟩ v5).heap.size ∧ w.heap.size ≤ (w5.setCell ⟨B, 45, none⟩ v5).heap.size) := ⟨Nat.le_trans HSZ4.out hkp5.size, Nat.le_trans HI4.out.g.kp.size hkp5.size⟩
              subst hv5
              clear ho5 hg5 hat5 hblk5 hblk6 hhalf hkp5 c0
              go_wp2_with (at_builtin; refine append_int rfl _ _ rfl base vo3 es3.length _ rfl HHF.out.ho _ w5.heap.size (by simp) rfl (by omega) HSZ5.out.1 ?_)
              intro v7 w7 ho7 hg7 hat7
              obtain ⟨a7, c7, hv7⟩ := own_slice ho7
              obtain ⟨hblk7, hblk8, hbk7, hkp7⟩ := HHF.out.push_b KY_ok (t := t) HBK6.out 46 v7 ho7 hg7 HI4.out.g.core.hs (fun x hx z h1 h2 => (HI4.out.share x hx z h1 h2).1) HI4.out.g.core.hm ⟨HEM.out, by have := HEN.out; show en + (q + 1) < _; omega⟩
              have c1'' : w7.cell? ⟨B, 46, none⟩ = some vo3 := blk_cell hblk7 (by rw [get_set_ne (by decide), get_set (by have := H57.out; simp; omega)])
              have f1'' := blk_frozen 46 hblk7
              have hkall : Kp (fun z => z = B ∨ vb3.ownBlock = some z ∨ vo3.ownBlock = some z) w4 (w7.setCell ⟨B, 46, none⟩ v7) :=
                (HKP5.out.mono (fun z _ hz => by rcases hz with h | h; exact .inl h; exact .inr (.inl h))).trans hkp7 (fun z _ hz => by rcases hz with h | h; exact .inl h; exact .inr (.inr h))
              have hbl9 := hblk8
              rw [cset C 45] at hbl9
              have HI7 := hide (HI4.out.push HEK.out hbl9 hbk7 hkall HAT5.out (fun z hz => by
                rcases hat7 with h | h
                · exact .inl (by rw [← h]; exact hz)
                · rw [h] at hz; injection hz with hz; exact .inr (by have := HSZ5.out.2; simp at this; omega)))
              subst hv7
              clear ho7 hg7 hat7 hblk7 hblk8 hbl9 hbk7 hkp7 hkall c0' c1' f0' HHF HKP5 HAT5 HSZ5 HI4 HBK6
              go_wp2
              go_roundw
              case rel => exact ⟨q + 1, _, _, _, _, _, by omega, by go_num, rfl, HI7, by show _ = _; have h1 := HL3.out; have h2 := HPC.out; simp; omega⟩
              case measure => simp [intOf]; omega
          · have hpc1 : pq (q + 1) = pq q := by
              refine pq_no ?_
              have := beq_eq_false_iff_ne.1 hno2
              omega
            have HPC := hide hpc1
            clear hpc1
            go_wp2
            go_roundw
            case rel => exact ⟨q + 1, _, _, _, _, _, by omega, by go_num, rfl, HI4, by show _ = _; have h1 := HL3.out; have h2 := HPC.out; omega⟩
            case measure => simp [intOf]; omega
        · have hq96' : ¬ ((q : Int) + 1) ≤ 32 := by omega
          have hqq : q = 32 := by omega
          have HQQ := hide hqq
          clear hqq hq96
          go_wp2
          go_roundw
          case rel =>
            refine ⟨k + 1, vb3, vo3, es3, by omega, by omega, by go_num, HI.out.g, ?_⟩
            have h1 := HL3.out
            have h2 := HL2.out
            rw [HQQ.out, pq_32] at h1
            show _ = _
            omega
          case measure => simp [intOf]; omega
    · have hlt' : ¬ (k : Int) < (es.length : Int) := by omega
      have hke : k = es.length := by omega
      rw [hvb2] at c0
      have HFI : Hid (GrP KY 45 w base B C vb vo es t u (wr.setCell ⟨B, 47, none⟩ (.int .i64 ((es2.length : Nat) : Int)))) := HG.out.fin KY_ok (by have := H57.out; omega) HK.out (by decide) (by have := HL2.out; rw [hke] at this; exact this)
      clear hke
      go_wp2
      go_end0
      exact ⟨rfl, HFI⟩
end
section
open Go.RowKit

end
section
open Go.RowKit

end
section
open Go.RowKit Go

end
section
open Go.RowKit Go
section
variable {P : Program} {Q : Exit → Act → World → Prop} {S : World → Prop} {l : List Oper} {fuel : Nat} {listed : Array Bool} {a : Act} {w : World}
theorem heldStart {id : Nat} (hm : P.follows .mixedOrders = true) (h : wpAnyH P .any l.toArray Q S l.length (Array.replicate l.length false) a w.drew) : (Code.region id l.toArray true).wp P Q a w :=
  wp_region_held (S := S) hm (by simpa using h)
theorem heldTake (i : Nat) {oi : Oper} (v : Value) (hi : l[i]? = some oi) (hs : Region.noSelect l.toArray = true) (hf : Region.free .any l.toArray listed i = true) (hr : (Region.ready .any l.toArray listed).contains i = true)
    (hQ : ∀ c a w, Q (.panic c) (a.put oi.dst v) w → Q (.panic c) a w) (hw : Region.wanted oi (yielded l.toArray a.tmps) = true) (hS : S w) (hy : ∀ w, S w → (execOp a.eval oi).run P w = .ok (.value v) w)
    (h : wpAnyH P .any l.toArray Q S fuel (listed.setIfInBounds i true) (a.put oi.dst v) w) : wpAnyH P .any l.toArray Q S (fuel + 1) listed a w :=
  wpAnyH_take (by simpa using hi) hs hf hr hQ (.inl ⟨hw, hy⟩) hS h
theorem heldStep (i : Nat) {oi : Oper} (hi : l[i]? = some oi) (hr : Region.ready .any l.toArray listed = [i])
    (h : ∀ K : Act → World → Prop, Hid (∀ a w, S w → (S w → wpAnyH P .any l.toArray Q S fuel (listed.setIfInBounds i true) a w) → K a w) → if Region.wanted oi (yielded l.toArray a.tmps) = true then Oper.wp P oi a w K Q else K (a.put oi.dst undef) w) : wpAnyH P .any l.toArray Q S (fuel + 1) listed a w :=
  wpAnyH_ready hr (by simp) (AllReadyH.cons (by simpa using hi) (fun K hK => h K hK) AllReadyH.nil)
theorem heldDone (hr : Region.ready .any l.toArray listed = []) (h : Q .normal a w) : wpAnyH P .any l.toArray Q S fuel listed a w := wpAnyH_done hr h fuel
end
end
section
open Go.RowKit Go

end
section
open Go.RowKit Go

end
section
open Go.RowKit Go

end
section
open Go.RowKit Go

end
section
open Go.RowKit

end
section
open Go.RowKit

end
section
open Go.RowKit
section
variable {w0 : World} {base B : Nat} {vb0 vo0 : Value} {es0 : List Ent} {a t d u : Nat}

end
end
section
open Go.RowKit

end
section
open Go.RowKit
def BookAt (w : World) (base B : Nat) (F : Nat → Prop) (t : Nat) : Prop := ∃ vb vo es a d u, BookOk w base B vb vo es a t d u ∧ ∀ k, Foot B vb vo es k → F k

theorem foot_lt {w : World} {base B : Nat} {vb vo : Value} {es : List Ent} {a t d u : Nat} (h : BookOk w base B vb vo es a t d u) : ∀ k, Foot B vb vo es k → base ≤ k ∧ k < w.heap.size := by
  intro k hk
  rcases hk with rfl | hk | hk | ⟨e, he, hk⟩
  · exact ⟨h.hbase, blk_lt h.blk⟩
  · exact own_back h.hb k hk
  · exact own_back h.ho k hk
  · exact own_back (h.he e he) k hk

theorem BookAt.mono {w : World} {base B : Nat} {F G : Nat → Prop} {t : Nat} (h : BookAt w base B F t) (hg : ∀ k, k < w.heap.size → F k → G k) : BookAt w base B G t := by
  obtain ⟨vb, vo, es, a, d, u, hok, hf⟩ := h
  exact ⟨vb, vo, es, a, d, u, hok, fun k hk => hg k (foot_lt hok k hk).2 (hf k hk)⟩
end
section
open Go.RowKit

end
end Go.Proofs.YtbbalhfjgpaabaaGreatDoor

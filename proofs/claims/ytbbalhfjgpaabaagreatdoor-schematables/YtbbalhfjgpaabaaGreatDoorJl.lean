import Derived.Test.YtbbalhfjgpaabaaGreatDoorJc
import Derived.Test.YtbbalhfjgpaabaaGreatDoorJd
namespace Go.Proofs.YtbbalhfjgpaabaaGreatDoor
section
open Go.RowKit Go
def cutT (t : Tp) : Tp := ⟨t.n, t.k, t.lo, t.hi, t.r, t.fs.take 80, t.cs.take 80, t.ws.take 80⟩
def cutL (l : List Tp) : List Tp := (l.take 80).map cutT
def Cnd (m n : Nat) : Prop := (m = 80 ∧ 80 < n) ∨ (m = n ∧ ¬ 80 < n)
theorem Cnd.len {α : Type} {m : Nat} {xs : List α} (h : Cnd m xs.length) : m = (xs.take 80).length := by
  rw [List.length_take]
  rcases h with ⟨h1, h2⟩ | ⟨h1, h2⟩ <;> omega
theorem gsl_cut {α : Type} {n : Nat} {P : World → α → Array Value → Prop} {w : World} {a : Option Addr} {cap m : Nat} {xs : List α} (h : GSl n P w (.slice a xs.length cap) xs) (hm : Cnd m xs.length) : GSl n P w (.slice a m cap) (xs.take 80) := by
  obtain ⟨⟨a', cap', e, hn, hc⟩, hx⟩ := h
  injection e with e1 e2 e3
  subst e1
  subst e3
  have hl := hm.len
  have hle : (xs.take 80).length ≤ xs.length := by rw [List.length_take]; omega
  refine ⟨⟨a, cap, by rw [hl], ⟨by omega, hn.2⟩, ?_⟩, by omega⟩
  rcases hc with hc | ⟨b, off, ha, hc⟩
  · exact .inl (by rw [hc]; rfl)
  · refine .inr ⟨b, off, ha, fun i x hi => hc i x ?_⟩
    rw [List.getElem?_take] at hi
    split at hi
    · exact hi
    · cases hi
theorem ssl_cut {w : World} {a : Option Addr} {cap m : Nat} {xs : List ByteArray} (h : SSl w (.slice a xs.length cap) xs) (hm : Cnd m xs.length) : SSl w (.slice a m cap) (xs.take 80) := by
  obtain ⟨⟨a', cap', e, hn, hc⟩, hx, hs⟩ := h
  injection e with e1 e2 e3
  subst e1
  subst e3
  have hl := hm.len
  have hle : (xs.take 80).length ≤ xs.length := by rw [List.length_take]; omega
  refine ⟨⟨a, cap, by rw [hl], ⟨by omega, hn.2⟩, ?_⟩, by omega, fun s hs2 => hs s (List.mem_of_mem_take hs2)⟩
  rcases hc with hc | ⟨b, off, ha, hc⟩
  · exact .inl (by rw [hc]; rfl)
  · refine .inr ⟨b, off, ha, fun i x hi => hc i x ?_⟩
    rw [List.getElem?_take] at hi
    split at hi
    · exact hi
    · cases hi
theorem tpi_cut {w : World} {t : Tp} {af ac aw : Option Addr} {cf cc cw mf mc mw : Nat} (h : Tpi w t #[.string t.n, .int .i64 t.k, .int .i64 t.lo, .int .i64 t.hi, .string t.r.n, .bool t.r.z, .slice af t.fs.length cf, .slice ac t.cs.length cc, .slice aw t.ws.length cw]) (hf : Cnd mf t.fs.length) (hc : Cnd mc t.cs.length) (hw : Cnd mw t.ws.length) : Tpi w (cutT t) #[.string t.n, .int .i64 t.k, .int .i64 t.lo, .int .i64 t.hi, .string t.r.n, .bool t.r.z, .slice af mf cf, .slice ac mc cc, .slice aw mw cw] := by
  obtain ⟨⟨vf, vc, vw, e, h1, h2, h3⟩, hb⟩ := h
  have e6 : Value.slice af t.fs.length cf = vf := by have := congrArg (fun x : Array Value => x[6]?) e; exact Option.some.inj this
  have e7 : Value.slice ac t.cs.length cc = vc := by have := congrArg (fun x : Array Value => x[7]?) e; exact Option.some.inj this
  have e8 : Value.slice aw t.ws.length cw = vw := by have := congrArg (fun x : Array Value => x[8]?) e; exact Option.some.inj this
  subst e6
  subst e7
  subst e8
  exact ⟨⟨_, _, _, rfl, gsl_cut h1 hf, gsl_cut h2 hc, ssl_cut h3 hw⟩, ⟨hb.n, hb.r, hb.k, hb.lo, hb.hi⟩⟩
structure Cuw (W w : World) (v : Value) (L : List (Array Value)) (ts : List Tp) (wx : World) : Prop where
  o : wx.ownsRow w.heap.size 69 9 v L.length (gfl L)
  n : L.length = ts.length
  z : ∀ c ∈ L, c.size = 9
  k : ∀ (i : Nat) (t : Tp) (c : Array Value), ts[i]? = some t → L[i]? = some c → Tpi W t c
  b : Below w.heap.size w wx
theorem Cuw.start (W w : World) : Cuw W w (.slice none 0 0) [] [] w := ⟨World.ownsRow_nil _ _ _ _, rfl, fun _ h => by simp at h, fun i _ _ h => by simp at h, Below.refl _ _⟩
theorem Cuw.next {W w wx wy : World} {v : Value} {L : List (Array Value)} {ts : List Tp} (h : Cuw W w v L ts wx) (hb : Below wx.heap.size wx wy) : Cuw W w v L ts wy :=
  ⟨(Kp.of_below (S := fun _ => False) hb).owns h.o (fun _ _ e => e), h.n, h.z, h.k, h.b.trans (hb.mono h.b.size)⟩
theorem Cuw.tsl {W w wx : World} {v : Value} {L : List (Array Value)} {ts : List Tp} (h0 : Below W.heap.size W w) (h : Cuw W w v L ts wx) (hm : ts.length ≤ 140737488351232) : TSl wx v ts := own_gsl h.o h.z h.n hm (fun i t c h1 h2 => ((h.k i t c h1 h2).move (keep_below h0)).move (keep_below h.b))
theorem Cuw.law {W w wr : World} {a0 : Option Addr} {n0 c0 : Nat} {L : List (Array Value)} {ts : List Tp} {t : Tp} {c : Array Value} (h : Cuw W w (.slice a0 n0 c0) L ts wr) (ht : Tpi W t c) (hlen : L.length ≤ 1000000) {ops : Array Oper} {rest : List Oper} {o : Oper} {ac : Act} {Q : Exit → Act → World → Prop} {s y : Operand} (h1 : o.guard = none) (h2 : o.op = .call { callee := .builtin .append, args := #[s, y], argTypes := #[49, 49] }) (h3 : ac.eval s = .slice a0 n0 c0) (h4 : ac.eval y = .slice (some ⟨wr.heap.size + 1, 0, none⟩) 1 1)
    (h5 : ∀ a9 n9 c9 w', Hid (Cuw W w (.slice a9 n9 c9) (L ++ [c]) (ts ++ [t]) w') → wpList Tryz.prog ops Q rest (ac.put o.dst (.slice a9 n9 c9)) w') : wpList Tryz.prog ops Q (o :: rest) ac ((wr.alloc (.cells c 69)).alloc (.cells c 69)) := by
  have hb1 := below_alloc4 wr (.cells c 69)
  have hb2 := hb1.alloc hb1.size (.cells c 69)
  have hx := h.next hb2
  have hz : (wr.alloc (.cells c 69)).heap.size = wr.heap.size + 1 := by simp
  have hg := heap_alloc_new (wr.alloc (.cells c 69)) (.cells c 69)
  rw [hz] at hg
  have h1c : ∀ u ∈ c.toList, u.oneCell' = true := fun u hu => by
    have h := ht.all1
    rw [Array.all_eq_true_iff_forall_mem] at h
    exact h u (by simpa using hu)
  refine append_g infoTp3 Tryz.underlying49 rfl (by decide) (by decide) h1 h2 h3 hx.o h4 hg ht.size9 h1c hlen hx.b.size (fun v' w' h6 h7 h8 => ?_)
  obtain ⟨a9, c9, hv9, _⟩ := own_formG h6
  subst hv9
  refine h5 _ _ _ w' ⟨by rw [List.length_append]; exact h6, by rw [List.length_append, List.length_append, hx.n]; rfl, fun d hd => ?_, fun i u d e1 e2 => ?_, ?_⟩
  · rcases List.mem_append.1 hd with hd | hd
    · exact hx.z d hd
    · rw [List.mem_singleton.1 hd]; exact ht.size9
  · by_cases hi : i < ts.length
    · rw [List.getElem?_append_left hi] at e1
      rw [List.getElem?_append_left (by rw [hx.n]; exact hi)] at e2
      exact hx.k i u d e1 e2
    · have e : i = ts.length := by
        have := (List.getElem?_eq_some_iff.1 e1).1
        rw [List.length_append, List.length_singleton] at this
        omega
      subst e
      rw [List.getElem?_append_right (Nat.le_refl _), Nat.sub_self] at e1
      rw [← hx.n, List.getElem?_append_right (Nat.le_refl _), Nat.sub_self] at e2
      have f1 : t = u := by simpa using e1
      have f2 : c = d := by simpa using e2
      rw [← f1, ← f2]
      exact ht
  · exact hx.b.trans ((kp_grown h7).below hx.b.size (fun q e => (hx.o.lt q e).1))
theorem takeC (l : List Tp) (i : Nat) (t : Tp) (h : l[i]? = some t) : (l.take (i + 1)).map cutT = (l.take i).map cutT ++ [cutT t] := by
  rw [takeP l i t h, List.map_append]
  rfl
set_option maxRecDepth 1000000 in
set_option maxHeartbeats 8000000 in
theorem cut11o_any (W w : World) (h0 : Below W.heap.size W w) (v : Value) (l : List Tp) (hv : TSl W v l) : Calls Tryz.prog 5 #[v] w fun e w' => ∃ a n c L, e = .returned (.slice a n c) ∧ Hid (Cuw W w (.slice a n c) L (cutL l) w') := by
  have H0 := hide h0
  clear h0
  have hmax := hv.max
  have HV := hide hv
  obtain ⟨⟨a, cap, rfl, hcap, hform⟩, _⟩ := hv
  have HF := hide hform
  have hcap1 := hcap.1
  clear hform hcap
  have HX := hide (Cuw.start W w)
  go_enter Tryz.func5, Tryz.ntmps5
  by_cases h80 : 80 < l.length
  · have g0 : (80 : Int) < (l.length : Int) := by omega
    go_wp2_with fail
    go_loopw [3, 4] (fun vo vi wx => ∃ (i : Nat) (a0 : Option Addr) (n0 c0 : Nat) (L : List (Array Value)), i ≤ 80 ∧ vo = .slice a0 n0 c0 ∧ vi = .int .i64 (i : Nat) ∧ Hid (Cuw W w (.slice a0 n0 c0) L ((l.take i).map cutT) wx)) (fun _ vi _ => 80 - (intOf vi).toNat)
    case atStart => exact ⟨0, none, 0, 0, [], by omega, rfl, rfl, HX⟩
    case round =>
      obtain ⟨i, a0, n0, c0, L, hi, rfl, rfl, HXi⟩ := hrel
      clear HX
      by_cases hlt : i < 80
      · have g1 : (i : Int) < 80 := by omega
        have hil : i < l.length := by omega
        obtain ⟨t, ht⟩ : ∃ t, l[i]? = some t := ⟨l[i], List.getElem?_eq_getElem hil⟩
        obtain ⟨b, off, rfl, hcc⟩ := HF.out.resolve_left (fun h => by rw [h] at hil; simp at hil)
        obtain ⟨c, hc, hcell⟩ := hcc i t ht
        have HC := hide hc
        obtain ⟨⟨vf, vc, vw, rfl, ⟨⟨af, cf, rfl, hf1, -⟩, hf2⟩, ⟨⟨ac, cc, rfl, hc1, -⟩, hc2⟩, ⟨⟨aw, cw, rfl, hw1, -⟩, hw2, -⟩⟩, -⟩ := hc
        unfold tpc at hcell HC
        have HCL : Hid (∀ j u, (#[.string t.n, .int .i64 t.k, .int .i64 t.lo, .int .i64 t.hi, .string t.r.n, .bool t.r.z, .slice af t.fs.length cf, .slice ac t.cs.length cc, .slice aw t.ws.length cw] : Array Value)[j]? = some u → wr.cell? ⟨b, off + i * 9 + j, none⟩ = some u) := fun j u hj => keep_below HXi.out.b _ _ (keep_below H0.out _ _ (hcell j u hj))
        have HTK := hide (takeC l i t ht)
        have HLL : Hid (L.length ≤ 1000000) := by
          have h1 := HXi.out.n
          rw [List.length_map, List.length_take] at h1
          show _ ≤ _
          omega
        have HIT := hide infoTp
        have HAT : Hid (∀ w, (isAgg 69).run Tryz.prog w = .ok true w) := aggTp
        have kf := hf1.1
        have kc := hc1.1
        have kw := hw1.1
        clear hcc hcell ht HF hf1 hc1 hw1
        by_cases hf : 80 < t.fs.length
        · have gf : (80 : Int) < (t.fs.length : Int) := by omega
          have HDf : Hid (Cnd 80 t.fs.length) := .inl ⟨rfl, hf⟩
          clear hf
          by_cases hc : 80 < t.cs.length
          · have gc : (80 : Int) < (t.cs.length : Int) := by omega
            have HDc : Hid (Cnd 80 t.cs.length) := .inl ⟨rfl, hc⟩
            clear hc
            by_cases hw : 80 < t.ws.length
            · have gw : (80 : Int) < (t.ws.length : Int) := by omega
              have HDw : Hid (Cnd 80 t.ws.length) := .inl ⟨rfl, hw⟩
              clear hw
              go_wp2_with (first
                | (refine wpList_aggAt rfl rfl HIT.out HAT.out b (off + i * 9) #[.string t.n, .int .i64 t.k, .int .i64 t.lo, .int .i64 t.hi, .string t.r.n, .bool t.r.z, .slice af t.fs.length cf, .slice ac t.cs.length cc, .slice aw t.ws.length cw] rfl rfl HCL.out ?_)
                | (refine Cuw.law HXi.out (tpi_cut HC.out HDf.out HDc.out HDw.out) HLL.out rfl rfl rfl rfl ?_; intro a9 n9 c9 w9 HR))
              go_roundw
              case rel => exact ⟨i + 1, _, _, _, _, by omega, rfl, by go_num, by rw [HTK.out]; exact HR⟩
              case measure => simp [intOf]; omega
            · have gw : ¬ (80 : Int) < (t.ws.length : Int) := by omega
              have HDw : Hid (Cnd t.ws.length t.ws.length) := .inr ⟨rfl, hw⟩
              clear hw
              go_wp2_with (first
                | (refine wpList_aggAt rfl rfl HIT.out HAT.out b (off + i * 9) #[.string t.n, .int .i64 t.k, .int .i64 t.lo, .int .i64 t.hi, .string t.r.n, .bool t.r.z, .slice af t.fs.length cf, .slice ac t.cs.length cc, .slice aw t.ws.length cw] rfl rfl HCL.out ?_)
                | (refine Cuw.law HXi.out (tpi_cut HC.out HDf.out HDc.out HDw.out) HLL.out rfl rfl rfl rfl ?_; intro a9 n9 c9 w9 HR))
              go_roundw
              case rel => exact ⟨i + 1, _, _, _, _, by omega, rfl, by go_num, by rw [HTK.out]; exact HR⟩
              case measure => simp [intOf]; omega
          · have gc : ¬ (80 : Int) < (t.cs.length : Int) := by omega
            have HDc : Hid (Cnd t.cs.length t.cs.length) := .inr ⟨rfl, hc⟩
            clear hc
            by_cases hw : 80 < t.ws.length
            · have gw : (80 : Int) < (t.ws.length : Int) := by omega
              have HDw : Hid (Cnd 80 t.ws.length) := .inl ⟨rfl, hw⟩
              clear hw
              go_wp2_with (first
                | (refine wpList_aggAt rfl rfl HIT.out HAT.out b (off + i * 9) #[.string t.n, .int .i64 t.k, .int .i64 t.lo, .int .i64 t.hi, .string t.r.n, .bool t.r.z, .slice af t.fs.length cf, .slice ac t.cs.length cc, .slice aw t.ws.length cw] rfl rfl HCL.out ?_)
                | (refine Cuw.law HXi.out (tpi_cut HC.out HDf.out HDc.out HDw.out) HLL.out rfl rfl rfl rfl ?_; intro a9 n9 c9 w9 HR))
              go_roundw
              case rel => exact ⟨i + 1, _, _, _, _, by omega, rfl, by go_num, by rw [HTK.out]; exact HR⟩
              case measure => simp [intOf]; omega
            · have gw : ¬ (80 : Int) < (t.ws.length : Int) := by omega
              have HDw : Hid (Cnd t.ws.length t.ws.length) := .inr ⟨rfl, hw⟩
              clear hw
              go_wp2_with (first
                | (refine wpList_aggAt rfl rfl HIT.out HAT.out b (off + i * 9) #[.string t.n, .int .i64 t.k, .int .i64 t.lo, .int .i64 t.hi, .string t.r.n, .bool t.r.z, .slice af t.fs.length cf, .slice ac t.cs.length cc, .slice aw t.ws.length cw] rfl rfl HCL.out ?_)
                | (refine Cuw.law HXi.out (tpi_cut HC.out HDf.out HDc.out HDw.out) HLL.out rfl rfl rfl rfl ?_; intro a9 n9 c9 w9 HR))
              go_roundw
              case rel => exact ⟨i + 1, _, _, _, _, by omega, rfl, by go_num, by rw [HTK.out]; exact HR⟩
              case measure => simp [intOf]; omega
        · have gf : ¬ (80 : Int) < (t.fs.length : Int) := by omega
          have HDf : Hid (Cnd t.fs.length t.fs.length) := .inr ⟨rfl, hf⟩
          clear hf
          by_cases hc : 80 < t.cs.length
          · have gc : (80 : Int) < (t.cs.length : Int) := by omega
            have HDc : Hid (Cnd 80 t.cs.length) := .inl ⟨rfl, hc⟩
            clear hc
            by_cases hw : 80 < t.ws.length
            · have gw : (80 : Int) < (t.ws.length : Int) := by omega
              have HDw : Hid (Cnd 80 t.ws.length) := .inl ⟨rfl, hw⟩
              clear hw
              go_wp2_with (first
                | (refine wpList_aggAt rfl rfl HIT.out HAT.out b (off + i * 9) #[.string t.n, .int .i64 t.k, .int .i64 t.lo, .int .i64 t.hi, .string t.r.n, .bool t.r.z, .slice af t.fs.length cf, .slice ac t.cs.length cc, .slice aw t.ws.length cw] rfl rfl HCL.out ?_)
                | (refine Cuw.law HXi.out (tpi_cut HC.out HDf.out HDc.out HDw.out) HLL.out rfl rfl rfl rfl ?_; intro a9 n9 c9 w9 HR))
              go_roundw
              case rel => exact ⟨i + 1, _, _, _, _, by omega, rfl, by go_num, by rw [HTK.out]; exact HR⟩
              case measure => simp [intOf]; omega
            · have gw : ¬ (80 : Int) < (t.ws.length : Int) := by omega
              have HDw : Hid (Cnd t.ws.length t.ws.length) := .inr ⟨rfl, hw⟩
              clear hw
              go_wp2_with (first
                | (refine wpList_aggAt rfl rfl HIT.out HAT.out b (off + i * 9) #[.string t.n, .int .i64 t.k, .int .i64 t.lo, .int .i64 t.hi, .string t.r.n, .bool t.r.z, .slice af t.fs.length cf, .slice ac t.cs.length cc, .slice aw t.ws.length cw] rfl rfl HCL.out ?_)
                | (refine Cuw.law HXi.out (tpi_cut HC.out HDf.out HDc.out HDw.out) HLL.out rfl rfl rfl rfl ?_; intro a9 n9 c9 w9 HR))
              go_roundw
              case rel => exact ⟨i + 1, _, _, _, _, by omega, rfl, by go_num, by rw [HTK.out]; exact HR⟩
              case measure => simp [intOf]; omega
          · have gc : ¬ (80 : Int) < (t.cs.length : Int) := by omega
            have HDc : Hid (Cnd t.cs.length t.cs.length) := .inr ⟨rfl, hc⟩
            clear hc
            by_cases hw : 80 < t.ws.length
            · have gw : (80 : Int) < (t.ws.length : Int) := by omega
              have HDw : Hid (Cnd 80 t.ws.length) := .inl ⟨rfl, hw⟩
              clear hw
              go_wp2_with (first
                | (refine wpList_aggAt rfl rfl HIT.out HAT.out b (off + i * 9) #[.string t.n, .int .i64 t.k, .int .i64 t.lo, .int .i64 t.hi, .string t.r.n, .bool t.r.z, .slice af t.fs.length cf, .slice ac t.cs.length cc, .slice aw t.ws.length cw] rfl rfl HCL.out ?_)
                | (refine Cuw.law HXi.out (tpi_cut HC.out HDf.out HDc.out HDw.out) HLL.out rfl rfl rfl rfl ?_; intro a9 n9 c9 w9 HR))
              go_roundw
              case rel => exact ⟨i + 1, _, _, _, _, by omega, rfl, by go_num, by rw [HTK.out]; exact HR⟩
              case measure => simp [intOf]; omega
            · have gw : ¬ (80 : Int) < (t.ws.length : Int) := by omega
              have HDw : Hid (Cnd t.ws.length t.ws.length) := .inr ⟨rfl, hw⟩
              clear hw
              go_wp2_with (first
                | (refine wpList_aggAt rfl rfl HIT.out HAT.out b (off + i * 9) #[.string t.n, .int .i64 t.k, .int .i64 t.lo, .int .i64 t.hi, .string t.r.n, .bool t.r.z, .slice af t.fs.length cf, .slice ac t.cs.length cc, .slice aw t.ws.length cw] rfl rfl HCL.out ?_)
                | (refine Cuw.law HXi.out (tpi_cut HC.out HDf.out HDc.out HDw.out) HLL.out rfl rfl rfl rfl ?_; intro a9 n9 c9 w9 HR))
              go_roundw
              case rel => exact ⟨i + 1, _, _, _, _, by omega, rfl, by go_num, by rw [HTK.out]; exact HR⟩
              case measure => simp [intOf]; omega
      · have g1 : ¬ (i : Int) < 80 := by omega
        have HX2 : Hid (Cuw W w (.slice a0 n0 c0) L (cutL l) wr) := by
          have h := HXi.out
          have e : i = 80 := by omega
          rw [e] at h
          exact h
        clear HXi HF
        go_wp2_with fail
        go_ret
        first | exact ⟨_, _, _, rfl, L, HX2.out⟩ | exact ⟨_, _, _, L, rfl, HX2.out⟩
  · have g0 : ¬ (80 : Int) < (l.length : Int) := by omega
    go_wp2_with fail
    go_loopw [3, 4] (fun vo vi wx => ∃ (i : Nat) (a0 : Option Addr) (n0 c0 : Nat) (L : List (Array Value)), i ≤ l.length ∧ vo = .slice a0 n0 c0 ∧ vi = .int .i64 (i : Nat) ∧ Hid (Cuw W w (.slice a0 n0 c0) L ((l.take i).map cutT) wx)) (fun _ vi _ => l.length - (intOf vi).toNat)
    case atStart => exact ⟨0, none, 0, 0, [], by omega, rfl, rfl, HX⟩
    case round =>
      obtain ⟨i, a0, n0, c0, L, hi, rfl, rfl, HXi⟩ := hrel
      clear HX
      by_cases hlt : i < l.length
      · have g1 : (i : Int) < (l.length : Int) := by omega
        have hil : i < l.length := by omega
        obtain ⟨t, ht⟩ : ∃ t, l[i]? = some t := ⟨l[i], List.getElem?_eq_getElem hil⟩
        obtain ⟨b, off, rfl, hcc⟩ := HF.out.resolve_left (fun h => by rw [h] at hil; simp at hil)
        obtain ⟨c, hc, hcell⟩ := hcc i t ht
        have HC := hide hc
        obtain ⟨⟨vf, vc, vw, rfl, ⟨⟨af, cf, rfl, hf1, -⟩, hf2⟩, ⟨⟨ac, cc, rfl, hc1, -⟩, hc2⟩, ⟨⟨aw, cw, rfl, hw1, -⟩, hw2, -⟩⟩, -⟩ := hc
        unfold tpc at hcell HC
        have HCL : Hid (∀ j u, (#[.string t.n, .int .i64 t.k, .int .i64 t.lo, .int .i64 t.hi, .string t.r.n, .bool t.r.z, .slice af t.fs.length cf, .slice ac t.cs.length cc, .slice aw t.ws.length cw] : Array Value)[j]? = some u → wr.cell? ⟨b, off + i * 9 + j, none⟩ = some u) := fun j u hj => keep_below HXi.out.b _ _ (keep_below H0.out _ _ (hcell j u hj))
        have HTK := hide (takeC l i t ht)
        have HLL : Hid (L.length ≤ 1000000) := by
          have h1 := HXi.out.n
          rw [List.length_map, List.length_take] at h1
          show _ ≤ _
          omega
        have HIT := hide infoTp
        have HAT : Hid (∀ w, (isAgg 69).run Tryz.prog w = .ok true w) := aggTp
        have kf := hf1.1
        have kc := hc1.1
        have kw := hw1.1
        clear hcc hcell ht HF hf1 hc1 hw1
        by_cases hf : 80 < t.fs.length
        · have gf : (80 : Int) < (t.fs.length : Int) := by omega
          have HDf : Hid (Cnd 80 t.fs.length) := .inl ⟨rfl, hf⟩
          clear hf
          by_cases hc : 80 < t.cs.length
          · have gc : (80 : Int) < (t.cs.length : Int) := by omega
            have HDc : Hid (Cnd 80 t.cs.length) := .inl ⟨rfl, hc⟩
            clear hc
            by_cases hw : 80 < t.ws.length
            · have gw : (80 : Int) < (t.ws.length : Int) := by omega
              have HDw : Hid (Cnd 80 t.ws.length) := .inl ⟨rfl, hw⟩
              clear hw
              go_wp2_with (first
                | (refine wpList_aggAt rfl rfl HIT.out HAT.out b (off + i * 9) #[.string t.n, .int .i64 t.k, .int .i64 t.lo, .int .i64 t.hi, .string t.r.n, .bool t.r.z, .slice af t.fs.length cf, .slice ac t.cs.length cc, .slice aw t.ws.length cw] rfl rfl HCL.out ?_)
                | (refine Cuw.law HXi.out (tpi_cut HC.out HDf.out HDc.out HDw.out) HLL.out rfl rfl rfl rfl ?_; intro a9 n9 c9 w9 HR))
              go_roundw
              case rel => exact ⟨i + 1, _, _, _, _, by omega, rfl, by go_num, by rw [HTK.out]; exact HR⟩
              case measure => simp [intOf]; omega
            · have gw : ¬ (80 : Int) < (t.ws.length : Int) := by omega
              have HDw : Hid (Cnd t.ws.length t.ws.length) := .inr ⟨rfl, hw⟩
              clear hw
              go_wp2_with (first
                | (refine wpList_aggAt rfl rfl HIT.out HAT.out b (off + i * 9) #[.string t.n, .int .i64 t.k, .int .i64 t.lo, .int .i64 t.hi, .string t.r.n, .bool t.r.z, .slice af t.fs.length cf, .slice ac t.cs.length cc, .slice aw t.ws.length cw] rfl rfl HCL.out ?_)
                | (refine Cuw.law HXi.out (tpi_cut HC.out HDf.out HDc.out HDw.out) HLL.out rfl rfl rfl rfl ?_; intro a9 n9 c9 w9 HR))
              go_roundw
              case rel => exact ⟨i + 1, _, _, _, _, by omega, rfl, by go_num, by rw [HTK.out]; exact HR⟩
              case measure => simp [intOf]; omega
          · have gc : ¬ (80 : Int) < (t.cs.length : Int) := by omega
            have HDc : Hid (Cnd t.cs.length t.cs.length) := .inr ⟨rfl, hc⟩
            clear hc
            by_cases hw : 80 < t.ws.length
            · have gw : (80 : Int) < (t.ws.length : Int) := by omega
              have HDw : Hid (Cnd 80 t.ws.length) := .inl ⟨rfl, hw⟩
              clear hw
              go_wp2_with (first
                | (refine wpList_aggAt rfl rfl HIT.out HAT.out b (off + i * 9) #[.string t.n, .int .i64 t.k, .int .i64 t.lo, .int .i64 t.hi, .string t.r.n, .bool t.r.z, .slice af t.fs.length cf, .slice ac t.cs.length cc, .slice aw t.ws.length cw] rfl rfl HCL.out ?_)
                | (refine Cuw.law HXi.out (tpi_cut HC.out HDf.out HDc.out HDw.out) HLL.out rfl rfl rfl rfl ?_; intro a9 n9 c9 w9 HR))
              go_roundw
              case rel => exact ⟨i + 1, _, _, _, _, by omega, rfl, by go_num, by rw [HTK.out]; exact HR⟩
              case measure => simp [intOf]; omega
            · have gw : ¬ (80 : Int) < (t.ws.length : Int) := by omega
              have HDw : Hid (Cnd t.ws.length t.ws.length) := .inr ⟨rfl, hw⟩
              clear hw
              go_wp2_with (first
                | (refine wpList_aggAt rfl rfl HIT.out HAT.out b (off + i * 9) #[.string t.n, .int .i64 t.k, .int .i64 t.lo, .int .i64 t.hi, .string t.r.n, .bool t.r.z, .slice af t.fs.length cf, .slice ac t.cs.length cc, .slice aw t.ws.length cw] rfl rfl HCL.out ?_)
                | (refine Cuw.law HXi.out (tpi_cut HC.out HDf.out HDc.out HDw.out) HLL.out rfl rfl rfl rfl ?_; intro a9 n9 c9 w9 HR))
              go_roundw
              case rel => exact ⟨i + 1, _, _, _, _, by omega, rfl, by go_num, by rw [HTK.out]; exact HR⟩
              case measure => simp [intOf]; omega
        · have gf : ¬ (80 : Int) < (t.fs.length : Int) := by omega
          have HDf : Hid (Cnd t.fs.length t.fs.length) := .inr ⟨rfl, hf⟩
          clear hf
          by_cases hc : 80 < t.cs.length
          · have gc : (80 : Int) < (t.cs.length : Int) := by omega
            have HDc : Hid (Cnd 80 t.cs.length) := .inl ⟨rfl, hc⟩
            clear hc
            by_cases hw : 80 < t.ws.length
            · have gw : (80 : Int) < (t.ws.length : Int) := by omega
              have HDw : Hid (Cnd 80 t.ws.length) := .inl ⟨rfl, hw⟩
              clear hw
              go_wp2_with (first
                | (refine wpList_aggAt rfl rfl HIT.out HAT.out b (off + i * 9) #[.string t.n, .int .i64 t.k, .int .i64 t.lo, .int .i64 t.hi, .string t.r.n, .bool t.r.z, .slice af t.fs.length cf, .slice ac t.cs.length cc, .slice aw t.ws.length cw] rfl rfl HCL.out ?_)
                | (refine Cuw.law HXi.out (tpi_cut HC.out HDf.out HDc.out HDw.out) HLL.out rfl rfl rfl rfl ?_; intro a9 n9 c9 w9 HR))
              go_roundw
              case rel => exact ⟨i + 1, _, _, _, _, by omega, rfl, by go_num, by rw [HTK.out]; exact HR⟩
              case measure => simp [intOf]; omega
            · have gw : ¬ (80 : Int) < (t.ws.length : Int) := by omega
              have HDw : Hid (Cnd t.ws.length t.ws.length) := .inr ⟨rfl, hw⟩
              clear hw
              go_wp2_with (first
                | (refine wpList_aggAt rfl rfl HIT.out HAT.out b (off + i * 9) #[.string t.n, .int .i64 t.k, .int .i64 t.lo, .int .i64 t.hi, .string t.r.n, .bool t.r.z, .slice af t.fs.length cf, .slice ac t.cs.length cc, .slice aw t.ws.length cw] rfl rfl HCL.out ?_)
                | (refine Cuw.law HXi.out (tpi_cut HC.out HDf.out HDc.out HDw.out) HLL.out rfl rfl rfl rfl ?_; intro a9 n9 c9 w9 HR))
              go_roundw
              case rel => exact ⟨i + 1, _, _, _, _, by omega, rfl, by go_num, by rw [HTK.out]; exact HR⟩
              case measure => simp [intOf]; omega
          · have gc : ¬ (80 : Int) < (t.cs.length : Int) := by omega
            have HDc : Hid (Cnd t.cs.length t.cs.length) := .inr ⟨rfl, hc⟩
            clear hc
            by_cases hw : 80 < t.ws.length
            · have gw : (80 : Int) < (t.ws.length : Int) := by omega
              have HDw : Hid (Cnd 80 t.ws.length) := .inl ⟨rfl, hw⟩
              clear hw
              go_wp2_with (first
                | (refine wpList_aggAt rfl rfl HIT.out HAT.out b (off + i * 9) #[.string t.n, .int .i64 t.k, .int .i64 t.lo, .int .i64 t.hi, .string t.r.n, .bool t.r.z, .slice af t.fs.length cf, .slice ac t.cs.length cc, .slice aw t.ws.length cw] rfl rfl HCL.out ?_)
                | (refine Cuw.law HXi.out (tpi_cut HC.out HDf.out HDc.out HDw.out) HLL.out rfl rfl rfl rfl ?_; intro a9 n9 c9 w9 HR))
              go_roundw
              case rel => exact ⟨i + 1, _, _, _, _, by omega, rfl, by go_num, by rw [HTK.out]; exact HR⟩
              case measure => simp [intOf]; omega
            · have gw : ¬ (80 : Int) < (t.ws.length : Int) := by omega
              have HDw : Hid (Cnd t.ws.length t.ws.length) := .inr ⟨rfl, hw⟩
              clear hw
              go_wp2_with (first
                | (refine wpList_aggAt rfl rfl HIT.out HAT.out b (off + i * 9) #[.string t.n, .int .i64 t.k, .int .i64 t.lo, .int .i64 t.hi, .string t.r.n, .bool t.r.z, .slice af t.fs.length cf, .slice ac t.cs.length cc, .slice aw t.ws.length cw] rfl rfl HCL.out ?_)
                | (refine Cuw.law HXi.out (tpi_cut HC.out HDf.out HDc.out HDw.out) HLL.out rfl rfl rfl rfl ?_; intro a9 n9 c9 w9 HR))
              go_roundw
              case rel => exact ⟨i + 1, _, _, _, _, by omega, rfl, by go_num, by rw [HTK.out]; exact HR⟩
              case measure => simp [intOf]; omega
      · have g1 : ¬ (i : Int) < (l.length : Int) := by omega
        have HX2 : Hid (Cuw W w (.slice a0 n0 c0) L (cutL l) wr) := by
          have h := HXi.out
          have e : l.take i = l.take 80 := by rw [List.take_of_length_le (by omega), List.take_of_length_le (by omega)]
          rw [e] at h
          exact h
        clear HXi HF
        go_wp2_with fail
        go_ret
        first | exact ⟨_, _, _, rfl, L, HX2.out⟩ | exact ⟨_, _, _, L, rfl, HX2.out⟩
theorem cut11_any (w : World) (v : Value) (l : List Tp) (hv : TSl w v l) : Calls Tryz.prog 5 #[v] w fun e w' => ∃ v', e = .returned v' ∧ Hid (TSl w' v' (cutL l) ∧ Below w.heap.size w w') := by
  refine (cut11o_any w w (Below.refl _ _) v l hv).mono ?_
  rintro e w' ⟨a, n, c, L, rfl, hP⟩
  exact ⟨_, rfl, Cuw.tsl (Below.refl _ _) hP.out (by unfold cutL; rw [List.length_map, List.length_take]; omega), hP.out.b⟩
end
end Go.Proofs.YtbbalhfjgpaabaaGreatDoor

import Derived.Test.YtnpjmanagecpkaaDoorKd
import Derived.Test.YtnpjmanagecpkaaDoorKa
import Derived.Deep.RegionHeld
import Derived.Laws.AppendOwnNone
namespace Go.Proofs.YtnpjmanagecpkaaDoor
section
open Go.RowKit Go
theorem putL_no {L : List ByteArray} {s : ByteArray} (h : stray L s = false) : putL L s = s :: L := by
  unfold stray at h
  unfold putL
  rw [if_neg (by rw [(Bool.or_eq_false_iff.1 h).1]; decide)]
/-- What fieldsFit has in hand. -/
structure Ffw (w : World) (tc : Array Value) (q B n : Nat) (L : List ByteArray) (q' B' n' : Nat) (L' : List ByteArray) (wx : World) : Prop where
  a : wx.heap[w.heap.size]? = some (.cells tc 29 (0, 0))
  s : Str q B n L wx
  r : Str q' B' n' L' wx
  b : Below w.heap.size w wx
  h1 : w.heap.size < B ∧ w.heap.size < B'
  h2 : B ≠ B' ∧ q ≠ B' ∧ q' ≠ B
theorem Ffw.next {w wx wy : World} {tc : Array Value} {q B n q' B' n' : Nat} {L L' : List ByteArray} (h : Ffw w tc q B n L q' B' n' L' wx) (hb : Below wx.heap.size wx wy) : Ffw w tc q B n L q' B' n' L' wy := ⟨(hb.block _ (blk_lt h.a)).trans h.a, h.s.next hb, h.r.next hb, h.b.trans (hb.mono h.b.size), h.h1, h.h2⟩
theorem Ffw.turn {w wx wy : World} {tc : Array Value} {q B n m q' B' n' : Nat} {L M L' : List ByteArray} (h : Ffw w tc q B n L q' B' n' L' wx) (hk : Kp (fun x => x = B) wx wy) (hs : Str q B m M wy) : Ffw w tc q B m M q' B' n' L' wy := by
  have h1 := h.h1
  have h2 := h.h2
  exact ⟨(hk.block _ (blk_lt h.a) (fun e => by omega)).trans h.a, hs, h.r.kp hk (fun e => h2.2.2 e) (fun e => h2.1 e.symm), h.b.trans (hk.below h.b.size (fun x e => by omega)), h1, h2⟩
theorem Ffw.turn' {w wx wy : World} {tc : Array Value} {q B n m q' B' n' : Nat} {L M L' : List ByteArray} (h : Ffw w tc q B n L q' B' n' L' wx) (hk : Kp (fun x => x = B') wx wy) (hs : Str q' B' m M wy) : Ffw w tc q B n L q' B' m M wy := by
  have h1 := h.h1
  have h2 := h.h2
  exact ⟨(hk.block _ (blk_lt h.a) (fun e => by omega)).trans h.a, h.s.kp hk (fun e => h2.2.1 e) (fun e => h2.1 e), hs, h.b.trans (hk.below h.b.size (fun x e => by omega)), h1, h2⟩
theorem Ffw.tabs {w wx : World} {tc : Array Value} {q B n q' B' n' : Nat} {L L' : List ByteArray} (h : Ffw w tc q B n L q' B' n' L' wx) (hT : ∀ wy, Below w.heap.size w wy → Tabs wy) {X : Nat} (hX : w.heap.size < X) : ∀ wy, Kp (fun x => x = X) wx wy → Tabs wy := fun wy hy => hT wy (h.b.trans (hy.below h.b.size (fun z e => by omega)))
set_option maxRecDepth 1000000 in
set_option maxHeartbeats 1000000 in
theorem fieldsFit_any (w : World) (hT : Tabs w) (t : Tp) (c : Array Value) (hc : Tpi w t c) : Calls Tryd.prog 43 #[.agg c] w fun e w' => e = .returned (.bool (fft t)) ∧ Below w.heap.size w w' := by
  have HT : Hid (∀ wy, Below w.heap.size w wy → Tabs wy) := fun wy hb => hT.next hb
  obtain ⟨⟨vf, vc, vw, rfl, ⟨⟨af, cf, rfl, -, hff⟩, hfm⟩, ⟨⟨ac, cc, rfl, -, hcf⟩, hcm⟩, ⟨⟨aw, cw, rfl, -, -⟩, hwm, -⟩⟩, hbd⟩ := hc
  have HF := hide hff
  unfold tpc
  clear hff hcf hcm hwm hbd hT
  go_enter Tryd.func43, Tryd.ntmps43
  go_upto_region 1 with fail
  have HA1 := hide (heap_alloc_new w (.cells #[.string t.n, .int .i64 t.k, .int .i64 t.lo, .int .i64 t.hi, .string t.r.n, .bool t.r.z, .slice af t.fs.length cf, .slice ac t.cs.length cc, .slice aw t.ws.length cw] 29))
  have HB1 := hide (below_alloc4 w (.cells #[.string t.n, .int .i64 t.k, .int .i64 t.lo, .int .i64 t.hi, .string t.r.n, .bool t.r.z, .slice af t.fs.length cf, .slice ac t.cs.length cc, .slice aw t.ws.length cw] 29))
  have HT1 : Hid ((#[.string t.n, .int .i64 t.k, .int .i64 t.lo, .int .i64 t.hi, .string t.r.n, .bool t.r.z, .slice af t.fs.length cf, .slice ac t.cs.length cc, .slice aw t.ws.length cw] : Array Value)[1]? = some (.int .i64 t.k)) := rfl
  have HT6 : Hid ((#[.string t.n, .int .i64 t.k, .int .i64 t.lo, .int .i64 t.hi, .string t.r.n, .bool t.r.z, .slice af t.fs.length cf, .slice ac t.cs.length cc, .slice aw t.ws.length cw] : Array Value)[6]? = some (.slice af t.fs.length cf)) := rfl
  obtain ⟨tc, htc⟩ : ∃ tc : Array Value, tc = #[.string t.n, .int .i64 t.k, .int .i64 t.lo, .int .i64 t.hi, .string t.r.n, .bool t.r.z, .slice af t.fs.length cf, .slice ac t.cs.length cc, .slice aw t.ws.length cw] := ⟨_, rfl⟩
  rw [← htc] at HA1 HB1 HT1 HT6
  rw [← htc]
  clear htc
  generalize w.alloc (.cells tc 29) = w1 at *
  have q6 : w1.cell? ⟨w.heap.size, 6, none⟩ = some (.slice af t.fs.length cf) := blk_cell (j := 6) HA1.out HT6.out
  by_cases h64 : 64 < t.fs.length
  · as_aux_lemma =>
    have g64 : (64 : Int) < (t.fs.length : Int) := by omega
    have HR : Hid (fft t = false) := by show _ = _; unfold fft; rw [decide_eq_false (by omega)]; rfl
    clear h64
    go_wp2_with fail
    go_ret
    exact ⟨by rw [HR.out]; rfl, HB1.out⟩
  have g64 : ¬ (64 : Int) < (t.fs.length : Int) := by omega
  have HR : Hid (fft t = ffs t.k [] [] false t.fs) := by show _ = _; unfold fft; rw [decide_eq_true (by omega)]; rfl
  have HL64 : Hid (t.fs.length ≤ 64) := by show _ ≤ _; omega
  clear h64
  go_wp2_with fail
  refine (strays_any w1).mono ?_
  rintro e w2 ⟨rfl, hP⟩
  have HS1 := hide hP.out.1
  have HB2 := hide hP.out.2
  clear hP q6
  go_wp2_with fail
  refine (strays_any w2).mono ?_
  rintro e w3 ⟨rfl, hP⟩
  have HX : Hid (Ffw w tc (w1.heap.size + 1) w1.heap.size 0 [] (w2.heap.size + 1) w2.heap.size 0 [] w3) := by
    have hb3 := hP.out.2
    have h5 := blk_lt HA1.out
    have h6 := HS1.out.m.lt
    have h7 := blk_lt HS1.out.q
    have ha2 := (HB2.out.block _ h5).trans HA1.out
    exact ⟨(hb3.block _ (blk_lt ha2)).trans ha2, HS1.out.next hb3, hP.out.1, (HB1.out.trans (HB2.out.mono HB1.out.size)).trans (hb3.mono (Nat.le_trans HB1.out.size HB2.out.size)), ⟨h5, by omega⟩, by omega, by omega, by omega⟩
  clear hP HS1 HB2 HA1 HB1
  generalize w1.heap.size = B at *
  generalize w2.heap.size = B' at *
  generalize B + 1 = q at *
  generalize B' + 1 = q' at *
  have q6 : w3.cell? ⟨w.heap.size, 6, none⟩ = some (.slice af t.fs.length cf) := blk_cell (j := 6) HX.out.a HT6.out
  go_wp2_with fail
  clear q6
  go_loopw [5, 17] (fun vm vi wx => ∃ (i n n' : Nat) (mb : Bool) (L L' : List ByteArray), i ≤ t.fs.length ∧ n ≤ i ∧ n' ≤ i ∧ vm = .bool mb ∧ vi = .int .i64 (i : Nat) ∧ Hid (ffs t.k L L' mb (t.fs.drop i) = fft t) ∧ Hid (Ffw w tc q B n L q' B' n' L' wx)) (fun _ vi _ => t.fs.length - (intOf vi).toNat)
  case atStart => exact ⟨0, 0, 0, false, [], [], by omega, by omega, by omega, rfl, rfl, (by show _ = _; rw [HR.out, List.drop_zero]), HX⟩
  case round =>
    obtain ⟨i, n, n', mb, L, L', hi, hn, hn', rfl, rfl, HE, HXi⟩ := hrel
    clear HX HR
    by_cases hlt : i < t.fs.length
    · as_aux_lemma =>
      have g1 : (i : Int) < (t.fs.length : Int) := by omega
      obtain ⟨f, hf⟩ : ∃ f, t.fs[i]? = some f := ⟨t.fs[i], List.getElem?_eq_getElem hlt⟩
      obtain ⟨b, off, rfl, hcc⟩ := HF.out.resolve_left (fun h => by rw [h] at hlt; simp at hlt)
      obtain ⟨c, ⟨rfl, hz1, hz2, _⟩, hcell⟩ := hcc i f hf
      unfold fdc at hcell
      have HCL : Hid (∀ j u, (#[.string f.n, .string f.k, .string f.r.n, .bool f.r.z, .bool f.m] : Array Value)[j]? = some u → wr.cell? ⟨b, off + i * 5 + j, none⟩ = some u) := fun j u hj => keep_below HXi.out.b _ _ (hcell j u hj)
      have HZ1 := hide hz1
      have HZ2 := hide hz2
      have HD : Hid (t.fs.drop i = f :: t.fs.drop (i + 1)) := by
        show _ = _
        rw [List.drop_eq_getElem_cons hlt]
        rw [List.getElem?_eq_getElem hlt] at hf
        injection hf with hf
        rw [hf]
      rw [HD.out] at HE
      have HX1 := hide (HXi.out.next (below_alloc4 wr (.cells #[.string f.n, .string f.k, .string f.r.n, .bool f.r.z, .bool f.m] 46)))
      have HIF := hide infoFd
      have HAF : Hid (∀ w, (isAgg 46).run Tryd.prog w = .ok true w) := aggFd
      have HNI : Hid (n < 1000000 ∧ n' < 1000000) := by have := HL64.out; show _ ∧ _; omega
      have HFC := hide (heap_alloc_new wr (.cells #[.string f.n, .string f.k, .string f.r.n, .bool f.r.z, .bool f.m] 46))
      have HB0 : Hid (B < wr.heap.size ∧ B' < wr.heap.size) := ⟨HXi.out.s.m.lt, HXi.out.r.m.lt⟩
      clear hcc hcell hf hz1 hz2 HXi HF HD
      go_wp2_with (refine wpList_aggAt rfl rfl HIF.out HAF.out b (off + i * 5) #[.string f.n, .string f.k, .string f.r.n, .bool f.r.z, .bool f.m] rfl rfl HCL.out ?_)
      have HGB : Hid (wr.heap.size ≠ B ∧ wr.heap.size ≠ B') := by
        have h1 := HB0.out.1
        have h2 := HB0.out.2
        show _ ∧ _
        omega
      generalize wr.alloc (.cells #[.string f.n, .string f.k, .string f.r.n, .bool f.r.z, .bool f.m] 46) = wq at *
      generalize wr.heap.size = G at *
      refine (nameable_any f.n wq).mono ?_
      rintro e w4 ⟨rfl, hb4⟩
      have HX4 := hide (HX1.out.next hb4)
      have HF4 := hide ((hb4.block _ (blk_lt HFC.out)).trans HFC.out)
      clear hb4 HX1 HFC HCL
      rcases Bool.eq_false_or_eq_true (nbl f.n) with hnb | hnb
      rotate_left
      · rw [hnb]
        have HR : Hid (fft t = false) := by
          show _ = _
          rw [← HE.out]
          unfold ffs
          rw [hnb]; rfl
        clear HE
        go_wp2_with fail
        go_ret
        exact ⟨by rw [HR.out]; rfl, HX4.out.b⟩
      rw [hnb]
      have c0 : w4.cell? ⟨G, 0, none⟩ = some (.string f.n) := blk_cell (j := 0) HF4.out rfl
      go_wp2_with fail
      refine (stray1_any f.n HZ1.out q B n L w4 HX4.out.s HNI.out.1 (HX4.out.tabs HT.out HX4.out.h1.1)).mono ?_
      rintro e w5 ⟨rfl, hP⟩
      have hk5 := hP.out.2
      have HX5 := hide (HX4.out.turn hk5 hP.out.1)
      have HF5 := hide ((hk5.block _ (blk_lt HF4.out) HGB.out.1).trans HF4.out)
      clear hP hk5 HX4 HF4 c0
      rcases Bool.eq_false_or_eq_true (stray L f.n) with hst | hst
      · rw [hst]
        have HR : Hid (fft t = false) := by
          show _ = _
          rw [← HE.out]
          unfold ffs
          rw [hnb, hst]; rfl
        clear HE
        go_wp2_with fail
        go_ret
        exact ⟨by rw [HR.out]; rfl, HX5.out.b⟩
      rw [hst]
      have q1 : w5.cell? ⟨w.heap.size, 1, none⟩ = some (.int .i64 t.k) := blk_cell (j := 1) HX5.out.a HT1.out
      have c1 : w5.cell? ⟨G, 1, none⟩ = some (.string f.k) := blk_cell (j := 1) HF5.out rfl
      have c4 : w5.cell? ⟨G, 4, none⟩ = some (.bool f.m) := blk_cell (j := 4) HF5.out rfl
      replace HX5 : Hid (Ffw w tc q B (n + 1) (f.n :: L) q' B' n' L' w5) := by
        have h := HX5.out
        rw [putL_no hst] at h
        exact h
      by_cases h5 : t.k = 5
      · have g5 : (t.k == 5) = true := beq_iff_eq.2 h5
        have g6 : (t.k == 6) = false := beq_eq_false_iff_ne.2 (by omega)
        go_wp2_with fail
        refine (stray1_any f.k HZ2.out q' B' n' L' w5 HX5.out.r HNI.out.2 (HX5.out.tabs HT.out HX5.out.h1.2)).mono ?_
        rintro e w6 ⟨rfl, hP⟩
        have hk6 := hP.out.2
        have HX6 := hide (HX5.out.turn' hk6 hP.out.1)
        have HF6 := hide ((hk6.block _ (blk_lt HF5.out) HGB.out.2).trans HF5.out)
        clear hP hk6 HX5 HF5 q1 c1 c4
        rcases Bool.eq_false_or_eq_true (stray L' f.k) with hsk | hsk
        · rw [hsk]
          have HR : Hid (fft t = false) := by
            show _ = _
            rw [← HE.out]
            unfold ffs
            rw [hnb, hst, hsk, decide_eq_true h5]; rfl
          clear HE
          go_wp2_with fail
          go_ret
          exact ⟨by rw [HR.out]; rfl, HX6.out.b⟩
        rw [hsk]
        have q1 : w6.cell? ⟨w.heap.size, 1, none⟩ = some (.int .i64 t.k) := blk_cell (j := 1) HX6.out.a HT1.out
        have c4 : w6.cell? ⟨G, 4, none⟩ = some (.bool f.m) := blk_cell (j := 4) HF6.out rfl
        replace HX6 : Hid (Ffw w tc q B (n + 1) (f.n :: L) q' B' (n' + 1) (f.k :: L') w6) := by
          have h := HX6.out
          rw [putL_no hsk] at h
          exact h
        have HE2 : Hid (ffs t.k (f.n :: L) (f.k :: L') f.m (t.fs.drop (i + 1)) = fft t) := by
          show _ = _
          rw [← HE.out]
          conv => rhs; unfold ffs
          rw [hnb, hst, hsk, decide_eq_true h5, decide_eq_false (show ¬ t.k = 6 by omega), if_pos h5]; rfl
        clear HE
        go_wp2_with fail
        go_roundw
        case rel => exact ⟨i + 1, n + 1, n' + 1, f.m, f.n :: L, (f.k :: L'), by omega, by omega, by omega, rfl, by go_num, HE2, HX6⟩
        case measure => simp [intOf]; omega
      have g5 : (t.k == 5) = false := beq_eq_false_iff_ne.2 h5
      by_cases h6 : t.k = 6
      · have g6 : (t.k == 6) = true := beq_iff_eq.2 h6
        by_cases hk : f.k = ⟨#[]⟩
        rotate_left
        · have gk : (f.k.toList == []) = false := by have := str_no hk; rw [emp_list] at this; exact this
          have HR : Hid (fft t = false) := by
            show _ = _
            rw [← HE.out]
            unfold ffs
            rw [hnb, hst, decide_eq_false h5, decide_eq_true h6, decide_eq_true hk]; rfl
          clear HE
          go_wp2_with fail
          go_ret
          exact ⟨by rw [HR.out]; rfl, HX5.out.b⟩
        have gk : (f.k.toList == []) = true := by rw [hk, emp_list]; rfl
        cases mb with
        | true =>
          rcases Bool.eq_false_or_eq_true f.m with hm | hm
          · rw [hm] at c4
            have HE2 : Hid (ffs t.k (f.n :: L) L' f.m (t.fs.drop (i + 1)) = fft t) := by
              show _ = _
              rw [← HE.out]
              conv => rhs; unfold ffs
              rw [hnb, hst, decide_eq_false h5, decide_eq_true h6, decide_eq_false (not_not_intro hk), if_neg h5, hm]; rfl
            clear HE
            go_wp2_with fail
            go_roundw
            case rel => exact ⟨i + 1, n + 1, n', f.m, f.n :: L, L', by omega, by omega, by omega, (by rw [hm]), by go_num, HE2, HX5⟩
            case measure => simp [intOf]; omega
          · rw [hm] at c4
            have HR : Hid (fft t = false) := by
              show _ = _
              rw [← HE.out]
              unfold ffs
              rw [hnb, hst, decide_eq_false h5, decide_eq_true h6, decide_eq_false (not_not_intro hk), hm]; rfl
            clear HE
            go_wp2_with fail
            go_ret
            exact ⟨by rw [HR.out]; rfl, HX5.out.b⟩
        | false =>
          have HE2 : Hid (ffs t.k (f.n :: L) L' f.m (t.fs.drop (i + 1)) = fft t) := by
            show _ = _
            rw [← HE.out]
            conv => rhs; unfold ffs
            rw [hnb, hst, decide_eq_false h5, decide_eq_true h6, decide_eq_false (not_not_intro hk), if_neg h5]; rfl
          clear HE
          go_wp2_with fail
          go_roundw
          case rel => exact ⟨i + 1, n + 1, n', f.m, f.n :: L, L', by omega, by omega, by omega, rfl, by go_num, HE2, HX5⟩
          case measure => simp [intOf]; omega
      have g6 : (t.k == 6) = false := beq_eq_false_iff_ne.2 h6
      have HE2 : Hid (ffs t.k (f.n :: L) L' f.m (t.fs.drop (i + 1)) = fft t) := by
        show _ = _
        rw [← HE.out]
        conv => rhs; unfold ffs
        rw [hnb, hst, decide_eq_false h5, decide_eq_false h6, if_neg h5]; rfl
      clear HE
      go_wp2_with fail
      go_roundw
      case rel => exact ⟨i + 1, n + 1, n', f.m, f.n :: L, L', by omega, by omega, by omega, rfl, by go_num, HE2, HX5⟩
      case measure => simp [intOf]; omega
    · as_aux_lemma =>
      have g1 : ¬ (i : Int) < (t.fs.length : Int) := by omega
      have HR : Hid (fft t = true) := by
        show _ = _
        rw [← HE.out, List.drop_of_length_le (by omega)]
        rfl
      clear HE
      go_wp2_with fail
      go_ret
      exact ⟨by rw [HR.out]; rfl, HXi.out.b⟩
end
section
open Go.RowKit Go
section
variable {P : Program} {Q : Exit → Act → World → Prop} {S : World → Prop} {l : List Oper} {fuel : Nat} {listed : Array Bool} {a : Act} {w : World}
/-- A region that draws its order, by hand: begin. -/
theorem heldStart {id : Nat} (hm : P.follows .mixedOrders = true) (h : wpAnyH P .any l.toArray Q S l.length (Array.replicate l.length false) a w.drew) : (Code.region id l.toArray true).wp P Q a w :=
  wp_region_held (S := S) hm (by simpa using h)
/-- Take one first that reads alone. -/
theorem heldTake (i : Nat) {oi : Oper} (v : Value) (hi : l[i]? = some oi) (hs : Region.noSelect l.toArray = true) (hf : Region.free .any l.toArray listed i = true) (hr : (Region.ready .any l.toArray listed).contains i = true)
    (hQ : ∀ c a w, Q (.panic c) (a.put oi.dst v) w → Q (.panic c) a w) (hw : Region.wanted oi (yielded l.toArray a.tmps) = true) (hS : S w) (hy : ∀ w, S w → (execOp a.eval oi).run P w = .ok (.value v) w)
    (h : wpAnyH P .any l.toArray Q S fuel (listed.setIfInBounds i true) (a.put oi.dst v) w) : wpAnyH P .any l.toArray Q S (fuel + 1) listed a w :=
  wpAnyH_take (by simpa using hi) hs hf hr hQ (.inl ⟨hw, hy⟩) hS h
/-- The only one that may come up. -/
theorem heldStep (i : Nat) {oi : Oper} (hi : l[i]? = some oi) (hr : Region.ready .any l.toArray listed = [i])
    (h : ∀ K : Act → World → Prop, Hid (∀ a w, S w → (S w → wpAnyH P .any l.toArray Q S fuel (listed.setIfInBounds i true) a w) → K a w) → if Region.wanted oi (yielded l.toArray a.tmps) = true then Oper.wp P oi a w K Q else K (a.put oi.dst undef) w) : wpAnyH P .any l.toArray Q S (fuel + 1) listed a w :=
  wpAnyH_ready hr (by simp) (AllReadyH.cons (by simpa using hi) (fun K hK => h K hK) AllReadyH.nil)
theorem heldDone (hr : Region.ready .any l.toArray listed = []) (h : Q .normal a w) : wpAnyH P .any l.toArray Q S fuel listed a w := wpAnyH_done hr h fuel
end
end
section
open Go.RowKit Go
/-- A book's and a type's own copies. -/
structure Bt (w : World) (bk tc : Array Value) (wx : World) : Prop where
  a : wx.heap[w.heap.size]? = some (.cells bk 59 (0, 0))
  t : wx.heap[w.heap.size + 1]? = some (.cells tc 29 (0, 0))
  b : Below w.heap.size w wx
theorem Bt.start (w : World) (bk tc : Array Value) : Bt w bk tc ((w.alloc (.cells bk 59)).alloc (.cells tc 29)) := by
  have h1 := heap_alloc_new w (.cells bk 59)
  have e1 : (w.alloc (.cells bk 59)).heap.size = w.heap.size + 1 := by simp
  have h2 := heap_alloc_new (w.alloc (.cells bk 59)) (.cells tc 29)
  rw [e1] at h2
  exact ⟨blk_alloc _ h1, h2, (below_alloc4 w _).trans ((below_alloc4 _ _).mono (below_alloc4 w _).size)⟩
theorem Bt.next {w wx wy : World} {bk tc : Array Value} (h : Bt w bk tc wx) (hb : Below wx.heap.size wx wy) : Bt w bk tc wy := ⟨(hb.block _ (blk_lt h.a)).trans h.a, (hb.block _ (blk_lt h.t)).trans h.t, h.b.trans (hb.mono h.b.size)⟩
theorem Bt.bc {w wx : World} {bk tc : Array Value} (h : Bt w bk tc wx) : ∀ j u, bk[j]? = some u → wx.cell? ⟨w.heap.size, 0 + j, none⟩ = some u := fun j u hu => by rw [Nat.zero_add]; exact blk_cell h.a hu
theorem Bt.tc {w wx : World} {bk tc : Array Value} (h : Bt w bk tc wx) : ∀ j u, tc[j]? = some u → wx.cell? ⟨w.heap.size + 1, 0 + j, none⟩ = some u := fun j u hu => by rw [Nat.zero_add]; exact blk_cell h.t hu
theorem rfs_size {w : World} {t : Tp} {c : Array Value} (hc : Tpi w t c) : ∀ r ∈ rfs t, r.n.size ≤ 140737488351232 := fun r hr => by
  obtain ⟨⟨vf, vc, vw, _, ⟨⟨_, _, _, _, hff⟩, _⟩, ⟨⟨_, _, _, _, hcf⟩, _⟩, _⟩, hbd⟩ := hc
  unfold rfs at hr
  rcases List.mem_append.1 hr with hr | hr
  · rcases List.mem_append.1 hr with hr | hr
    · split at hr
      · rw [List.mem_singleton.1 hr]; exact hbd.r
      · cases hr
    · obtain ⟨f, hf, rfl⟩ := List.mem_map.1 hr
      obtain ⟨i, hi, e⟩ := List.getElem_of_mem hf
      rcases hff with h | ⟨b, off, _, h⟩
      · rw [h] at hf; cases hf
      · obtain ⟨_, ⟨_, _, _, h3⟩, _⟩ := h i f (by rw [List.getElem?_eq_getElem hi, e])
        exact h3
  · obtain ⟨x, hx, rfl⟩ := List.mem_map.1 hr
    obtain ⟨i, hi, e⟩ := List.getElem_of_mem hx
    rcases hcf with h | ⟨b, off, _, h⟩
    · rw [h] at hx; cases hx
    · obtain ⟨_, ⟨_, _, h3⟩, _⟩ := h i x (by rw [List.getElem?_eq_getElem hi, e])
      exact h3
theorem any_map_range {α : Type} (l : List α) (d : α) (f : α → Bool) : l.any f = (List.range l.length).any fun i => f (l.getD i d) := by
  induction l with
  | nil => rfl
  | cons x r ih =>
    rw [List.length_cons, any_range, List.any_cons, ih]
    simp only [List.getD_cons_zero, List.getD_cons_succ]
set_option maxRecDepth 1000000 in
set_option maxHeartbeats 1000000 in
theorem alone_any (w : World) (hT : Tabs w) (hO : Otb w) (vt : Value) (B : Nat) (l : List Tp) (hB : Bok w vt B l) (i : Nat) (t : Tp) (ht : l[i]? = some t) (hf1 : t.fs.length ≤ 1000) (hc1 : t.cs.length ≤ 1000) (hw1 : t.ws.length ≤ 1000) : Calls Tryd.prog 24 #[.agg #[vt, .map (some B)], .int .i64 (i : Nat)] w fun e w' => e = .returned (.int .i64 (aln l i t : Nat)) ∧ Below w.heap.size w w' := by
  have HT : Hid (∀ wy, Below w.heap.size w wy → Tabs wy) := fun wy hb => hT.next hb
  have HO : Hid (∀ wy, Below w.heap.size w wy → Otb wy) := fun wy hb => hO.next (keep_below hb)
  have HB := hide hB
  have hmax := hB.t.max
  have hil : i < l.length := (List.getElem?_eq_some_iff.1 ht).1
  obtain ⟨⟨⟨a, cap, rfl, _, hform⟩, _⟩, _⟩ := hB
  have g1 : (i : Int) < (l.length : Int) := by omega
  obtain ⟨b, off, rfl, hcc⟩ := hform.resolve_left (fun h => by rw [h] at hil; simp at hil)
  obtain ⟨c, hc, hcell⟩ := hcc i t ht
  have HC := hide hc
  have HRZ := hide (rfs_size hc)
  obtain ⟨⟨vf, vc, vw, rfl, ⟨⟨af, cf, rfl, -, hff⟩, hfm⟩, ⟨⟨ac, cc, rfl, -, hcf⟩, hcm⟩, ⟨⟨aw, cw, rfl, -, -⟩, hwm, -⟩⟩, hbd⟩ := hc
  have HNZ := hide hbd.n
  have hlo := hbd.lo
  have hhi := hbd.hi
  unfold tpc at hcell HC
  have HCL : Hid (∀ wx, Below w.heap.size w wx → ∀ j u, (#[.string t.n, .int .i64 t.k, .int .i64 t.lo, .int .i64 t.hi, .string t.r.n, .bool t.r.z, .slice af t.fs.length cf, .slice ac t.cs.length cc, .slice aw t.ws.length cw] : Array Value)[j]? = some u → wx.cell? ⟨b, off + i * 9 + j, none⟩ = some u) := fun wx hx j u hj => keep_below hx _ _ (hcell j u hj)
  have HCI : Hid (∀ wx, Below w.heap.size w wx → Tpi wx t #[.string t.n, .int .i64 t.k, .int .i64 t.lo, .int .i64 t.hi, .string t.r.n, .bool t.r.z, .slice af t.fs.length cf, .slice ac t.cs.length cc, .slice aw t.ws.length cw]) := fun wx hx => HC.out.move (keep_below hx)
  have HBI : Hid (∀ wx, Below w.heap.size w wx → Bok wx (.slice (some ⟨b, off, none⟩) l.length cap) B l) := fun wx hx => HB.out.next hx
  have HF1 : Hid (t.fs.length ≤ 1000 ∧ t.cs.length ≤ 1000 ∧ t.ws.length ≤ 1000) := ⟨hf1, hc1, hw1⟩
  have HIT := hide infoTp
  have HAT : Hid (∀ w, (isAgg 29).run Tryd.prog w = .ok true w) := aggTp
  have HIB := hide infoBk
  have HAB : Hid (∀ w, (isAgg 59).run Tryd.prog w = .ok true w) := aggBk
  have HX := hide (Bt.start w #[.slice (some ⟨b, off, none⟩) l.length cap, .map (some B)] #[.string t.n, .int .i64 t.k, .int .i64 t.lo, .int .i64 t.hi, .string t.r.n, .bool t.r.z, .slice af t.fs.length cf, .slice ac t.cs.length cc, .slice aw t.ws.length cw])
  have hb0 := below_alloc4 w (.cells #[.slice (some ⟨b, off, none⟩) l.length cap, .map (some B)] 59)
  have HC0 := hide (HCL.out _ hb0)
  have q0 : (w.alloc (.cells #[.slice (some ⟨b, off, none⟩) l.length cap, .map (some B)] 59)).cell? ⟨w.heap.size, 0, none⟩ = some (.slice (some ⟨b, off, none⟩) l.length cap) := blk_cell (j := 0) (heap_alloc_new w _) rfl
  clear hform hcc hcell hff hfm hcf hcm hwm hbd hT hO hb0 ht hil HC HB hf1 hc1 hw1
  go_enter Tryd.func24, Tryd.ntmps24
  go_upto_region 2 with (refine wpList_aggAt rfl rfl HIT.out HAT.out b (off + i * 9) #[.string t.n, .int .i64 t.k, .int .i64 t.lo, .int .i64 t.hi, .string t.r.n, .bool t.r.z, .slice af t.fs.length cf, .slice ac t.cs.length cc, .slice aw t.ws.length cw] rfl rfl HC0.out ?_)
  (try simp only [Act.put]); (try simp only [List.setIfInBounds_toArray, List.set_cons_zero, List.set_cons_succ])
  generalize (w.alloc (.cells #[.slice (some ⟨b, off, none⟩) l.length cap, .map (some B)] 59)).alloc (.cells #[.string t.n, .int .i64 t.k, .int .i64 t.lo, .int .i64 t.hi, .string t.r.n, .bool t.r.z, .slice af t.fs.length cf, .slice ac t.cs.length cc, .slice aw t.ws.length cw] 29) = w1 at *
  clear q0 HC0 HCL
  have c0 : w1.cell? ⟨w.heap.size + 1, 0, none⟩ = some (.string t.n) := blk_cell (j := 0) HX.out.t rfl
  go_wp2_with fail
  refine (nameable_any t.n w1).mono ?_
  rintro e w2 ⟨rfl, hb⟩
  replace HX := hide (HX.out.next hb)
  clear hb c0
  rcases Bool.eq_false_or_eq_true (nbl t.n) with hnb | hnb
  rotate_left
  · as_aux_lemma =>
    rw [hnb]
    have HR : Hid (aln l i t = 111) := by
      show _ = _
      unfold aln
      rw [hnb]; rfl
    go_wp2_with fail
    go_ret
    exact ⟨by rw [HR.out]; rfl, HX.out.b⟩
  rw [hnb]
  have c0 : w2.cell? ⟨w.heap.size + 1, 0, none⟩ = some (.string t.n) := blk_cell (j := 0) HX.out.t rfl
  have HCB := hide HX.out.bc
  go_wp2_with (refine wpList_aggAt rfl rfl HIB.out HAB.out w.heap.size 0 #[.slice (some ⟨b, off, none⟩) l.length cap, .map (some B)] rfl rfl HCB.out ?_)
  refine (taken_any w2 (HO.out w2 HX.out.b) _ B l (HBI.out w2 HX.out.b) t.n HNZ.out i).mono ?_
  rintro e w3 ⟨rfl, hb⟩
  replace HX := hide (HX.out.next hb)
  clear hb c0 HCB
  rcases Bool.eq_false_or_eq_true ((ownK t.n).isSome || decide ((plc l t.n).getD 0 < i)) with htk | htk
  · as_aux_lemma =>
    rw [htk]
    have HR : Hid (aln l i t = 111) := by
      show _ = _
      unfold aln
      rw [hnb, Bool.not_true, Bool.false_or, htk]; rfl
    go_wp2_with fail
    go_ret
    exact ⟨by rw [HR.out]; rfl, HX.out.b⟩
  rw [htk]
  have HTC := hide HX.out.tc
  go_wp2_with (refine wpList_aggAt rfl rfl HIT.out HAT.out (w.heap.size + 1) 0 #[.string t.n, .int .i64 t.k, .int .i64 t.lo, .int .i64 t.hi, .string t.r.n, .bool t.r.z, .slice af t.fs.length cf, .slice ac t.cs.length cc, .slice aw t.ws.length cw] rfl rfl HTC.out ?_)
  refine (tidy_any w3 t _ (HCI.out w3 HX.out.b)).mono ?_
  rintro e w4 ⟨rfl, hb⟩
  replace HX := hide (HX.out.next hb)
  clear hb HTC
  rcases Bool.eq_false_or_eq_true (tdy t) with htd | htd
  rotate_left
  · as_aux_lemma =>
    rw [htd]
    have HR : Hid (aln l i t = 112) := by
      show _ = _
      unfold aln
      rw [hnb, Bool.not_true, Bool.false_or, htk, htd]; rfl
    go_wp2_with fail
    go_ret
    exact ⟨by rw [HR.out]; rfl, HX.out.b⟩
  rw [htd]
  have c1 : w4.cell? ⟨w.heap.size + 1, 1, none⟩ = some (.int .i64 t.k) := blk_cell (j := 1) HX.out.t rfl
  have c2 : w4.cell? ⟨w.heap.size + 1, 2, none⟩ = some (.int .i64 t.lo) := blk_cell (j := 2) HX.out.t rfl
  have c3 : w4.cell? ⟨w.heap.size + 1, 3, none⟩ = some (.int .i64 t.hi) := blk_cell (j := 3) HX.out.t rfl
  go_upto_region 6 with fail
  go_cut [27] from 28 to 43 (fun v wx => v = .bool (decide (t.lo > t.hi ∨ (t.lo < 0 ∧ t.k ≠ 2))) ∧ wx = w4)
  case first =>
    as_aux_lemma =>
    by_cases hlh : t.hi < t.lo
    · have HI : Hid (decide (t.lo > t.hi ∨ (t.lo < 0 ∧ t.k ≠ 2)) = true) := decide_eq_true (.inl hlh)
      go_wp2_with fail
      go_meet
      case rel => exact ⟨by rw [HI.out], rfl⟩
    by_cases hl0 : t.lo < 0
    · obtain ⟨kb, hkb⟩ : ∃ kb, kb = decide (t.k ≠ 2) := ⟨_, rfl⟩
      have gk : (t.k != 2) = kb := by rw [hkb, Bool.eq_iff_iff, bne_iff_ne, decide_eq_true_eq]
      have HI : Hid (decide (t.lo > t.hi ∨ (t.lo < 0 ∧ t.k ≠ 2)) = kb) := by
        show _ = _
        rw [hkb, Bool.eq_iff_iff, decide_eq_true_eq, decide_eq_true_eq]
        exact ⟨fun h => h.elim (fun h => absurd h hlh) (fun h => h.2), fun h => .inr ⟨hl0, h⟩⟩
      clear hkb
      go_wp2_with fail
      go_meet
      case rel => exact ⟨by rw [HI.out], rfl⟩
    · have HI : Hid (decide (t.lo > t.hi ∨ (t.lo < 0 ∧ t.k ≠ 2)) = false) := decide_eq_false (fun h => h.elim hlh (fun h => hl0 h.1))
      go_wp2_with fail
      go_meet
      case rel => exact ⟨by rw [HI.out], rfl⟩
  obtain ⟨rfl, hww⟩ := hcut
  have hww := hww.symm
  subst hww
  clear c1 c2 c3
  by_cases hrg : t.lo > t.hi ∨ (t.lo < 0 ∧ t.k ≠ 2)
  · as_aux_lemma =>
    rw [decide_eq_true hrg]
    have HR : Hid (aln l i t = 113) := by
      show _ = _
      unfold aln
      rw [hnb, Bool.not_true, Bool.false_or, htk, htd, if_neg (by decide), if_neg (by decide), if_pos hrg]
    go_wp2_with fail
    go_ret
    exact ⟨by rw [HR.out]; rfl, HX.out.b⟩
  rw [decide_eq_false hrg]
  go_upto_region 8 with fail
  refine heldStart (S := Bt w #[.slice (some ⟨b, off, none⟩) l.length cap, .map (some B)] #[.string t.n, .int .i64 t.k, .int .i64 t.lo, .int .i64 t.hi, .string t.r.n, .bool t.r.z, .slice af t.fs.length cf, .slice ac t.cs.length cc, .slice aw t.ws.length cw]) (by kernel_rfl) ?_
  have hb : Below w4.heap.size w4 w4.drew := by
    refine Below.drew ?_
    exact Below.refl _ _
  replace HX := hide (HX.out.next hb)
  have hS := HX.out
  clear hb
  generalize w4.drew = w5 at *
  refine heldTake 0 _ rfl (by kernel_rfl) (by kernel_rfl) (by kernel_rfl) (fun _ _ _ h => h) rfl hS (fun wy hy => exec_aggAt (g := w.heap.size + 1) (off := 0) HIT.out HAT.out rfl rfl rfl hy.tc) ?_
  (try simp only [Act.put]); (try simp only [List.setIfInBounds_toArray, List.set_cons_zero, List.set_cons_succ])
  refine heldTake 2 _ rfl (by kernel_rfl) (by kernel_rfl) (by kernel_rfl) (fun _ _ _ h => h) rfl hS (fun wy hy => exec_aggAt (g := w.heap.size) (off := 0) HIB.out HAB.out rfl rfl rfl hy.bc) ?_
  (try simp only [Act.put]); (try simp only [List.setIfInBounds_toArray, List.set_cons_zero, List.set_cons_succ])
  refine heldTake 3 _ rfl (by kernel_rfl) (by kernel_rfl) (by kernel_rfl) (fun _ _ _ h => h) rfl hS (fun wy hy => by first | (go_simp; done) | (go_simp; rfl) | rfl) ?_
  (try simp only [Act.put]); (try simp only [List.setIfInBounds_toArray, List.set_cons_zero, List.set_cons_succ])
  refine heldStep 1 rfl (by kernel_rfl) (fun K hK => ?_)
  go_simp
  refine (references_any w5 t _ (HCI.out w5 HX.out.b) HF1.out.1 HF1.out.2.1).mono ?_
  rintro e w6 ⟨v, rfl, hP⟩
  have HRS := hide hP.out.1
  replace HX := hide (HX.out.next hP.out.2)
  refine (Hid.out hK) _ _ (HX.out) (fun hS2 => ?_)
  clear hK K hS
  have hS := hS2
  clear hS2
  (try simp only [Act.put]); (try simp only [List.setIfInBounds_toArray, List.set_cons_zero, List.set_cons_succ])
  clear hP
  refine heldStep 4 rfl (by kernel_rfl) (fun K hK => ?_)
  go_simp
  refine (containsLost_any w6 v (rfs t) HRS.out (.slice (some ⟨b, off, none⟩) l.length cap) B (fun j => !(fnd l ((rfs t).getD j zrf).n).2) (fun _ wx => Below w6.heap.size w6 wx) (Below.refl _ _) (fun j wx hI => RSl.mv HRS.out (keep_below hI)) (fun j x wx hx hI => by
    have hbw : Below w.heap.size w wx := HX.out.b.trans (hI.mono HX.out.b.size)
    refine (lost_any wx (HO.out wx hbw) _ B l (HBI.out wx hbw) x (HRZ.out x (List.mem_of_getElem? hx))).mono ?_
    rintro e w' ⟨rfl, hb⟩
    exact ⟨by simp only [List.getD, hx]; rfl, hI.trans (hb.mono hI.size)⟩)).mono ?_
  rintro e w7 ⟨rfl, hI⟩
  have HX7 : Hid (Bt w #[.slice (some ⟨b, off, none⟩) l.length cap, .map (some B)] #[.string t.n, .int .i64 t.k, .int .i64 t.lo, .int .i64 t.hi, .string t.r.n, .bool t.r.z, .slice af t.fs.length cf, .slice ac t.cs.length cc, .slice aw t.ws.length cw] w7) := by
    obtain ⟨_, hI⟩ := hI.out
    exact HX.out.next hI
  replace HX := HX7
  have HAR : Hid ((rfs t).any (fun r => !(fnd l r.n).2) = (List.range (rfs t).length).any fun j => !(fnd l ((rfs t).getD j zrf).n).2) := any_map_range (rfs t) zrf (fun r => !(fnd l r.n).2)
  generalize (List.range (rfs t).length).any (fun j => !(fnd l ((rfs t).getD j zrf).n).2) = ab at *
  refine (Hid.out hK) _ _ (HX.out) (fun hS2 => ?_)
  clear hK K hS
  have hS := hS2
  clear hS2
  (try simp only [Act.put]); (try simp only [List.setIfInBounds_toArray, List.set_cons_zero, List.set_cons_succ])
  clear hI HX7 HRS
  refine heldTake 5 _ rfl (by kernel_rfl) (by kernel_rfl) (by kernel_rfl) (fun _ _ _ h => h) rfl hS (fun wy hy => by first | (go_simp; done) | (go_simp; rfl) | rfl) ?_
  (try simp only [Act.put]); (try simp only [List.setIfInBounds_toArray, List.set_cons_zero, List.set_cons_succ])
  refine heldDone (by kernel_rfl) ?_
  clear hS
  rcases Bool.eq_false_or_eq_true ab with hab | hab
  · as_aux_lemma =>
    rw [hab]
    rw [hab] at HAR
    have HR : Hid (aln l i t = 114) := by
      show _ = _
      unfold aln
      rw [hnb, Bool.not_true, Bool.false_or, htk, htd, if_neg (by decide), if_neg (by decide), if_neg hrg, if_pos HAR.out]
    go_wp2_with fail
    go_ret
    exact ⟨by rw [HR.out]; rfl, HX.out.b⟩
  rw [hab]
  rw [hab] at HAR
  have HTC := hide HX.out.tc
  go_wp2_with (refine wpList_aggAt rfl rfl HIT.out HAT.out (w.heap.size + 1) 0 #[.string t.n, .int .i64 t.k, .int .i64 t.lo, .int .i64 t.hi, .string t.r.n, .bool t.r.z, .slice af t.fs.length cf, .slice ac t.cs.length cc, .slice aw t.ws.length cw] rfl rfl HTC.out ?_)
  refine (fieldsFit_any w7 (HT.out w7 HX.out.b) t _ (HCI.out w7 HX.out.b)).mono ?_
  rintro e w8 ⟨rfl, hb⟩
  replace HX := hide (HX.out.next hb)
  clear hb HTC
  rcases Bool.eq_false_or_eq_true (fft t) with hff | hff
  rotate_left
  · as_aux_lemma =>
    rw [hff]
    have HR : Hid (aln l i t = 115) := by
      show _ = _
      unfold aln
      rw [hnb, Bool.not_true, Bool.false_or, htk, htd, if_neg (by decide), if_neg (by decide), if_neg hrg, HAR.out, if_neg (by decide), hff]; rfl
    go_wp2_with fail
    go_ret
    exact ⟨by rw [HR.out]; rfl, HX.out.b⟩
  rw [hff]
  have HTC := hide HX.out.tc
  go_wp2_with (refine wpList_aggAt rfl rfl HIT.out HAT.out (w.heap.size + 1) 0 #[.string t.n, .int .i64 t.k, .int .i64 t.lo, .int .i64 t.hi, .string t.r.n, .bool t.r.z, .slice af t.fs.length cf, .slice ac t.cs.length cc, .slice aw t.ws.length cw] rfl rfl HTC.out ?_)
  refine (casesFit_any w8 (HT.out w8 HX.out.b) t _ (HCI.out w8 HX.out.b) HF1.out.2.1 HF1.out.2.2).mono ?_
  rintro e w9 ⟨rfl, hb⟩
  replace HX := hide (HX.out.next hb)
  clear hb HTC
  rcases Bool.eq_false_or_eq_true (cft t) with hcf | hcf
  rotate_left
  · as_aux_lemma =>
    rw [hcf]
    have HR : Hid (aln l i t = 116) := by
      show _ = _
      unfold aln
      rw [hnb, Bool.not_true, Bool.false_or, htk, htd, if_neg (by decide), if_neg (by decide), if_neg hrg, HAR.out, if_neg (by decide), hff, hcf]; rfl
    go_wp2_with fail
    go_ret
    exact ⟨by rw [HR.out]; rfl, HX.out.b⟩
  · as_aux_lemma =>
    rw [hcf]
    have HR : Hid (aln l i t = 0) := by
      show _ = _
      unfold aln
      rw [hnb, Bool.not_true, Bool.false_or, htk, htd, if_neg (by decide), if_neg (by decide), if_neg hrg, HAR.out, if_neg (by decide), hff, hcf]; rfl
    go_wp2_with fail
    go_ret
    exact ⟨by rw [HR.out]; rfl, HX.out.b⟩
end
section
open Go.RowKit Go
theorem eqend (w : World) (s : ByteArray) (z : Bool) : (Op.equalIn 10000 97 (.agg #[.string s, .bool z]) (.agg #[.string ⟨#[]⟩, .bool false])).run Tryd.prog w = .ok (decide (s = ⟨#[]⟩ ∧ z = false)) w := by
  have u3 := Tryd.underlying9
  have u27 := Tryd.underlying4
  have a3 := Tryd.isAgg9
  have a27 := Tryd.isAgg4
  have z3 := Tryd.sizeOf9
  have z27 := Tryd.sizeOf4
  have hS : Tryd.prog.underlying 97 = some (.struct (Tryd.prog.fieldsOf 97)) := by kernel_rfl
  have hp : Tryd.prog.stoodInHeld 97 = false := by kernel_rfl
  rw [show (10000 : Nat) = 9999 + 1 from rfl, run_equalIn_agg w 9999 97 _ _ hS hp]
  simp only [Program.fieldsOf, Tryd.underlying97]
  by_cases h1 : s = ⟨#[]⟩
  · subst h1
    cases z <;> (go_simp; try simp)
  · have g : (s.toList == []) = false := by have := str_no h1; rw [emp_list] at this; exact this
    cases z <;> (go_simp; try simp [h1])
theorem eqgE : Tryd.prog.eqGuardType Tryd.prog.depth 97 = false := by kernel_rfl
theorem exec_eqend {o : Oper} {a : Act} {x y : Operand} {T2 : TypeId} {s : ByteArray} {z : Bool} {w : World} (ho : o.op = .binOp .eql 97 x y T2) (hx : a.eval x = .agg #[.string s, .bool z]) (hy : a.eval y = .agg #[.string ⟨#[]⟩, .bool false]) : (execOp a.eval o).run Tryd.prog w = .ok (.value (.bool (decide (s = ⟨#[]⟩ ∧ z = false)))) w := by
  unfold execOp
  simp only [ho, Sem.run_bind, hx, hy, run_eqGuard_agg w _ 97 x y _ _ eqgE, run_eql_struct, eqend, Result.andThen_ok]
  rfl
/-- A book's own copy. -/
structure Bo (w : World) (bk : Array Value) (wx : World) : Prop where
  a : wx.heap[w.heap.size]? = some (.cells bk 59 (0, 0))
  b : Below w.heap.size w wx
theorem Bo.next {w wx wy : World} {bk : Array Value} (h : Bo w bk wx) (hb : Below wx.heap.size wx wy) : Bo w bk wy := ⟨(hb.block _ (blk_lt h.a)).trans h.a, h.b.trans (hb.mono h.b.size)⟩
theorem Bo.bc {w wx : World} {bk : Array Value} (h : Bo w bk wx) : ∀ j u, bk[j]? = some u → wx.cell? ⟨w.heap.size, 0 + j, none⟩ = some u := fun j u hu => by rw [Nat.zero_add]; exact blk_cell h.a hu
set_option maxRecDepth 1000000 in
set_option maxHeartbeats 1000000 in
theorem ring_any (w : World) (hO : Otb w) (vt : Value) (B : Nat) (l : List Tp) (hB : Bok w vt B l) (hl : ∀ t ∈ l, t.r.n.size ≤ 140737488351232) (i : Nat) (t : Tp) (ht : l[i]? = some t) : Calls Tryd.prog 25 #[.agg #[vt, .map (some B)], .int .i64 (i : Nat)] w fun e w' => e = .returned (.int .i64 (rng l t : Nat)) ∧ Below w.heap.size w w' := by
  have HO : Hid (∀ wy, Below w.heap.size w wy → Otb wy) := fun wy hb => hO.next (keep_below hb)
  have HB := hide hB
  have HL := hide hl
  have hmax := hB.t.max
  have hil : i < l.length := (List.getElem?_eq_some_iff.1 ht).1
  obtain ⟨⟨⟨a, cap, rfl, _, hform⟩, _⟩, _⟩ := hB
  have g1 : (i : Int) < (l.length : Int) := by omega
  obtain ⟨b, off, rfl, hcc⟩ := hform.resolve_left (fun h => by rw [h] at hil; simp at hil)
  obtain ⟨c, hc, hcell⟩ := hcc i t ht
  have HNZ := hide hc.b.n
  have HCN : Hid (∀ wx, Below w.heap.size w wx → wx.cell? ⟨b, off + i * 9, none⟩ = some (.string t.n)) := fun wx hx => by
    have h := keep_below hx _ _ (hcell 0 (.string t.n) (by obtain ⟨⟨_, _, _, rfl, _⟩, _⟩ := hc; rfl))
    exact h
  have HX : Hid (Bo w #[.slice (some ⟨b, off, none⟩) l.length cap, .map (some B)] (w.alloc (.cells #[.slice (some ⟨b, off, none⟩) l.length cap, .map (some B)] 59))) := ⟨heap_alloc_new w _, below_alloc4 w _⟩
  have HIB := hide infoBk
  have HAB : Hid (∀ w, (isAgg 59).run Tryd.prog w = .ok true w) := aggBk
  have HBI : Hid (∀ wx, Below w.heap.size w wx → Bok wx (.slice (some ⟨b, off, none⟩) l.length cap) B l) := fun wx hx => HB.out.next hx
  clear hform hcc hcell hc hO ht hil HB hl
  go_enter Tryd.func25, Tryd.ntmps25
  go_upto_region 1 with fail
  generalize w.alloc (.cells #[.slice (some ⟨b, off, none⟩) l.length cap, .map (some B)] 59) = w1 at *
  refine heldStart (S := Bo w #[.slice (some ⟨b, off, none⟩) l.length cap, .map (some B)]) (by kernel_rfl) ?_
  have hb : Below w1.heap.size w1 w1.drew := by
    refine Below.drew ?_
    exact Below.refl _ _
  replace HX := hide (HX.out.next hb)
  have hS := HX.out
  clear hb
  generalize w1.drew = w5 at *
  refine heldTake 0 _ rfl (by kernel_rfl) (by kernel_rfl) (by kernel_rfl) (fun _ _ _ h => h) rfl hS (fun wy hy => exec_aggAt (g := w.heap.size) (off := 0) HIB.out HAB.out rfl rfl rfl hy.bc) ?_
  (try simp only [Act.put]); (try simp only [List.setIfInBounds_toArray, List.set_cons_zero, List.set_cons_succ])
  refine heldTake 1 _ rfl (by kernel_rfl) (by kernel_rfl) (by kernel_rfl) (fun _ _ _ h => h) rfl hS (fun wy hy => by first | (go_simp; done) | (go_simp; rfl) | rfl) ?_
  (try simp only [Act.put]); (try simp only [List.setIfInBounds_toArray, List.set_cons_zero, List.set_cons_succ])
  refine heldTake 2 _ rfl (by kernel_rfl) (by kernel_rfl) (by kernel_rfl) (fun _ _ _ h => h) rfl hS (fun wy hy => by have h0 : wy.cell? ⟨w.heap.size, 0, none⟩ = some (.slice (some ⟨b, off, none⟩) l.length cap) := blk_cell (j := 0) hy.a rfl; first | (go_simp; done) | (go_simp; rfl)) ?_
  (try simp only [Act.put]); (try simp only [List.setIfInBounds_toArray, List.set_cons_zero, List.set_cons_succ])
  refine heldTake 3 _ rfl (by kernel_rfl) (by kernel_rfl) (by kernel_rfl) (fun _ _ _ h => h) rfl hS (fun wy hy => by first | (go_simp; done) | (go_simp; rfl) | rfl) ?_
  (try simp only [Act.put]); (try simp only [List.setIfInBounds_toArray, List.set_cons_zero, List.set_cons_succ])
  refine heldTake 4 _ rfl (by kernel_rfl) (by kernel_rfl) (by kernel_rfl) (fun _ _ _ h => h) rfl hS (fun wy hy => by first | (go_simp; done) | (go_simp; rfl)) ?_
  (try simp only [Act.put]); (try simp only [List.setIfInBounds_toArray, List.set_cons_zero, List.set_cons_succ])
  refine heldTake 5 _ rfl (by kernel_rfl) (by kernel_rfl) (by kernel_rfl) (fun _ _ _ h => h) rfl hS (fun wy hy => by first | (go_simp; done) | (go_simp; rfl)) ?_
  (try simp only [Act.put]); (try simp only [List.setIfInBounds_toArray, List.set_cons_zero, List.set_cons_succ])
  refine heldTake 6 _ rfl (by kernel_rfl) (by kernel_rfl) (by kernel_rfl) (fun _ _ _ h => h) rfl hS (fun wy hy => by have h0 := HCN.out wy hy.b; first | (go_simp; done) | (go_simp; rfl)) ?_
  (try simp only [Act.put]); (try simp only [List.setIfInBounds_toArray, List.set_cons_zero, List.set_cons_succ])
  refine heldTake 8 _ rfl (by kernel_rfl) (by kernel_rfl) (by kernel_rfl) (fun _ _ _ h => h) rfl hS (fun wy hy => by first | (go_simp; done) | (go_simp; rfl) | rfl) ?_
  (try simp only [Act.put]); (try simp only [List.setIfInBounds_toArray, List.set_cons_zero, List.set_cons_succ])
  refine heldStep 7 rfl (by kernel_rfl) (fun K hK => ?_)
  go_simp
  refine (follow_any w5 (HO.out w5 HX.out.b) _ B l (HBI.out w5 HX.out.b) HL.out t.n HNZ.out).mono ?_
  rintro e w6 ⟨rfl, hb⟩
  replace HX := hide (HX.out.next hb)
  refine (Hid.out hK) _ _ (HX.out) (fun hS2 => ?_)
  clear hK K hS
  have hS := hS2
  clear hS2
  (try simp only [Act.put]); (try simp only [List.setIfInBounds_toArray, List.set_cons_zero, List.set_cons_succ])
  clear hb
  refine heldTake 9 _ rfl (by kernel_rfl) (by kernel_rfl) (by kernel_rfl) (fun _ _ _ h => h) rfl hS (fun wy hy => exec_eqend rfl rfl rfl) ?_
  (try simp only [Act.put]); (try simp only [List.setIfInBounds_toArray, List.set_cons_zero, List.set_cons_succ])
  refine heldDone (by kernel_rfl) ?_
  clear hS
  by_cases hr : (flo l t.n).1 = ⟨#[]⟩ ∧ (flo l t.n).2 = false
  · as_aux_lemma =>
    have HR : Hid (rng l t = 117) := by
      show _ = _
      unfold rng
      rw [if_pos (Prod.ext hr.1 hr.2)]
    rw [decide_eq_true hr]
    go_wp2_with fail
    go_ret
    exact ⟨by rw [HR.out]; rfl, HX.out.b⟩
  · as_aux_lemma =>
    have HR : Hid (rng l t = 0) := by
      show _ = _
      unfold rng
      rw [if_neg (fun h => hr ⟨by rw [h], by rw [h]⟩)]
    rw [decide_eq_false hr]
    go_wp2_with fail
    go_ret
    exact ⟨by rw [HR.out]; rfl, HX.out.b⟩
end
section
open Go.RowKit Go
theorem flw_sz {l : List Tp} (hl : ∀ t ∈ l, t.r.n.size ≤ 140737488351232) : ∀ (n : Nat) (s : ByteArray) (z : Bool), s.size ≤ 140737488351232 → (flw l n s z).1.size ≤ 140737488351232
  | 0, s, z, _ => by show (ByteArray.mk #[]).size ≤ _; decide
  | n + 1, s, z, h => by
    unfold flw
    split
    · exact h
    · exact flw_sz hl n _ _ (flw_size hl s)
theorem ownK_le {s : ByteArray} {k : Nat} (h : ownK s = some k) : k ≤ 9 := by
  unfold ownK at h
  cases hf : owns.find? fun p => decide (p.1 = s) with
  | none => rw [hf] at h; cases h
  | some p =>
    rw [hf] at h
    have hm := List.mem_of_find?_eq_some hf
    rw [← Option.some.inj h]
    simp only [owns, List.mem_cons, List.not_mem_nil, or_false] at hm
    rcases hm with rfl | rfl | rfl | rfl | rfl | rfl | rfl | rfl | rfl <;> decide
theorem knd_le (t : Tp) : knd t ≤ 9 := by
  unfold knd
  repeat' split
  all_goals try omega
  cases h : ownK t.n with
  | none => exact Nat.zero_le _
  | some k => exact ownK_le h
/-- The kinds that were met, as Go keeps them. -/
def sbc (seen : List Nat) : Array Value := #[.bool (seen.contains 0), .bool (seen.contains 1), .bool (seen.contains 2), .bool (seen.contains 3), .bool (seen.contains 4), .bool (seen.contains 5), .bool (seen.contains 6), .bool (seen.contains 7), .bool (seen.contains 8), .bool (seen.contains 9)]
theorem sbc_at (seen : List Nat) {k : Nat} (h : k ≤ 9) : (sbc seen)[k]? = some (.bool (seen.contains k)) := by
  rcases (show k = 0 ∨ k = 1 ∨ k = 2 ∨ k = 3 ∨ k = 4 ∨ k = 5 ∨ k = 6 ∨ k = 7 ∨ k = 8 ∨ k = 9 by omega) with h | h | h | h | h | h | h | h | h | h <;> subst h <;> rfl
theorem con_eq (seen : List Nat) (k : Nat) : (k :: seen).contains k = true := by simp
theorem con_ne (seen : List Nat) {k j : Nat} (h : j ≠ k) : (k :: seen).contains j = seen.contains j := by simp [h]
theorem sbc_set (seen : List Nat) {k : Nat} (h : k ≤ 9) : (sbc seen).setIfInBounds k (.bool true) = sbc (k :: seen) := by
  rcases (show k = 0 ∨ k = 1 ∨ k = 2 ∨ k = 3 ∨ k = 4 ∨ k = 5 ∨ k = 6 ∨ k = 7 ∨ k = 8 ∨ k = 9 by omega) with h | h | h | h | h | h | h | h | h | h <;> subst h <;> unfold sbc <;> rw [con_eq] <;> simp only [List.setIfInBounds_toArray, List.set_cons_zero, List.set_cons_succ] <;> (repeat rw [con_ne _ (by decide)])
/-- What kindsApart has in hand. -/
structure Kap (w : World) (bk tc : Array Value) (seen : List Nat) (wx : World) : Prop where
  a : wx.heap[w.heap.size]? = some (.cells bk 59 (0, 0))
  t : wx.heap[w.heap.size + 1]? = some (.cells tc 29 (0, 0))
  s : wx.heap[w.heap.size + 2]? = some (.cells (sbc seen) 115 (0, 0))
  b : Below w.heap.size w wx
theorem Kap.next {w wx wy : World} {bk tc : Array Value} {seen : List Nat} (h : Kap w bk tc seen wx) (hb : Below wx.heap.size wx wy) : Kap w bk tc seen wy := ⟨(hb.block _ (blk_lt h.a)).trans h.a, (hb.block _ (blk_lt h.t)).trans h.t, (hb.block _ (blk_lt h.s)).trans h.s, h.b.trans (hb.mono h.b.size)⟩
theorem Kap.set {w wx : World} {bk tc : Array Value} {seen : List Nat} (h : Kap w bk tc seen wx) {k : Nat} (hk : k ≤ 9) : Kap w bk tc (k :: seen) (wx.setCell ⟨w.heap.size + 2, k, none⟩ (.bool true)) := by
  refine ⟨blk_other k _ h.a (by omega), blk_other k _ h.t (by omega), ?_, ?_⟩
  · rw [← sbc_set seen hk]
    exact blk_set k _ h.s
  · exact h.b.trans (((Kp.refl (fun q => q = w.heap.size + 2) wx).setCell _ _ (fun _ => rfl)).below h.b.size (fun q e => by omega))
theorem Kap.bc {w wx : World} {bk tc : Array Value} {seen : List Nat} (h : Kap w bk tc seen wx) : ∀ j u, bk[j]? = some u → wx.cell? ⟨w.heap.size, 0 + j, none⟩ = some u := fun j u hu => by rw [Nat.zero_add]; exact blk_cell h.a hu
set_option maxRecDepth 1000000 in
set_option maxHeartbeats 1000000 in
theorem kindsApart_any (w : World) (hO : Otb w) (vt : Value) (B : Nat) (l : List Tp) (hB : Bok w vt B l) (hl : ∀ t ∈ l, t.r.n.size ≤ 140737488351232) (t : Tp) (c : Array Value) (hc : Tpi w t c) : Calls Tryd.prog 47 #[.agg #[vt, .map (some B)], .agg c] w fun e w' => e = .returned (.bool (kap l [] t.cs)) ∧ Below w.heap.size w w' := by
  have HO : Hid (∀ wy, Below w.heap.size w wy → Otb wy) := fun wy hb => hO.next (keep_below hb)
  have HL := hide hl
  have HBI : Hid (∀ wx, Below w.heap.size w wx → Bok wx vt B l) := fun wx hx => hB.next hx
  obtain ⟨⟨⟨a, cap, rfl, _, _⟩, _⟩, _⟩ := hB
  obtain ⟨⟨vf, vc, vw, rfl, ⟨⟨af, cf, rfl, -, hff⟩, hfm⟩, ⟨⟨ac, cc, rfl, -, hcf⟩, hcm⟩, ⟨⟨aw, cw, rfl, -, -⟩, hwm, -⟩⟩, hbd⟩ := hc
  have HC := hide hcf
  unfold tpc
  clear hff hfm hcf hwm hbd hO hl
  have HIB := hide infoBk
  have HAB : Hid (∀ w, (isAgg 59).run Tryd.prog w = .ok true w) := aggBk
  have HIC := hide infoCz
  have HAC : Hid (∀ w, (isAgg 48).run Tryd.prog w = .ok true w) := aggCz
  have HIT := hide infoTp
  have HAT : Hid (∀ w, (isAgg 29).run Tryd.prog w = .ok true w) := aggTp
  go_enter Tryd.func47, Tryd.ntmps47
  go_upto_region 2 with fail
  have HX : Hid (Kap w #[.slice a l.length cap, .map (some B)] #[.string t.n, .int .i64 t.k, .int .i64 t.lo, .int .i64 t.hi, .string t.r.n, .bool t.r.z, .slice af t.fs.length cf, .slice ac t.cs.length cc, .slice aw t.ws.length cw] [] (((w.alloc (.cells #[.slice a l.length cap, .map (some B)] 59)).alloc (.cells #[.string t.n, .int .i64 t.k, .int .i64 t.lo, .int .i64 t.hi, .string t.r.n, .bool t.r.z, .slice af t.fs.length cf, .slice ac t.cs.length cc, .slice aw t.ws.length cw] 29)).alloc (.cells #[.bool false, .bool false, .bool false, .bool false, .bool false, .bool false, .bool false, .bool false, .bool false, .bool false] 115))) := by
    have h := Bt.start w #[.slice a l.length cap, .map (some B)] #[.string t.n, .int .i64 t.k, .int .i64 t.lo, .int .i64 t.hi, .string t.r.n, .bool t.r.z, .slice af t.fs.length cf, .slice ac t.cs.length cc, .slice aw t.ws.length cw]
    have e2 : ((w.alloc (.cells #[.slice a l.length cap, .map (some B)] 59)).alloc (.cells #[.string t.n, .int .i64 t.k, .int .i64 t.lo, .int .i64 t.hi, .string t.r.n, .bool t.r.z, .slice af t.fs.length cf, .slice ac t.cs.length cc, .slice aw t.ws.length cw] 29)).heap.size = w.heap.size + 2 := by simp
    have h3 := heap_alloc_new ((w.alloc (.cells #[.slice a l.length cap, .map (some B)] 59)).alloc (.cells #[.string t.n, .int .i64 t.k, .int .i64 t.lo, .int .i64 t.hi, .string t.r.n, .bool t.r.z, .slice af t.fs.length cf, .slice ac t.cs.length cc, .slice aw t.ws.length cw] 29)) (.cells #[.bool false, .bool false, .bool false, .bool false, .bool false, .bool false, .bool false, .bool false, .bool false, .bool false] 115)
    rw [e2] at h3
    have hb3 := below_alloc4 ((w.alloc (.cells #[.slice a l.length cap, .map (some B)] 59)).alloc (.cells #[.string t.n, .int .i64 t.k, .int .i64 t.lo, .int .i64 t.hi, .string t.r.n, .bool t.r.z, .slice af t.fs.length cf, .slice ac t.cs.length cc, .slice aw t.ws.length cw] 29)) (.cells #[.bool false, .bool false, .bool false, .bool false, .bool false, .bool false, .bool false, .bool false, .bool false, .bool false] 115)
    have h4 := h.next hb3
    exact ⟨h4.a, h4.t, h3, h4.b⟩
  generalize ((w.alloc (.cells #[.slice a l.length cap, .map (some B)] 59)).alloc (.cells #[.string t.n, .int .i64 t.k, .int .i64 t.lo, .int .i64 t.hi, .string t.r.n, .bool t.r.z, .slice af t.fs.length cf, .slice ac t.cs.length cc, .slice aw t.ws.length cw] 29)).alloc (.cells #[.bool false, .bool false, .bool false, .bool false, .bool false, .bool false, .bool false, .bool false, .bool false, .bool false] 115) = w0 at *
  have HT7 : Hid ((#[.string t.n, .int .i64 t.k, .int .i64 t.lo, .int .i64 t.hi, .string t.r.n, .bool t.r.z, .slice af t.fs.length cf, .slice ac t.cs.length cc, .slice aw t.ws.length cw] : Array Value)[7]? = some (.slice ac t.cs.length cc)) := rfl
  obtain ⟨tc, htc⟩ : ∃ tc : Array Value, tc = #[.string t.n, .int .i64 t.k, .int .i64 t.lo, .int .i64 t.hi, .string t.r.n, .bool t.r.z, .slice af t.fs.length cf, .slice ac t.cs.length cc, .slice aw t.ws.length cw] := ⟨_, rfl⟩
  rw [← htc] at HX HT7
  clear htc
  have q7 : w0.cell? ⟨w.heap.size + 1, 7, none⟩ = some (.slice ac t.cs.length cc) := blk_cell (j := 7) HX.out.t HT7.out
  go_wp2_with fail
  clear q7
  go_loopw [15] (fun vi wx => ∃ (i : Nat) (seen : List Nat), i ≤ t.cs.length ∧ vi = .int .i64 (i : Nat) ∧ Hid (kap l seen (t.cs.drop i) = kap l [] t.cs) ∧ Hid (Kap w #[.slice a l.length cap, .map (some B)] tc seen wx)) (fun vi _ => t.cs.length - (intOf vi).toNat)
  case atStart => exact ⟨0, [], by omega, rfl, rfl, HX⟩
  case round =>
    obtain ⟨i, seen, hi, rfl, HE, HXi⟩ := hrel
    clear HX
    by_cases hlt : i < t.cs.length
    · as_aux_lemma =>
      have g1 : (i : Int) < (t.cs.length : Int) := by omega
      obtain ⟨x, hx⟩ : ∃ x, t.cs[i]? = some x := ⟨t.cs[i], List.getElem?_eq_getElem hlt⟩
      obtain ⟨b, off, rfl, hcc⟩ := HC.out.resolve_left (fun h => by rw [h] at hlt; simp at hlt)
      obtain ⟨c, ⟨rfl, _, hz2⟩, hcell⟩ := hcc i x hx
      unfold czc at hcell
      have HCL : Hid (∀ j u, (#[.string x.k, .string x.n] : Array Value)[j]? = some u → wr.cell? ⟨b, off + i * 2 + j, none⟩ = some u) := fun j u hj => keep_below HXi.out.b _ _ (hcell j u hj)
      have HZ2 := hide hz2
      have HD : Hid (t.cs.drop i = x :: t.cs.drop (i + 1)) := by
        show _ = _
        rw [List.drop_eq_getElem_cons hlt]
        rw [List.getElem?_eq_getElem hlt] at hx
        injection hx with hx
        rw [hx]
      rw [HD.out] at HE
      have HEE : Hid (kap l [] t.cs = if (flo l x.n).2 || decide (knd (fnd l (flo l x.n).1).1 = 0) || seen.contains (knd (fnd l (flo l x.n).1).1) then false else kap l (knd (fnd l (flo l x.n).1).1 :: seen) (t.cs.drop (i + 1))) := by
        show _ = _
        rw [← HE.out]
        rfl
      have HFZ : Hid ((flo l x.n).1.size ≤ 140737488351232) := flw_sz HL.out _ _ _ hz2
      have HKL : Hid (knd (fnd l (flo l x.n).1).1 ≤ 9) := knd_le _
      have HX1 := hide (HXi.out.next (below_alloc4 wr (.cells #[.string x.k, .string x.n] 48)))
      have HCB := hide HX1.out.bc
      clear hcc hcell hx hz2 HXi HC HD HE
      go_wp2_with (first
        | (refine wpList_aggAt rfl rfl HIC.out HAC.out b (off + i * 2) #[.string x.k, .string x.n] rfl rfl HCL.out ?_)
        | (refine wpList_aggAt rfl rfl HIB.out HAB.out w.heap.size 0 #[.slice a l.length cap, .map (some B)] rfl rfl HCB.out ?_))
      generalize wr.alloc (.cells #[.string x.k, .string x.n] 48) = w1 at *
      refine (follow_any w1 (HO.out w1 HX1.out.b) _ B l (HBI.out w1 HX1.out.b) HL.out x.n HZ2.out).mono ?_
      rintro e w2 ⟨rfl, hb⟩
      generalize (flo l x.n).1 = s1 at *
      generalize (flo l x.n).2 = z1 at *
      have HX2 := hide ((HX1.out.next hb).next (below_alloc4 w2 (.cells #[.string s1, .bool z1] 97)))
      have HE2 := hide (heap_alloc_new w2 (.cells #[.string s1, .bool z1] 97))
      have HCB2 := hide HX2.out.bc
      clear hb HX1 HCB HCL
      go_wp2_with (refine wpList_aggAt rfl rfl HIB.out HAB.out w.heap.size 0 #[.slice a l.length cap, .map (some B)] rfl rfl HCB2.out ?_)
      generalize w2.alloc (.cells #[.string s1, .bool z1] 97) = w3 at *
      generalize w2.heap.size = G at *
      refine (find_any w3 (HO.out w3 HX2.out.b) _ B l (HBI.out w3 HX2.out.b) s1 HFZ.out).mono ?_
      rintro e w4 ⟨c, rfl, hc, hb⟩
      generalize (fnd l s1).2 = fb at *
      generalize (fnd l s1).1 = u at *
      have HU := hide hc
      obtain ⟨⟨vf, vc, vw, rfl, ⟨⟨uf, ug, rfl, -, -⟩, -⟩, ⟨⟨uc, ud, rfl, -, -⟩, -⟩, ⟨⟨ux, uy, rfl, -, -⟩, -, -⟩⟩, -⟩ := hc
      unfold tpc at HU
      unfold tpc
      have hb5 := below_alloc4 w4 (.cells #[.string u.n, .int .i64 u.k, .int .i64 u.lo, .int .i64 u.hi, .string u.r.n, .bool u.r.z, .slice uf u.fs.length ug, .slice uc u.cs.length ud, .slice ux u.ws.length uy] 29)
      have HX5 := hide ((HX2.out.next hb).next hb5)
      have he4 := (hb.block _ (blk_lt HE2.out)).trans HE2.out
      have HE5 := hide ((hb5.block _ (blk_lt he4)).trans he4)
      have HU5 := hide (HU.out.move (keep_below hb5))
      have HUC : Hid (∀ j v, (#[.string u.n, .int .i64 u.k, .int .i64 u.lo, .int .i64 u.hi, .string u.r.n, .bool u.r.z, .slice uf u.fs.length ug, .slice uc u.cs.length ud, .slice ux u.ws.length uy] : Array Value)[j]? = some v → (w4.alloc (.cells #[.string u.n, .int .i64 u.k, .int .i64 u.lo, .int .i64 u.hi, .string u.r.n, .bool u.r.z, .slice uf u.fs.length ug, .slice uc u.cs.length ud, .slice ux u.ws.length uy] 29)).cell? ⟨w4.heap.size, 0 + j, none⟩ = some v) := fun j v hv => by rw [Nat.zero_add]; exact blk_cell (heap_alloc_new w4 _) hv
      clear hb hb5 he4 HX2 HE2 HCB2 HU HFZ
      go_wp2_with (refine wpList_aggAt rfl rfl HIT.out HAT.out w4.heap.size 0 #[.string u.n, .int .i64 u.k, .int .i64 u.lo, .int .i64 u.hi, .string u.r.n, .bool u.r.z, .slice uf u.fs.length ug, .slice uc u.cs.length ud, .slice ux u.ws.length uy] rfl rfl HUC.out ?_)
      generalize w4.alloc (.cells #[.string u.n, .int .i64 u.k, .int .i64 u.lo, .int .i64 u.hi, .string u.r.n, .bool u.r.z, .slice uf u.fs.length ug, .slice uc u.cs.length ud, .slice ux u.ws.length uy] 29) = w5 at *
      refine (kind_any w5 (HO.out w5 HX5.out.b) u _ HU5.out).mono ?_
      rintro e w6 ⟨rfl, hb⟩
      generalize knd u = K at *
      have HX6 := hide (HX5.out.next hb)
      have he6 := (hb.block _ (blk_lt HE5.out)).trans HE5.out
      have c1 : w6.cell? ⟨G, 1, none⟩ = some (.bool z1) := blk_cell (j := 1) he6 rfl
      have cS : w6.cell? ⟨w.heap.size + 2, K, none⟩ = some (.bool (seen.contains K)) := blk_cell HX6.out.s (sbc_at seen HKL.out)
      have gK : (K : Int) < 10 := by have := HKL.out; omega
      clear hb HX5 HE5 HU5 HUC he6
      cases z1 with
      | true =>
        have HR : Hid (kap l [] t.cs = false) := by show _ = _; rw [HEE.out]; rfl
        clear HEE
        go_wp2_with fail
        go_ret
        exact ⟨by rw [HR.out]; rfl, HX6.out.b⟩
      | false =>
        by_cases hK0 : K = 0
        · have g0 : ((K : Int) == 0) = true := beq_iff_eq.2 (by omega)
          have HR : Hid (kap l [] t.cs = false) := by show _ = _; rw [HEE.out, decide_eq_true hK0]; rfl
          clear HEE hK0
          go_wp2_with fail
          go_ret
          exact ⟨by rw [HR.out]; rfl, HX6.out.b⟩
        · have g0 : ((K : Int) == 0) = false := beq_eq_false_iff_ne.2 (by omega)
          rcases Bool.eq_false_or_eq_true (seen.contains K) with hcn | hcn
          · have HR : Hid (kap l [] t.cs = false) := by show _ = _; rw [HEE.out, hcn, Bool.or_true]; rfl
            rw [hcn] at cS
            clear HEE hK0 hcn
            go_wp2_with fail
            go_ret
            exact ⟨by rw [HR.out]; rfl, HX6.out.b⟩
          · have HE2 : Hid (kap l (K :: seen) (t.cs.drop (i + 1)) = kap l [] t.cs) := by show _ = _; rw [HEE.out, hcn, decide_eq_false hK0]; rfl
            rw [hcn] at cS
            have HX7 := hide (HX6.out.set HKL.out)
            have fS : w6.frozen? ⟨w.heap.size + 2, K, none⟩ = false := blk_frozen K HX6.out.s
            clear HEE hK0 hcn
            go_wp2_with fail
            go_roundw
            case rel => exact ⟨i + 1, K :: seen, by omega, by go_num, HE2, HX7⟩
            case measure => simp [intOf]; omega
    · as_aux_lemma =>
      have g1 : ¬ (i : Int) < (t.cs.length : Int) := by omega
      have HR : Hid (kap l [] t.cs = true) := by
        show _ = _
        rw [← HE.out, List.drop_of_length_le (by omega)]
        rfl
      clear HE
      go_wp2_with fail
      go_ret
      exact ⟨by rw [HR.out]; rfl, HXi.out.b⟩
set_option maxRecDepth 1000000 in
set_option maxHeartbeats 1000000 in
theorem together_any (w : World) (hO : Otb w) (vt : Value) (B : Nat) (l : List Tp) (hB : Bok w vt B l) (hl : ∀ t ∈ l, t.r.n.size ≤ 140737488351232) (i : Nat) (t : Tp) (ht : l[i]? = some t) (hf1 : t.fs.length ≤ 1000) (hc1 : t.cs.length ≤ 1000) : Calls Tryd.prog 26 #[.agg #[vt, .map (some B)], .int .i64 (i : Nat)] w fun e w' => e = .returned (.int .i64 (tgt l t : Nat)) ∧ Below w.heap.size w w' := by
  have HO : Hid (∀ wy, Below w.heap.size w wy → Otb wy) := fun wy hb => hO.next (keep_below hb)
  have HB := hide hB
  have HL := hide hl
  have hmax := hB.t.max
  have hil : i < l.length := (List.getElem?_eq_some_iff.1 ht).1
  obtain ⟨⟨⟨a, cap, rfl, _, hform⟩, _⟩, _⟩ := hB
  have g1 : (i : Int) < (l.length : Int) := by omega
  obtain ⟨b, off, rfl, hcc⟩ := hform.resolve_left (fun h => by rw [h] at hil; simp at hil)
  obtain ⟨c, hc, hcell⟩ := hcc i t ht
  have HC := hide hc
  have HRZ := hide (rfs_size hc)
  obtain ⟨⟨vf, vc, vw, rfl, ⟨⟨af, cf, rfl, -, hff⟩, hfm⟩, ⟨⟨ac, cc, rfl, -, hcf⟩, hcm⟩, ⟨⟨aw, cw, rfl, -, -⟩, hwm, -⟩⟩, hbd⟩ := hc
  unfold tpc at hcell HC
  have HCL : Hid (∀ wx, Below w.heap.size w wx → ∀ j u, (#[.string t.n, .int .i64 t.k, .int .i64 t.lo, .int .i64 t.hi, .string t.r.n, .bool t.r.z, .slice af t.fs.length cf, .slice ac t.cs.length cc, .slice aw t.ws.length cw] : Array Value)[j]? = some u → wx.cell? ⟨b, off + i * 9 + j, none⟩ = some u) := fun wx hx j u hj => keep_below hx _ _ (hcell j u hj)
  have HCI : Hid (∀ wx, Below w.heap.size w wx → Tpi wx t #[.string t.n, .int .i64 t.k, .int .i64 t.lo, .int .i64 t.hi, .string t.r.n, .bool t.r.z, .slice af t.fs.length cf, .slice ac t.cs.length cc, .slice aw t.ws.length cw]) := fun wx hx => HC.out.move (keep_below hx)
  have HBI : Hid (∀ wx, Below w.heap.size w wx → Bok wx (.slice (some ⟨b, off, none⟩) l.length cap) B l) := fun wx hx => HB.out.next hx
  have HF1 : Hid (t.fs.length ≤ 1000 ∧ t.cs.length ≤ 1000) := ⟨hf1, hc1⟩
  have HIT := hide infoTp
  have HAT : Hid (∀ w, (isAgg 29).run Tryd.prog w = .ok true w) := aggTp
  have HIB := hide infoBk
  have HAB : Hid (∀ w, (isAgg 59).run Tryd.prog w = .ok true w) := aggBk
  have HX := hide (Bt.start w #[.slice (some ⟨b, off, none⟩) l.length cap, .map (some B)] #[.string t.n, .int .i64 t.k, .int .i64 t.lo, .int .i64 t.hi, .string t.r.n, .bool t.r.z, .slice af t.fs.length cf, .slice ac t.cs.length cc, .slice aw t.ws.length cw])
  have hb0 := below_alloc4 w (.cells #[.slice (some ⟨b, off, none⟩) l.length cap, .map (some B)] 59)
  have HC0 := hide (HCL.out _ hb0)
  have q0 : (w.alloc (.cells #[.slice (some ⟨b, off, none⟩) l.length cap, .map (some B)] 59)).cell? ⟨w.heap.size, 0, none⟩ = some (.slice (some ⟨b, off, none⟩) l.length cap) := blk_cell (j := 0) (heap_alloc_new w _) rfl
  clear hform hcc hcell hff hfm hcf hcm hwm hbd hO hb0 ht hil HC HB hf1 hc1 hl
  go_enter Tryd.func26, Tryd.ntmps26
  go_upto_region 2 with (refine wpList_aggAt rfl rfl HIT.out HAT.out b (off + i * 9) #[.string t.n, .int .i64 t.k, .int .i64 t.lo, .int .i64 t.hi, .string t.r.n, .bool t.r.z, .slice af t.fs.length cf, .slice ac t.cs.length cc, .slice aw t.ws.length cw] rfl rfl HC0.out ?_)
  (try simp only [Act.put]); (try simp only [List.setIfInBounds_toArray, List.set_cons_zero, List.set_cons_succ])
  generalize (w.alloc (.cells #[.slice (some ⟨b, off, none⟩) l.length cap, .map (some B)] 59)).alloc (.cells #[.string t.n, .int .i64 t.k, .int .i64 t.lo, .int .i64 t.hi, .string t.r.n, .bool t.r.z, .slice af t.fs.length cf, .slice ac t.cs.length cc, .slice aw t.ws.length cw] 29) = w4 at *
  clear q0 HC0 HCL
  refine heldStart (S := Bt w #[.slice (some ⟨b, off, none⟩) l.length cap, .map (some B)] #[.string t.n, .int .i64 t.k, .int .i64 t.lo, .int .i64 t.hi, .string t.r.n, .bool t.r.z, .slice af t.fs.length cf, .slice ac t.cs.length cc, .slice aw t.ws.length cw]) (by kernel_rfl) ?_
  have hb : Below w4.heap.size w4 w4.drew := by
    refine Below.drew ?_
    exact Below.refl _ _
  replace HX := hide (HX.out.next hb)
  have hS := HX.out
  clear hb
  generalize w4.drew = w5 at *
  refine heldTake 0 _ rfl (by kernel_rfl) (by kernel_rfl) (by kernel_rfl) (fun _ _ _ h => h) rfl hS (fun wy hy => exec_aggAt (g := w.heap.size + 1) (off := 0) HIT.out HAT.out rfl rfl rfl hy.tc) ?_
  (try simp only [Act.put]); (try simp only [List.setIfInBounds_toArray, List.set_cons_zero, List.set_cons_succ])
  refine heldTake 2 _ rfl (by kernel_rfl) (by kernel_rfl) (by kernel_rfl) (fun _ _ _ h => h) rfl hS (fun wy hy => exec_aggAt (g := w.heap.size) (off := 0) HIB.out HAB.out rfl rfl rfl hy.bc) ?_
  (try simp only [Act.put]); (try simp only [List.setIfInBounds_toArray, List.set_cons_zero, List.set_cons_succ])
  refine heldTake 3 _ rfl (by kernel_rfl) (by kernel_rfl) (by kernel_rfl) (fun _ _ _ h => h) rfl hS (fun wy hy => by first | (go_simp; done) | (go_simp; rfl) | rfl) ?_
  (try simp only [Act.put]); (try simp only [List.setIfInBounds_toArray, List.set_cons_zero, List.set_cons_succ])
  refine heldStep 1 rfl (by kernel_rfl) (fun K hK => ?_)
  go_simp
  refine (references_any w5 t _ (HCI.out w5 HX.out.b) HF1.out.1 HF1.out.2).mono ?_
  rintro e w6 ⟨v, rfl, hP⟩
  have HRS := hide hP.out.1
  replace HX := hide (HX.out.next hP.out.2)
  refine (Hid.out hK) _ _ (HX.out) (fun hS2 => ?_)
  clear hK K hS
  have hS := hS2
  clear hS2
  (try simp only [Act.put]); (try simp only [List.setIfInBounds_toArray, List.set_cons_zero, List.set_cons_succ])
  clear hP
  refine heldStep 4 rfl (by kernel_rfl) (fun K hK => ?_)
  go_simp
  refine (containsNull_any w6 v (rfs t) HRS.out (.slice (some ⟨b, off, none⟩) l.length cap) B (fun j => ((rfs t).getD j zrf).z && (flo l ((rfs t).getD j zrf).n).2) (fun _ wx => Below w6.heap.size w6 wx) (Below.refl _ _) (fun j wx hI => RSl.mv HRS.out (keep_below hI)) (fun j x wx hx hI => by
    have hbw : Below w.heap.size w wx := HX.out.b.trans (hI.mono HX.out.b.size)
    refine (nullTwice_any wx (HO.out wx hbw) _ B l (HBI.out wx hbw) HL.out x (HRZ.out x (List.mem_of_getElem? hx))).mono ?_
    rintro e w' ⟨rfl, hb⟩
    exact ⟨by simp only [List.getD, hx]; rfl, hI.trans (hb.mono hI.size)⟩)).mono ?_
  rintro e w7 ⟨rfl, hI⟩
  have HX7 : Hid (Bt w #[.slice (some ⟨b, off, none⟩) l.length cap, .map (some B)] #[.string t.n, .int .i64 t.k, .int .i64 t.lo, .int .i64 t.hi, .string t.r.n, .bool t.r.z, .slice af t.fs.length cf, .slice ac t.cs.length cc, .slice aw t.ws.length cw] w7) := by
    obtain ⟨_, hI⟩ := hI.out
    exact HX.out.next hI
  replace HX := HX7
  have HAR : Hid ((rfs t).any (fun r => r.z && (flo l r.n).2) = (List.range (rfs t).length).any fun j => ((rfs t).getD j zrf).z && (flo l ((rfs t).getD j zrf).n).2) := any_map_range (rfs t) zrf (fun r => r.z && (flo l r.n).2)
  generalize (List.range (rfs t).length).any (fun j => ((rfs t).getD j zrf).z && (flo l ((rfs t).getD j zrf).n).2) = ab at *
  refine (Hid.out hK) _ _ (HX.out) (fun hS2 => ?_)
  clear hK K hS
  have hS := hS2
  clear hS2
  (try simp only [Act.put]); (try simp only [List.setIfInBounds_toArray, List.set_cons_zero, List.set_cons_succ])
  clear hI HX7 HRS
  refine heldTake 5 _ rfl (by kernel_rfl) (by kernel_rfl) (by kernel_rfl) (fun _ _ _ h => h) rfl hS (fun wy hy => by first | (go_simp; done) | (go_simp; rfl) | rfl) ?_
  (try simp only [Act.put]); (try simp only [List.setIfInBounds_toArray, List.set_cons_zero, List.set_cons_succ])
  refine heldDone (by kernel_rfl) ?_
  clear hS
  rcases Bool.eq_false_or_eq_true ab with hab | hab
  · as_aux_lemma =>
    rw [hab]
    rw [hab] at HAR
    have HR : Hid (tgt l t = 118) := by show _ = _; unfold tgt; rw [if_pos HAR.out]
    go_wp2_with fail
    go_ret
    exact ⟨by rw [HR.out]; rfl, HX.out.b⟩
  rw [hab]
  rw [hab] at HAR
  have c1 : w7.cell? ⟨w.heap.size + 1, 1, none⟩ = some (.int .i64 t.k) := blk_cell (j := 1) HX.out.t rfl
  by_cases h8 : t.k = 8
  · have g8 : (t.k == 8) = true := beq_iff_eq.2 h8
    have H8 := hide h8
    clear h8
    have HTC := hide HX.out.tc
    have HCB := hide HX.out.bc
    go_wp2_with (first
      | (refine wpList_aggAt rfl rfl HIT.out HAT.out (w.heap.size + 1) 0 #[.string t.n, .int .i64 t.k, .int .i64 t.lo, .int .i64 t.hi, .string t.r.n, .bool t.r.z, .slice af t.fs.length cf, .slice ac t.cs.length cc, .slice aw t.ws.length cw] rfl rfl HTC.out ?_)
      | (refine wpList_aggAt rfl rfl HIB.out HAB.out w.heap.size 0 #[.slice (some ⟨b, off, none⟩) l.length cap, .map (some B)] rfl rfl HCB.out ?_))
    refine (kindsApart_any w7 (HO.out w7 HX.out.b) _ B l (HBI.out w7 HX.out.b) HL.out t _ (HCI.out w7 HX.out.b)).mono ?_
    rintro e w8 ⟨rfl, hb⟩
    replace HX := hide (HX.out.next hb)
    clear hb HTC HCB c1
    rcases Bool.eq_false_or_eq_true (kap l [] t.cs) with hk | hk
    · as_aux_lemma =>
      have HR : Hid (tgt l t = 0) := by show _ = _; unfold tgt; rw [HAR.out, if_neg (by decide), if_neg (fun h => by rw [hk] at h; exact absurd h.2 (by decide))]
      rw [hk]
      go_wp2_with fail
      go_ret
      exact ⟨by rw [HR.out]; rfl, HX.out.b⟩
    · as_aux_lemma =>
      have HR : Hid (tgt l t = 116) := by show _ = _; unfold tgt; rw [HAR.out, if_neg (by decide), if_pos ⟨H8.out, hk⟩]
      rw [hk]
      go_wp2_with fail
      go_ret
      exact ⟨by rw [HR.out]; rfl, HX.out.b⟩
  · as_aux_lemma =>
    have g8 : (t.k == 8) = false := beq_eq_false_iff_ne.2 h8
    have HR : Hid (tgt l t = 0) := by show _ = _; unfold tgt; rw [HAR.out, if_neg (by decide), if_neg (fun h => h8 h.1)]
    go_wp2_with fail
    go_ret
    exact ⟨by rw [HR.out]; rfl, HX.out.b⟩
end
section
open Go.RowKit Go
theorem lk1_none {f : Nat → Tp → Nat} : ∀ (r : List Tp) (o : Nat), (∀ j t, r[j]? = some t → f (o + j) t = 0) → lk1 f o r = none
  | [], _, _ => rfl
  | t :: r, o, h => by
    unfold lk1
    rw [if_neg (fun e => e (h 0 t rfl))]
    exact lk1_none r (o + 1) (fun j u hu => by have := h (j + 1) u (by simpa using hu); rw [Nat.add_assoc, Nat.add_comm 1 j]; exact this)
theorem lk1_hit {f : Nat → Tp → Nat} : ∀ (r : List Tp) (o i : Nat) (t : Tp), r[i]? = some t → f (o + i) t ≠ 0 → (∀ j u, j < i → r[j]? = some u → f (o + j) u = 0) → lk1 f o r = some (f (o + i) t, o + i)
  | [], _, _, _, h, _, _ => by cases h
  | u :: r, o, 0, t, h, h0, _ => by
    have e : u = t := by simpa using h
    subst e
    rw [Nat.add_zero] at h0 ⊢
    unfold lk1
    rw [if_pos h0]
  | u :: r, o, i + 1, t, h, h0, hz => by
    unfold lk1
    rw [if_neg (fun e => e (hz 0 u (by omega) rfl))]
    have := lk1_hit r (o + 1) i t (by simpa using h) (by rw [Nat.add_assoc, Nat.add_comm 1 i]; exact h0) (fun j x hj hx => by have := hz (j + 1) x (by omega) (by simpa using hx); rw [Nat.add_assoc, Nat.add_comm 1 j]; exact this)
    rw [Nat.add_assoc, Nat.add_comm 1 i] at this
    exact this
/-- The looks, one behind the other. -/
def lks (l : List Tp) : Nat → Nat → Tp → Nat
  | 0, i, t => aln l i t
  | 1, _, t => rng l t
  | _, _, t => tgt l t
theorem chk_many {l : List Tp} (h : 64 < l.length) : chk11 l = (110, 0) := by
  unfold chk11
  rw [if_pos h]
theorem chk_hit {l : List Tp} (h64 : ¬ 64 < l.length) {k i : Nat} (hk : k ≤ 2) {t : Tp} (ht : l[i]? = some t) (h0 : lks l k i t ≠ 0) (hb : ∀ k' j u, k' < k → l[j]? = some u → lks l k' j u = 0) (hz : ∀ j u, j < i → l[j]? = some u → lks l k j u = 0) : chk11 l = (lks l k i t, i) := by
  unfold chk11
  rw [if_neg h64]
  have e : ∀ f : Nat → Tp → Nat, (∀ j u, l[j]? = some u → f j u = 0) → lk1 f 0 l = none := fun f hf => lk1_none l 0 (fun j u hu => by rw [Nat.zero_add]; exact hf j u hu)
  have g : ∀ f : Nat → Tp → Nat, f i t ≠ 0 → (∀ j u, j < i → l[j]? = some u → f j u = 0) → lk1 f 0 l = some (f i t, i) := fun f hf hn => by
    have := lk1_hit l 0 i t ht (by rw [Nat.zero_add]; exact hf) (fun j u hj hu => by rw [Nat.zero_add]; exact hn j u hj hu)
    rw [Nat.zero_add] at this
    exact this
  rcases (show k = 0 ∨ k = 1 ∨ k = 2 by omega) with rfl | rfl | rfl
  · rw [g (aln l) h0 hz]
    rfl
  · rw [e (aln l) (fun j u hu => hb 0 j u (by omega) hu)]
    simp only
    rw [g (fun _ t => rng l t) h0 hz]
    rfl
  · rw [e (aln l) (fun j u hu => hb 0 j u (by omega) hu)]
    simp only
    rw [e (fun _ t => rng l t) (fun j u hu => hb 1 j u (by omega) hu)]
    simp only
    rw [g (fun _ t => tgt l t) h0 hz]
    rfl
theorem chk_ok {l : List Tp} (h64 : ¬ 64 < l.length) (hb : ∀ k' j u, k' < 3 → l[j]? = some u → lks l k' j u = 0) : chk11 l = (0, 0) := by
  unfold chk11
  rw [if_neg h64]
  have e : ∀ f : Nat → Tp → Nat, (∀ j u, l[j]? = some u → f j u = 0) → lk1 f 0 l = none := fun f hf => lk1_none l 0 (fun j u hu => by rw [Nat.zero_add]; exact hf j u hu)
  rw [e (aln l) (fun j u hu => hb 0 j u (by omega) hu)]
  simp only
  rw [e (fun _ t => rng l t) (fun j u hu => hb 1 j u (by omega) hu)]
  simp only
  rw [e (fun _ t => tgt l t) (fun j u hu => hb 2 j u (by omega) hu)]
theorem tsl_r {w : World} {v : Value} {l : List Tp} (h : TSl w v l) : ∀ t ∈ l, t.r.n.size ≤ 140737488351232 := fun t ht => by
  obtain ⟨i, hi, e⟩ := List.getElem_of_mem ht
  rcases h.form with ⟨_, _, _, _, h | ⟨b, off, _, h⟩⟩
  · rw [h] at ht; cases ht
  · obtain ⟨_, h3, _⟩ := h i t (by rw [List.getElem?_eq_getElem hi, e])
    exact h3.b.r
/-- A list that is short enough to be walked. -/
def Shrt (l : List Tp) : Prop := ∀ t ∈ l, t.fs.length ≤ 1000 ∧ t.cs.length ≤ 1000 ∧ t.ws.length ≤ 1000
/-- What Check has in hand. -/
structure Chw (w : World) (vt : Value) (B : Nat) (l : List Tp) (g : Nat) (wx : World) : Prop where
  r : wx.heap[g]? = some (.cells #[.func (.func 24) #[.agg #[vt, .map (some B)]] #[], .func (.func 25) #[.agg #[vt, .map (some B)]] #[], .func (.func 26) #[.agg #[vt, .map (some B)]] #[]] 80 (0, 0))
  b : Below w.heap.size w wx
  o : Bok wx vt B l
theorem Chw.next {w wx wy : World} {vt : Value} {B g : Nat} {l : List Tp} (h : Chw w vt B l g wx) (hb : Below wx.heap.size wx wy) : Chw w vt B l g wy := ⟨(hb.block _ (blk_lt h.r)).trans h.r, h.b.trans (hb.mono h.b.size), h.o.next hb⟩
set_option maxRecDepth 1000000 in
set_option maxHeartbeats 1000000 in
theorem check11_any (w : World) (hT : Tabs w) (hO : Otb w) (v : Value) (l : List Tp) (hv : TSl w v l) (hS : Shrt l) : Calls Tryd.prog 15 #[v] w fun e w' => e = .returned (.tuple #[.int .i64 ((chk11 l).1 : Nat), .int .i64 ((chk11 l).2 : Nat)]) ∧ Below w.heap.size w w' := by
  have HT : Hid (∀ wy, Below w.heap.size w wy → Tabs wy) := fun wy hb => hT.next hb
  have HO : Hid (∀ wy, Below w.heap.size w wy → Otb wy) := fun wy hb => hO.next (keep_below hb)
  have HV := hide hv
  have HSH := hide hS
  have hmax := hv.max
  obtain ⟨⟨a, cap, rfl, _, _⟩, _⟩ := hv
  clear hT hO hS
  go_enter Tryd.func15, Tryd.ntmps15
  by_cases h64 : 64 < l.length
  · as_aux_lemma =>
    have g64 : (64 : Int) < (l.length : Int) := by omega
    have HR := hide (chk_many h64)
    clear h64
    go_wp2_with fail
    go_ret2
    exact ⟨by rw [HR.out]; rfl, Below.refl _ _⟩
  have g64 : ¬ (64 : Int) < (l.length : Int) := by omega
  have H64 := hide h64
  clear h64
  go_wp2_with fail
  refine (opened_any w _ l HV.out).mono ?_
  rintro e w1 ⟨B, rfl, hP⟩
  have HM := hide hP.out.2.1
  have HB1 := hide hP.out.2.2
  clear hP
  have HCB : Hid (∀ j u, (#[.slice a l.length cap, .map (some B)] : Array Value)[j]? = some u → (w1.alloc (.cells #[.slice a l.length cap, .map (some B)] 59)).cell? ⟨w1.heap.size, 0 + j, none⟩ = some u) := fun j u hu => by rw [Nat.zero_add]; exact blk_cell (heap_alloc_new w1 _) hu
  have HIB := hide infoBk
  have HAB : Hid (∀ w, (isAgg 59).run Tryd.prog w = .ok true w) := aggBk
  go_upto_region 5 with (first
    | (refine wpList_aggAt rfl rfl HIB.out HAB.out w1.heap.size 0 #[.slice a l.length cap, .map (some B)] rfl rfl HCB.out ?_))
  have hb2 := below_alloc4 w1 (.cells #[.slice a l.length cap, .map (some B)] 59)
  have hb3 := below_alloc4 (w1.alloc (.cells #[.slice a l.length cap, .map (some B)] 59)) (.cells #[.func (.func 24) #[.agg #[.slice a l.length cap, .map (some B)]] #[], .func (.func 25) #[.agg #[.slice a l.length cap, .map (some B)]] #[], .func (.func 26) #[.agg #[.slice a l.length cap, .map (some B)]] #[]] 80)
  have e1 : (w1.alloc (.cells #[.slice a l.length cap, .map (some B)] 59)).heap.size = w1.heap.size + 1 := by simp
  have HX : Hid (Chw w (.slice a l.length cap) B l (w1.heap.size + 1) ((w1.alloc (.cells #[.slice a l.length cap, .map (some B)] 59)).alloc (.cells #[.func (.func 24) #[.agg #[.slice a l.length cap, .map (some B)]] #[], .func (.func 25) #[.agg #[.slice a l.length cap, .map (some B)]] #[], .func (.func 26) #[.agg #[.slice a l.length cap, .map (some B)]] #[]] 80))) := by
    have h := heap_alloc_new (w1.alloc (.cells #[.slice a l.length cap, .map (some B)] 59)) (.cells #[.func (.func 24) #[.agg #[.slice a l.length cap, .map (some B)]] #[], .func (.func 25) #[.agg #[.slice a l.length cap, .map (some B)]] #[], .func (.func 26) #[.agg #[.slice a l.length cap, .map (some B)]] #[]] 80)
    rw [e1] at h
    exact ⟨h, (HB1.out.trans (hb2.mono HB1.out.size)).trans (hb3.mono (Nat.le_trans HB1.out.size hb2.size)), ((Bok.mk (HV.out.mv (keep_below HB1.out)) HM.out).next hb2).next hb3⟩
  clear hb2 hb3 e1 HCB HM HB1 HV
  generalize (w1.alloc (.cells #[.slice a l.length cap, .map (some B)] 59)).alloc (.cells #[.func (.func 24) #[.agg #[.slice a l.length cap, .map (some B)]] #[], .func (.func 25) #[.agg #[.slice a l.length cap, .map (some B)]] #[], .func (.func 26) #[.agg #[.slice a l.length cap, .map (some B)]] #[]] 80) = w2 at *
  generalize w1.heap.size + 1 = G at *
  go_loopw [22] (fun vk wx => ∃ k : Nat, k ≤ 3 ∧ vk = .int .i64 (k : Nat) ∧ Hid (∀ k' j u, k' < k → l[j]? = some u → lks l k' j u = 0) ∧ Hid (Chw w (.slice a l.length cap) B l G wx)) (fun vk _ => 3 - (intOf vk).toNat)
  case atStart => exact ⟨0, by omega, rfl, fun k' _ _ hk => absurd hk (by omega), HX⟩
  case round =>
    obtain ⟨k, hk, rfl, HP, HX2⟩ := hrel
    clear HX
    by_cases hk3 : k < 3
    · rcases (show k = 0 ∨ k = 1 ∨ k = 2 by omega) with rfl | rfl | rfl
      · as_aux_lemma =>
        have cK : wr.cell? ⟨G, 0, none⟩ = some (.func (.func 24) #[.agg #[.slice a l.length cap, .map (some B)]] #[]) := blk_cell (j := 0) HX2.out.r rfl
        go_wp2_with fail
        clear cK
        go_loopw [28] (fun vj wz => ∃ j : Nat, j ≤ l.length ∧ vj = .int .i64 (j : Nat) ∧ Hid (∀ j' u, j' < j → l[j']? = some u → lks l 0 j' u = 0) ∧ Hid (Chw w (.slice a l.length cap) B l G wz)) (fun vj _ => l.length - (intOf vj).toNat)
        case atStart => exact ⟨0, by omega, rfl, fun j' _ hj => absurd hj (by omega), HX2⟩
        case round =>
          rename World => wz
          obtain ⟨j, hj, rfl, HZ, HX3⟩ := hrel
          clear HX2
          by_cases hjl : j < l.length
          · as_aux_lemma =>
            have g2 : (j : Int) < (l.length : Int) := by omega
            obtain ⟨t, ht⟩ : ∃ t, l[j]? = some t := ⟨l[j], List.getElem?_eq_getElem hjl⟩
            have HTJ := hide ht
            have HS := hide (HSH.out t (List.mem_of_getElem? ht))
            have HCA := hide (alone_any wz (HT.out wz HX3.out.b) (HO.out wz HX3.out.b) _ B l HX3.out.o j t ht HS.out.1 HS.out.2.1 HS.out.2.2)
            clear ht
            go_wp2_with fail
            refine HCA.out.mono ?_
            rintro e w4 ⟨rfl, hb⟩
            have HX4 := hide (HX3.out.next hb)
            clear hb HCA HX3
            by_cases h0 : aln l j t = 0
            · have HZ2 : Hid (∀ j' u, j' < j + 1 → l[j']? = some u → lks l 0 j' u = 0) := fun j' u hj' hu => by
                by_cases e : j' = j
                · subst e
                  rw [HTJ.out] at hu
                  rw [← Option.some.inj hu]
                  exact h0
                · exact HZ.out j' u (by omega) hu
              rw [h0]
              clear h0 HZ
              go_wp2_with fail
              go_roundw
              case rel => exact ⟨_, _, _, _, _, _, _, _, _, _, _, _, _, _, _, ⟨j + 1, by omega, by go_num, HZ2, HX4⟩, rfl⟩
              case measure => simp [intOf]; omega
            · have HR : Hid (chk11 l = (aln l j t, j)) := chk_hit H64.out (k := 0) (by decide) HTJ.out h0 (fun k' j u hk => HP.out k' j u hk) HZ.out
              obtain ⟨E, hE⟩ : ∃ E, E = aln l j t := ⟨_, rfl⟩
              rw [← hE] at h0 HR
              rw [← hE]
              have gE : ((E : Int) != 0) = true := by
                rw [bne_iff_ne]
                omega
              clear h0 hE HZ HTJ HS
              go_wp2_with fail
              go_ret2
              exact ⟨by rw [HR.out]; rfl, HX4.out.b⟩
          · as_aux_lemma =>
            have g2 : ¬ (j : Int) < (l.length : Int) := by omega
            have HP2 : Hid (∀ k' j u, k' < 0 + 1 → l[j]? = some u → lks l k' j u = 0) := fun k' j' u hk hu => by
              by_cases e : k' = 0
              · subst e
                exact HZ.out j' u (by have := (List.getElem?_eq_some_iff.1 hu).1; omega) hu
              · exact HP.out k' j' u (by omega) hu
            go_wp2_with fail
            go_roundw
            case rel => exact ⟨0 + 1, by omega, rfl, HP2, HX3⟩
            case measure => simp [intOf]
      · as_aux_lemma =>
        have cK : wr.cell? ⟨G, 1, none⟩ = some (.func (.func 25) #[.agg #[.slice a l.length cap, .map (some B)]] #[]) := blk_cell (j := 1) HX2.out.r rfl
        go_wp2_with fail
        clear cK
        go_loopw [28] (fun vj wz => ∃ j : Nat, j ≤ l.length ∧ vj = .int .i64 (j : Nat) ∧ Hid (∀ j' u, j' < j → l[j']? = some u → lks l 1 j' u = 0) ∧ Hid (Chw w (.slice a l.length cap) B l G wz)) (fun vj _ => l.length - (intOf vj).toNat)
        case atStart => exact ⟨0, by omega, rfl, fun j' _ hj => absurd hj (by omega), HX2⟩
        case round =>
          rename World => wz
          obtain ⟨j, hj, rfl, HZ, HX3⟩ := hrel
          clear HX2
          by_cases hjl : j < l.length
          · as_aux_lemma =>
            have g2 : (j : Int) < (l.length : Int) := by omega
            obtain ⟨t, ht⟩ : ∃ t, l[j]? = some t := ⟨l[j], List.getElem?_eq_getElem hjl⟩
            have HTJ := hide ht
            have HS := hide (HSH.out t (List.mem_of_getElem? ht))
            have HCA := hide (ring_any wz (HO.out wz HX3.out.b) _ B l HX3.out.o (tsl_r HX3.out.o.t) j t ht)
            clear ht
            go_wp2_with fail
            refine HCA.out.mono ?_
            rintro e w4 ⟨rfl, hb⟩
            have HX4 := hide (HX3.out.next hb)
            clear hb HCA HX3
            by_cases h0 : rng l t = 0
            · have HZ2 : Hid (∀ j' u, j' < j + 1 → l[j']? = some u → lks l 1 j' u = 0) := fun j' u hj' hu => by
                by_cases e : j' = j
                · subst e
                  rw [HTJ.out] at hu
                  rw [← Option.some.inj hu]
                  exact h0
                · exact HZ.out j' u (by omega) hu
              rw [h0]
              clear h0 HZ
              go_wp2_with fail
              go_roundw
              case rel => exact ⟨_, _, _, _, _, _, _, _, _, _, _, _, _, _, _, ⟨j + 1, by omega, by go_num, HZ2, HX4⟩, rfl⟩
              case measure => simp [intOf]; omega
            · have HR : Hid (chk11 l = (rng l t, j)) := chk_hit H64.out (k := 1) (by decide) HTJ.out h0 (fun k' j u hk => HP.out k' j u hk) HZ.out
              obtain ⟨E, hE⟩ : ∃ E, E = rng l t := ⟨_, rfl⟩
              rw [← hE] at h0 HR
              rw [← hE]
              have gE : ((E : Int) != 0) = true := by
                rw [bne_iff_ne]
                omega
              clear h0 hE HZ HTJ HS
              go_wp2_with fail
              go_ret2
              exact ⟨by rw [HR.out]; rfl, HX4.out.b⟩
          · as_aux_lemma =>
            have g2 : ¬ (j : Int) < (l.length : Int) := by omega
            have HP2 : Hid (∀ k' j u, k' < 1 + 1 → l[j]? = some u → lks l k' j u = 0) := fun k' j' u hk hu => by
              by_cases e : k' = 1
              · subst e
                exact HZ.out j' u (by have := (List.getElem?_eq_some_iff.1 hu).1; omega) hu
              · exact HP.out k' j' u (by omega) hu
            go_wp2_with fail
            go_roundw
            case rel => exact ⟨1 + 1, by omega, rfl, HP2, HX3⟩
            case measure => simp [intOf]
      · as_aux_lemma =>
        have cK : wr.cell? ⟨G, 2, none⟩ = some (.func (.func 26) #[.agg #[.slice a l.length cap, .map (some B)]] #[]) := blk_cell (j := 2) HX2.out.r rfl
        go_wp2_with fail
        clear cK
        go_loopw [28] (fun vj wz => ∃ j : Nat, j ≤ l.length ∧ vj = .int .i64 (j : Nat) ∧ Hid (∀ j' u, j' < j → l[j']? = some u → lks l 2 j' u = 0) ∧ Hid (Chw w (.slice a l.length cap) B l G wz)) (fun vj _ => l.length - (intOf vj).toNat)
        case atStart => exact ⟨0, by omega, rfl, fun j' _ hj => absurd hj (by omega), HX2⟩
        case round =>
          rename World => wz
          obtain ⟨j, hj, rfl, HZ, HX3⟩ := hrel
          clear HX2
          by_cases hjl : j < l.length
          · as_aux_lemma =>
            have g2 : (j : Int) < (l.length : Int) := by omega
            obtain ⟨t, ht⟩ : ∃ t, l[j]? = some t := ⟨l[j], List.getElem?_eq_getElem hjl⟩
            have HTJ := hide ht
            have HS := hide (HSH.out t (List.mem_of_getElem? ht))
            have HCA := hide (together_any wz (HO.out wz HX3.out.b) _ B l HX3.out.o (tsl_r HX3.out.o.t) j t ht HS.out.1 HS.out.2.1)
            clear ht
            go_wp2_with fail
            refine HCA.out.mono ?_
            rintro e w4 ⟨rfl, hb⟩
            have HX4 := hide (HX3.out.next hb)
            clear hb HCA HX3
            by_cases h0 : tgt l t = 0
            · have HZ2 : Hid (∀ j' u, j' < j + 1 → l[j']? = some u → lks l 2 j' u = 0) := fun j' u hj' hu => by
                by_cases e : j' = j
                · subst e
                  rw [HTJ.out] at hu
                  rw [← Option.some.inj hu]
                  exact h0
                · exact HZ.out j' u (by omega) hu
              rw [h0]
              clear h0 HZ
              go_wp2_with fail
              go_roundw
              case rel => exact ⟨_, _, _, _, _, _, _, _, _, _, _, _, _, _, _, ⟨j + 1, by omega, by go_num, HZ2, HX4⟩, rfl⟩
              case measure => simp [intOf]; omega
            · have HR : Hid (chk11 l = (tgt l t, j)) := chk_hit H64.out (k := 2) (by decide) HTJ.out h0 (fun k' j u hk => HP.out k' j u hk) HZ.out
              obtain ⟨E, hE⟩ : ∃ E, E = tgt l t := ⟨_, rfl⟩
              rw [← hE] at h0 HR
              rw [← hE]
              have gE : ((E : Int) != 0) = true := by
                rw [bne_iff_ne]
                omega
              clear h0 hE HZ HTJ HS
              go_wp2_with fail
              go_ret2
              exact ⟨by rw [HR.out]; rfl, HX4.out.b⟩
          · as_aux_lemma =>
            have g2 : ¬ (j : Int) < (l.length : Int) := by omega
            have HP2 : Hid (∀ k' j u, k' < 2 + 1 → l[j]? = some u → lks l k' j u = 0) := fun k' j' u hk hu => by
              by_cases e : k' = 2
              · subst e
                exact HZ.out j' u (by have := (List.getElem?_eq_some_iff.1 hu).1; omega) hu
              · exact HP.out k' j' u (by omega) hu
            go_wp2_with fail
            go_roundw
            case rel => exact ⟨2 + 1, by omega, rfl, HP2, HX3⟩
            case measure => simp [intOf]
    · as_aux_lemma =>
      have g2 : ¬ (k : Int) < 3 := by omega
      have HR := hide (chk_ok H64.out (fun k' j u hk => HP.out k' j u (by omega)))
      go_wp2_with fail
      go_ret2
      exact ⟨by rw [HR.out]; rfl, HX2.out.b⟩
end
section
open Go.RowKit Go
theorem gfl_cells {w : World} {k b off : Nat} (hk : 0 < k) {L : List (Array Value)} (hl : ∀ c ∈ L, c.size = k) (h : ∀ (i : Nat) (c : Array Value), L[i]? = some c → ∀ j u, c[j]? = some u → w.cell? ⟨b, off + i * k + j, none⟩ = some u) : ∀ (j : Nat) (u : Value), (gfl L)[j]? = some u → w.cell? ⟨b, off + j, none⟩ = some u := fun j u hu => by
  have hj := (List.getElem?_eq_some_iff.1 hu).1
  rw [gfl_len hl] at hj
  have hi : j / k < L.length := (Nat.div_lt_iff_lt_mul hk).2 hj
  have hL : L[j / k]? = some L[j / k] := List.getElem?_eq_getElem hi
  have hs := hl _ (List.getElem_mem hi)
  have hr : j % k < (L[j / k]).size := by rw [hs]; exact Nat.mod_lt _ hk
  have hc : (L[j / k])[j % k]? = some (L[j / k])[j % k] := Array.getElem?_eq_getElem hr
  have hg := gfl_get hl _ _ _ _ hL hc
  have e : j / k * k + j % k = j := by rw [Nat.mul_comm]; exact Nat.div_add_mod j k
  rw [e, hu] at hg
  have h2 := h _ _ hL _ _ hc
  rw [Nat.add_assoc, e] at h2
  rw [Option.some.inj hg]
  exact h2
/-- append of a whole row onto nothing. -/
theorem append_all {ops : Array Oper} {rest : List Oper} {o : Oper} {a : Act} {Q : Exit → Act → World → Prop} {w : World} {S T : TypeId} {z : Value} {k by' : Nat} (hI : (Tryd.prog.info? T).map (fun i => (i.zero, i.size, i.bytes)) = some (some z, k, by')) (hS : Tryd.prog.underlying S = some (.slice T)) (hzs : z.cells.size = k) (hk : 0 < k) (hby : by' ≤ 1000) (hgd : o.guard = none) {s x : Operand}
    (ho : o.op = .call { callee := .builtin .append, args := #[s, x], argTypes := #[S, S] }) {L : List (Array Value)} {ad : Option Addr} {c : Nat} (hs : a.eval s = .slice none 0 0) (hx : a.eval x = .slice ad L.length c) (hl : ∀ c ∈ L, c.size = k) (h1 : ∀ u ∈ gfl L, u.oneCell' = true) (hlen : L.length ≤ 1000000) (hc0 : ad = none → c = 0)
    (hc : L = [] ∨ ∃ b off, ad = some ⟨b, off, none⟩ ∧ ∀ (i : Nat) (d : Array Value), L[i]? = some d → ∀ j u, d[j]? = some u → w.cell? ⟨b, off + i * k + j, none⟩ = some u)
    (h : ∀ v' w', w'.ownsRow w.heap.size T k v' L.length (gfl L) → Below w.heap.size w w' → wpList Tryd.prog ops Q rest (a.put o.dst v') w') : wpList Tryd.prog ops Q (o :: rest) a w := by
  obtain ⟨i, hi, hz0, hz1, hz2⟩ := info_ex hI
  have hb : (0 + L.length) * by' ≤ 140737488355328 := by
    have : (0 + L.length) * by' ≤ 1000000 * 1000 := Nat.mul_le_mul (by omega) hby
    omega
  have hbel : ∀ w' : World, w.grownBy w' (Value.ownBlock (.slice none 0 0)) → Below w.heap.size w w' := fun w' hg => (kp_grown hg).below (Nat.le_refl _) (fun q e => by cases e)
  cases ad with
  | none =>
    have h0 : L = [] := hc.resolve_right (fun ⟨_, _, e, _⟩ => by cases e)
    subst h0
    have e0 := hc0 rfl
    subst e0
    refine wpList_append_own_none hgd s x S ho w.heap.size T i k hS hi (.slice none 0 0) 0 [] hs (World.ownsRow_nil _ _ _ _) hx ?_
    exact h _ w (World.ownsRow_nil _ _ _ _) (Below.refl _ _)
  | some ad =>
    have hnews : ∀ j u, (gfl L)[j]? = some u → w.cell? (ad.add j) = some u := fun j u hu => by
      rcases hc with e | ⟨b, off, e, hc⟩
      · rw [e] at hu; cases hu
      · have e' := Option.some.inj e
        subst e'
        rw [addrO]
        exact gfl_cells hk hl hc j u hu
    refine wpList_append_own_at w hgd s x S ho w.heap.size T i z k by' hS hi hz0 hz1 hz2 hzs hk (.slice none 0 0) 0 [] hs (World.ownsRow_nil _ _ _ _) ad L.length c (gfl L) hx (gfl_len hl) hnews h1 (by unfold maxLen; omega) hb (Nat.le_refl _) fun v' w' h2 h3 _ _ => ?_
    exact h v' w' (by rw [Nat.zero_add] at h2; exact h2) (hbel w' h3)
theorem infoF3 : (Tryd.prog.info? 46).map (fun i => (i.zero, i.size, i.bytes)) = some (some (.agg #[.string ⟨#[]⟩, .string ⟨#[]⟩, .string ⟨#[]⟩, .bool false, .bool false]), 5, 64) := by kernel_rfl
set_option maxRecDepth 1000000 in
set_option maxHeartbeats 1000000 in
theorem copiedF_any (w : World) (v : Value) (xs : List Fd) (hv : FSl w v xs) (hn : xs.length ≤ 1000000) : Calls Tryd.prog 28 #[v] w fun e w' => ∃ v', e = .returned v' ∧ Hid (FSl w' v' xs ∧ Below w.heap.size w w' ∧ ∀ q, v'.ownBlock = some q → w.heap.size ≤ q) := by
  have HV := hide hv
  obtain ⟨⟨a, cap, rfl, hcap, hform⟩, hmax⟩ := hv
  have HN := hide hn
  have HC : Hid ((xs.map fdc) = [] ∨ ∃ b off, a = some ⟨b, off, none⟩ ∧ ∀ (i : Nat) (d : Array Value), (xs.map fdc)[i]? = some d → ∀ j u, d[j]? = some u → w.cell? ⟨b, off + i * 5 + j, none⟩ = some u) := by
    rcases hform with h | ⟨b, off, e, h⟩
    · exact .inl (by rw [h]; rfl)
    · refine .inr ⟨b, off, e, fun i d hd j u hu => ?_⟩
      rw [List.getElem?_map] at hd
      cases hx : xs[i]? with
      | none => rw [hx] at hd; cases hd
      | some x =>
        rw [hx] at hd
        injection hd with hd
        subst hd
        obtain ⟨c, ⟨hcx, _⟩, hcell⟩ := h i x hx
        subst hcx
        exact hcell j u hu
  have HL : Hid (∀ c ∈ xs.map fdc, c.size = 5) := fun c hc => by obtain ⟨x, _, rfl⟩ := List.mem_map.1 hc; rfl
  have H1 : Hid (∀ u ∈ gfl (xs.map fdc), u.oneCell' = true) := fun u hu => by
    obtain ⟨c, hc, hu⟩ := List.mem_flatMap.1 hu
    obtain ⟨x, _, rfl⟩ := List.mem_map.1 hc
    simp only [fdc, List.mem_cons, List.not_mem_nil, or_false] at hu
    rcases hu with rfl | rfl | rfl | rfl | rfl <;> rfl
  have HC0 := hide hcap.2
  have HLE : Hid ((xs.map fdc).length = xs.length) := by show _ = _; rw [List.length_map]
  have HAP : Hid (∀ (ops : Array Oper) (rest : List Oper) (o : Oper) (ac : Act) (Q : Exit → Act → World → Prop) (s y : Operand), o.guard = none → o.op = .call { callee := .builtin .append, args := #[s, y], argTypes := #[25, 25] } → ac.eval s = .slice none 0 0 → ac.eval y = .slice a xs.length cap → (∀ v' w', w'.ownsRow w.heap.size 46 5 v' (xs.map fdc).length (gfl (xs.map fdc)) → Below w.heap.size w w' → wpList Tryd.prog ops Q rest (ac.put o.dst v') w') → wpList Tryd.prog ops Q (o :: rest) ac w) := fun ops rest o ac Q s y h1 h2 h3 h4 h5 => append_all infoF3 Tryd.underlying25 rfl (by decide) (by decide) h1 h2 h3 (by rw [HLE.out]; exact h4) HL.out H1.out (by rw [HLE.out]; exact HN.out) HC0.out HC.out h5
  clear hform hcap hn
  go_enter Tryd.func28, Tryd.ntmps28
  go_wp2_with (refine HAP.out _ _ _ _ _ _ _ rfl rfl rfl rfl ?_; intro v' w' ho hb)
  go_ret
  refine ⟨_, rfl, ?_, hb, fun q e => (ho.lt q e).1⟩
  exact own_gsl (xs := xs) ho HL.out HLE.out HV.out.max (fun i x c hx hc => by
    rw [List.getElem?_map, hx] at hc
    injection hc with hc
    subst hc
    rcases HV.out.form with ⟨_, _, _, _, h | ⟨b, off, _, h⟩⟩
    · rw [h] at hx; cases hx
    · obtain ⟨c', hP, _⟩ := h i x hx
      exact ⟨rfl, hP.2⟩)

theorem infoC3 : (Tryd.prog.info? 48).map (fun i => (i.zero, i.size, i.bytes)) = some (some (.agg #[.string ⟨#[]⟩, .string ⟨#[]⟩]), 2, 32) := by kernel_rfl
set_option maxRecDepth 1000000 in
set_option maxHeartbeats 1000000 in
theorem copiedC_any (w : World) (v : Value) (xs : List Cz) (hv : CSl w v xs) (hn : xs.length ≤ 1000000) : Calls Tryd.prog 29 #[v] w fun e w' => ∃ v', e = .returned v' ∧ Hid (CSl w' v' xs ∧ Below w.heap.size w w' ∧ ∀ q, v'.ownBlock = some q → w.heap.size ≤ q) := by
  have HV := hide hv
  obtain ⟨⟨a, cap, rfl, hcap, hform⟩, hmax⟩ := hv
  have HN := hide hn
  have HC : Hid ((xs.map czc) = [] ∨ ∃ b off, a = some ⟨b, off, none⟩ ∧ ∀ (i : Nat) (d : Array Value), (xs.map czc)[i]? = some d → ∀ j u, d[j]? = some u → w.cell? ⟨b, off + i * 2 + j, none⟩ = some u) := by
    rcases hform with h | ⟨b, off, e, h⟩
    · exact .inl (by rw [h]; rfl)
    · refine .inr ⟨b, off, e, fun i d hd j u hu => ?_⟩
      rw [List.getElem?_map] at hd
      cases hx : xs[i]? with
      | none => rw [hx] at hd; cases hd
      | some x =>
        rw [hx] at hd
        injection hd with hd
        subst hd
        obtain ⟨c, ⟨hcx, _⟩, hcell⟩ := h i x hx
        subst hcx
        exact hcell j u hu
  have HL : Hid (∀ c ∈ xs.map czc, c.size = 2) := fun c hc => by obtain ⟨x, _, rfl⟩ := List.mem_map.1 hc; rfl
  have H1 : Hid (∀ u ∈ gfl (xs.map czc), u.oneCell' = true) := fun u hu => by
    obtain ⟨c, hc, hu⟩ := List.mem_flatMap.1 hu
    obtain ⟨x, _, rfl⟩ := List.mem_map.1 hc
    simp only [czc, List.mem_cons, List.not_mem_nil, or_false] at hu
    rcases hu with rfl | rfl <;> rfl
  have HC0 := hide hcap.2
  have HLE : Hid ((xs.map czc).length = xs.length) := by show _ = _; rw [List.length_map]
  have HAP : Hid (∀ (ops : Array Oper) (rest : List Oper) (o : Oper) (ac : Act) (Q : Exit → Act → World → Prop) (s y : Operand), o.guard = none → o.op = .call { callee := .builtin .append, args := #[s, y], argTypes := #[26, 26] } → ac.eval s = .slice none 0 0 → ac.eval y = .slice a xs.length cap → (∀ v' w', w'.ownsRow w.heap.size 48 2 v' (xs.map czc).length (gfl (xs.map czc)) → Below w.heap.size w w' → wpList Tryd.prog ops Q rest (ac.put o.dst v') w') → wpList Tryd.prog ops Q (o :: rest) ac w) := fun ops rest o ac Q s y h1 h2 h3 h4 h5 => append_all infoC3 Tryd.underlying26 rfl (by decide) (by decide) h1 h2 h3 (by rw [HLE.out]; exact h4) HL.out H1.out (by rw [HLE.out]; exact HN.out) HC0.out HC.out h5
  clear hform hcap hn
  go_enter Tryd.func29, Tryd.ntmps29
  go_wp2_with (refine HAP.out _ _ _ _ _ _ _ rfl rfl rfl rfl ?_; intro v' w' ho hb)
  go_ret
  refine ⟨_, rfl, ?_, hb, fun q e => (ho.lt q e).1⟩
  exact own_gsl (xs := xs) ho HL.out HLE.out HV.out.max (fun i x c hx hc => by
    rw [List.getElem?_map, hx] at hc
    injection hc with hc
    subst hc
    rcases HV.out.form with ⟨_, _, _, _, h | ⟨b, off, _, h⟩⟩
    · rw [h] at hx; cases hx
    · obtain ⟨c', hP, _⟩ := h i x hx
      exact ⟨rfl, hP.2⟩)

theorem infoS3 : (Tryd.prog.info? 9).map (fun i => (i.zero, i.size, i.bytes)) = some (some (.string ⟨#[]⟩), 1, 16) := by kernel_rfl
set_option maxRecDepth 1000000 in
set_option maxHeartbeats 1000000 in
theorem copiedS_any (w : World) (v : Value) (xs : List ByteArray) (hv : SSl w v xs) (hn : xs.length ≤ 1000000) : Calls Tryd.prog 30 #[v] w fun e w' => ∃ v', e = .returned v' ∧ Hid (SSl w' v' xs ∧ Below w.heap.size w w' ∧ ∀ q, v'.ownBlock = some q → w.heap.size ≤ q) := by
  have HV := hide hv
  obtain ⟨⟨a, cap, rfl, hcap, hform⟩, hmax, _⟩ := hv
  have HN := hide hn
  have HC : Hid ((xs.map (fun s => #[Value.string s])) = [] ∨ ∃ b off, a = some ⟨b, off, none⟩ ∧ ∀ (i : Nat) (d : Array Value), (xs.map (fun s => #[Value.string s]))[i]? = some d → ∀ j u, d[j]? = some u → w.cell? ⟨b, off + i * 1 + j, none⟩ = some u) := by
    rcases hform with h | ⟨b, off, e, h⟩
    · exact .inl (by rw [h]; rfl)
    · refine .inr ⟨b, off, e, fun i d hd j u hu => ?_⟩
      rw [List.getElem?_map] at hd
      cases hx : xs[i]? with
      | none => rw [hx] at hd; cases hd
      | some x =>
        rw [hx] at hd
        injection hd with hd
        subst hd
        rcases j with _ | j
        · have e1 : u = .string x := by simpa using hu.symm
          subst e1
          rw [Nat.mul_one, Nat.add_zero]
          exact h i x hx
        · simp at hu
  have HL : Hid (∀ c ∈ xs.map (fun s => #[Value.string s]), c.size = 1) := fun c hc => by obtain ⟨x, _, rfl⟩ := List.mem_map.1 hc; rfl
  have H1 : Hid (∀ u ∈ gfl (xs.map (fun s => #[Value.string s])), u.oneCell' = true) := fun u hu => by
    obtain ⟨c, hc, hu⟩ := List.mem_flatMap.1 hu
    obtain ⟨x, _, rfl⟩ := List.mem_map.1 hc
    simp only [List.mem_cons, List.not_mem_nil, or_false] at hu
    rw [hu]; rfl
  have HC0 := hide hcap.2
  have HLE : Hid ((xs.map (fun s => #[Value.string s])).length = xs.length) := by show _ = _; rw [List.length_map]
  have HAP : Hid (∀ (ops : Array Oper) (rest : List Oper) (o : Oper) (ac : Act) (Q : Exit → Act → World → Prop) (s y : Operand), o.guard = none → o.op = .call { callee := .builtin .append, args := #[s, y], argTypes := #[27, 27] } → ac.eval s = .slice none 0 0 → ac.eval y = .slice a xs.length cap → (∀ v' w', w'.ownsRow w.heap.size 9 1 v' (xs.map (fun s => #[Value.string s])).length (gfl (xs.map (fun s => #[Value.string s]))) → Below w.heap.size w w' → wpList Tryd.prog ops Q rest (ac.put o.dst v') w') → wpList Tryd.prog ops Q (o :: rest) ac w) := fun ops rest o ac Q s y h1 h2 h3 h4 h5 => append_all infoS3 Tryd.underlying27 rfl (by decide) (by decide) h1 h2 h3 (by rw [HLE.out]; exact h4) HL.out H1.out (by rw [HLE.out]; exact HN.out) HC0.out HC.out h5
  clear hform hcap hn
  go_enter Tryd.func30, Tryd.ntmps30
  go_wp2_with (refine HAP.out _ _ _ _ _ _ _ rfl rfl rfl rfl ?_; intro v' w' ho hb)
  go_ret
  refine ⟨_, rfl, ?_, hb, fun q e => (ho.lt q e).1⟩
  have hg := own_gsl (P := fun _ s c => c = #[Value.string s]) (xs := xs) ho HL.out HLE.out HV.out.max (fun i x c hx hc => by
    rw [List.getElem?_map, hx] at hc
    injection hc with hc
    exact hc.symm)
  obtain ⟨⟨a', cap', hv', hc', hf'⟩, hm'⟩ := hg
  refine ⟨⟨a', cap', hv', hc', ?_⟩, hm', HV.out.size⟩
  rcases hf' with h | ⟨b, off, e, h⟩
  · exact .inl h
  · refine .inr ⟨b, off, e, fun j s hs => ?_⟩
    obtain ⟨c, rfl, hcell⟩ := h j s hs
    have := hcell 0 (.string s) rfl
    rw [Nat.mul_one, Nat.add_zero] at this
    exact this
end
end Go.Proofs.YtnpjmanagecpkaaDoor

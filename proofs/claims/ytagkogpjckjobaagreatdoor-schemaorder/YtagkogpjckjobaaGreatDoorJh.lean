import Derived.Test.YtagkogpjckjobaaGreatDoorJg
import Derived.Test.YtagkogpjckjobaaGreatDoorJd
namespace Go.Proofs.YtagkogpjckjobaaGreatDoor
section
open Go.RowKit Go
theorem putL_no {L : List ByteArray} {s : ByteArray} (h : stray L s = false) : putL L s = s :: L := by
  unfold stray at h
  unfold putL
  rw [if_neg (by rw [(Bool.or_eq_false_iff.1 h).1]; decide)]
/-- What fieldsFit has in hand. -/
structure Ffw (w : World) (tc : Array Value) (q B n : Nat) (L : List ByteArray) (q' B' n' : Nat) (L' : List ByteArray) (wx : World) : Prop where
  a : wx.heap[w.heap.size]? = some (.cells tc 29 (0, 0))
  s : Str q B n L wx
  r : Str q' B' n' L' wx
  b : Below w.heap.size w wx
  h1 : w.heap.size < B ∧ w.heap.size < B'
  h2 : B ≠ B' ∧ q ≠ B' ∧ q' ≠ B
theorem Ffw.next {w wx wy : World} {tc : Array Value} {q B n q' B' n' : Nat} {L L' : List ByteArray} (h : Ffw w tc q B n L q' B' n' L' wx) (hb : Below wx.heap.size wx wy) : Ffw w tc q B n L q' B' n' L' wy := ⟨(hb.block _ (blk_lt h.a)).trans h.a, h.s.next hb, h.r.next hb, h.b.trans (hb.mono h.b.size), h.h1, h.h2⟩
theorem Ffw.turn {w wx wy : World} {tc : Array Value} {q B n m q' B' n' : Nat} {L M L' : List ByteArray} (h : Ffw w tc q B n L q' B' n' L' wx) (hk : Kp (fun x => x = B) wx wy) (hs : Str q B m M wy) : Ffw w tc q B m M q' B' n' L' wy := by
  have h1 := h.h1
  have h2 := h.h2
  exact ⟨(hk.block _ (blk_lt h.a) (fun e => by omega)).trans h.a, hs, h.r.kp hk (fun e => h2.2.2 e) (fun e => h2.1 e.symm), h.b.trans (hk.below h.b.size (fun x e => by omega)), h1, h2⟩
theorem Ffw.turn' {w wx wy : World} {tc : Array Value} {q B n m q' B' n' : Nat} {L M L' : List ByteArray} (h : Ffw w tc q B n L q' B' n' L' wx) (hk : Kp (fun x => x = B') wx wy) (hs : Str q' B' m M wy) : Ffw w tc q B n L q' B' m M wy := by
  have h1 := h.h1
  have h2 := h.h2
  exact ⟨(hk.block _ (blk_lt h.a) (fun e => by omega)).trans h.a, h.s.kp hk (fun e => h2.2.1 e) (fun e => h2.1 e), hs, h.b.trans (hk.below h.b.size (fun x e => by omega)), h1, h2⟩
theorem Ffw.tabs {w wx : World} {tc : Array Value} {q B n q' B' n' : Nat} {L L' : List ByteArray} (h : Ffw w tc q B n L q' B' n' L' wx) (hT : ∀ wy, Below w.heap.size w wy → Tabs wy) {X : Nat} (hX : w.heap.size < X) : ∀ wy, Kp (fun x => x = X) wx wy → Tabs wy := fun wy hy => hT wy (h.b.trans (hy.below h.b.size (fun z e => by omega)))
set_option maxRecDepth 1000000 in
set_option maxHeartbeats 1000000 in
theorem fieldsFit_any (w : World) (hT : Tabs w) (t : Tp) (c : Array Value) (hc : Tpi w t c) : Calls Tryz.prog 48 #[.agg c] w fun e w' => e = .returned (.bool (fft t)) ∧ Below w.heap.size w w' := by
  have HT : Hid (∀ wy, Below w.heap.size w wy → Tabs wy) := fun wy hb => hT.next hb
  obtain ⟨⟨vf, vc, vw, rfl, ⟨⟨af, cf, rfl, -, hff⟩, hfm⟩, ⟨⟨ac, cc, rfl, -, hcf⟩, hcm⟩, ⟨⟨aw, cw, rfl, -, -⟩, hwm, -⟩⟩, hbd⟩ := hc
  have HF := hide hff
  unfold tpc
  clear hff hcf hcm hwm hbd hT
  go_enter Tryz.func48, Tryz.ntmps48
  go_upto_region 1 with fail
  have HA1 := hide (heap_alloc_new w (.cells #[.string t.n, .int .i64 t.k, .int .i64 t.lo, .int .i64 t.hi, .string t.r.n, .bool t.r.z, .slice af t.fs.length cf, .slice ac t.cs.length cc, .slice aw t.ws.length cw] 29))
  have HB1 := hide (below_alloc4 w (.cells #[.string t.n, .int .i64 t.k, .int .i64 t.lo, .int .i64 t.hi, .string t.r.n, .bool t.r.z, .slice af t.fs.length cf, .slice ac t.cs.length cc, .slice aw t.ws.length cw] 29))
  have HT1 : Hid ((#[.string t.n, .int .i64 t.k, .int .i64 t.lo, .int .i64 t.hi, .string t.r.n, .bool t.r.z, .slice af t.fs.length cf, .slice ac t.cs.length cc, .slice aw t.ws.length cw] : Array Value)[1]? = some (.int .i64 t.k)) := rfl
  have HT6 : Hid ((#[.string t.n, .int .i64 t.k, .int .i64 t.lo, .int .i64 t.hi, .string t.r.n, .bool t.r.z, .slice af t.fs.length cf, .slice ac t.cs.length cc, .slice aw t.ws.length cw] : Array Value)[6]? = some (.slice af t.fs.length cf)) := rfl
  obtain ⟨tc, htc⟩ : ∃ tc : Array Value, tc = #[.string t.n, .int .i64 t.k, .int .i64 t.lo, .int .i64 t.hi, .string t.r.n, .bool t.r.z, .slice af t.fs.length cf, .slice ac t.cs.length cc, .slice aw t.ws.length cw] := ⟨_, rfl⟩
  rw [← htc] at HA1 HB1 HT1 HT6
  rw [← htc]
  clear htc
  generalize w.alloc (.cells tc 29) = w1 at *
  have q6 : w1.cell? ⟨w.heap.size, 6, none⟩ = some (.slice af t.fs.length cf) := blk_cell (j := 6) HA1.out HT6.out
  by_cases h64 : 64 < t.fs.length
  · as_aux_lemma =>
    have g64 : (64 : Int) < (t.fs.length : Int) := by omega
    have HR : Hid (fft t = false) := by show _ = _; unfold fft; rw [decide_eq_false (by omega)]; rfl
    clear h64
    go_wp2_with fail
    go_ret
    exact ⟨by rw [HR.out]; rfl, HB1.out⟩
  have g64 : ¬ (64 : Int) < (t.fs.length : Int) := by omega
  have HR : Hid (fft t = ffs t.k [] [] false t.fs) := by show _ = _; unfold fft; rw [decide_eq_true (by omega)]; rfl
  have HL64 : Hid (t.fs.length ≤ 64) := by show _ ≤ _; omega
  clear h64
  go_wp2_with fail
  refine (strays_any w1).mono ?_
  rintro e w2 ⟨rfl, hP⟩
  have HS1 := hide hP.out.1
  have HB2 := hide hP.out.2
  clear hP q6
  go_wp2_with fail
  refine (strays_any w2).mono ?_
  rintro e w3 ⟨rfl, hP⟩
  have HX : Hid (Ffw w tc (w1.heap.size + 1) w1.heap.size 0 [] (w2.heap.size + 1) w2.heap.size 0 [] w3) := by
    have hb3 := hP.out.2
    have h5 := blk_lt HA1.out
    have h6 := HS1.out.m.lt
    have h7 := blk_lt HS1.out.q
    have ha2 := (HB2.out.block _ h5).trans HA1.out
    exact ⟨(hb3.block _ (blk_lt ha2)).trans ha2, HS1.out.next hb3, hP.out.1, (HB1.out.trans (HB2.out.mono HB1.out.size)).trans (hb3.mono (Nat.le_trans HB1.out.size HB2.out.size)), ⟨h5, by omega⟩, by omega, by omega, by omega⟩
  clear hP HS1 HB2 HA1 HB1
  generalize w1.heap.size = B at *
  generalize w2.heap.size = B' at *
  generalize B + 1 = q at *
  generalize B' + 1 = q' at *
  have q6 : w3.cell? ⟨w.heap.size, 6, none⟩ = some (.slice af t.fs.length cf) := blk_cell (j := 6) HX.out.a HT6.out
  go_wp2_with fail
  clear q6
  go_loopw [5, 17] (fun vm vi wx => ∃ (i n n' : Nat) (mb : Bool) (L L' : List ByteArray), i ≤ t.fs.length ∧ n ≤ i ∧ n' ≤ i ∧ vm = .bool mb ∧ vi = .int .i64 (i : Nat) ∧ Hid (ffs t.k L L' mb (t.fs.drop i) = fft t) ∧ Hid (Ffw w tc q B n L q' B' n' L' wx)) (fun _ vi _ => t.fs.length - (intOf vi).toNat)
  case atStart => exact ⟨0, 0, 0, false, [], [], by omega, by omega, by omega, rfl, rfl, (by show _ = _; rw [HR.out, List.drop_zero]), HX⟩
  case round =>
    obtain ⟨i, n, n', mb, L, L', hi, hn, hn', rfl, rfl, HE, HXi⟩ := hrel
    clear HX HR
    by_cases hlt : i < t.fs.length
    · as_aux_lemma =>
      have g1 : (i : Int) < (t.fs.length : Int) := by omega
      obtain ⟨f, hf⟩ : ∃ f, t.fs[i]? = some f := ⟨t.fs[i], List.getElem?_eq_getElem hlt⟩
      obtain ⟨b, off, rfl, hcc⟩ := HF.out.resolve_left (fun h => by rw [h] at hlt; simp at hlt)
      obtain ⟨c, ⟨rfl, hz1, hz2, _⟩, hcell⟩ := hcc i f hf
      unfold fdc at hcell
      have HCL : Hid (∀ j u, (#[.string f.n, .string f.k, .string f.r.n, .bool f.r.z, .bool f.m] : Array Value)[j]? = some u → wr.cell? ⟨b, off + i * 5 + j, none⟩ = some u) := fun j u hj => keep_below HXi.out.b _ _ (hcell j u hj)
      have HZ1 := hide hz1
      have HZ2 := hide hz2
      have HD : Hid (t.fs.drop i = f :: t.fs.drop (i + 1)) := by
        show _ = _
        rw [List.drop_eq_getElem_cons hlt]
        rw [List.getElem?_eq_getElem hlt] at hf
        injection hf with hf
        rw [hf]
      rw [HD.out] at HE
      have HX1 := hide (HXi.out.next (below_alloc4 wr (.cells #[.string f.n, .string f.k, .string f.r.n, .bool f.r.z, .bool f.m] 80)))
      have HIF := hide infoFd
      have HAF : Hid (∀ w, (isAgg 80).run Tryz.prog w = .ok true w) := aggFd
      have HNI : Hid (n < 1000000 ∧ n' < 1000000) := by have := HL64.out; show _ ∧ _; omega
      have HFC := hide (heap_alloc_new wr (.cells #[.string f.n, .string f.k, .string f.r.n, .bool f.r.z, .bool f.m] 80))
      have HB0 : Hid (B < wr.heap.size ∧ B' < wr.heap.size) := ⟨HXi.out.s.m.lt, HXi.out.r.m.lt⟩
      clear hcc hcell hf hz1 hz2 HXi HF HD
      go_wp2_with (refine wpList_aggAt rfl rfl HIF.out HAF.out b (off + i * 5) #[.string f.n, .string f.k, .string f.r.n, .bool f.r.z, .bool f.m] rfl rfl HCL.out ?_)
      have HGB : Hid (wr.heap.size ≠ B ∧ wr.heap.size ≠ B') := by
        have h1 := HB0.out.1
        have h2 := HB0.out.2
        show _ ∧ _
        omega
      generalize wr.alloc (.cells #[.string f.n, .string f.k, .string f.r.n, .bool f.r.z, .bool f.m] 80) = wq at *
      generalize wr.heap.size = G at *
      refine (nameable_any f.n wq).mono ?_
      rintro e w4 ⟨rfl, hb4⟩
      have HX4 := hide (HX1.out.next hb4)
      have HF4 := hide ((hb4.block _ (blk_lt HFC.out)).trans HFC.out)
      clear hb4 HX1 HFC HCL
      rcases Bool.eq_false_or_eq_true (nbl f.n) with hnb | hnb
      rotate_left
      · rw [hnb]
        have HR : Hid (fft t = false) := by
          show _ = _
          rw [← HE.out]
          unfold ffs
          rw [hnb]; rfl
        clear HE
        go_wp2_with fail
        go_ret
        exact ⟨by rw [HR.out]; rfl, HX4.out.b⟩
      rw [hnb]
      have c0 : w4.cell? ⟨G, 0, none⟩ = some (.string f.n) := blk_cell (j := 0) HF4.out rfl
      go_wp2_with fail
      refine (stray1_any f.n HZ1.out q B n L w4 HX4.out.s HNI.out.1 (HX4.out.tabs HT.out HX4.out.h1.1)).mono ?_
      rintro e w5 ⟨rfl, hP⟩
      have hk5 := hP.out.2
      have HX5 := hide (HX4.out.turn hk5 hP.out.1)
      have HF5 := hide ((hk5.block _ (blk_lt HF4.out) HGB.out.1).trans HF4.out)
      clear hP hk5 HX4 HF4 c0
      rcases Bool.eq_false_or_eq_true (stray L f.n) with hst | hst
      · rw [hst]
        have HR : Hid (fft t = false) := by
          show _ = _
          rw [← HE.out]
          unfold ffs
          rw [hnb, hst]; rfl
        clear HE
        go_wp2_with fail
        go_ret
        exact ⟨by rw [HR.out]; rfl, HX5.out.b⟩
      rw [hst]
      have q1 : w5.cell? ⟨w.heap.size, 1, none⟩ = some (.int .i64 t.k) := blk_cell (j := 1) HX5.out.a HT1.out
      have c1 : w5.cell? ⟨G, 1, none⟩ = some (.string f.k) := blk_cell (j := 1) HF5.out rfl
      have c4 : w5.cell? ⟨G, 4, none⟩ = some (.bool f.m) := blk_cell (j := 4) HF5.out rfl
      replace HX5 : Hid (Ffw w tc q B (n + 1) (f.n :: L) q' B' n' L' w5) := by
        have h := HX5.out
        rw [putL_no hst] at h
        exact h
      by_cases h5 : t.k = 5
      · have g5 : (t.k == 5) = true := beq_iff_eq.2 h5
        have g6 : (t.k == 6) = false := beq_eq_false_iff_ne.2 (by omega)
        go_wp2_with fail
        refine (stray1_any f.k HZ2.out q' B' n' L' w5 HX5.out.r HNI.out.2 (HX5.out.tabs HT.out HX5.out.h1.2)).mono ?_
        rintro e w6 ⟨rfl, hP⟩
        have hk6 := hP.out.2
        have HX6 := hide (HX5.out.turn' hk6 hP.out.1)
        have HF6 := hide ((hk6.block _ (blk_lt HF5.out) HGB.out.2).trans HF5.out)
        clear hP hk6 HX5 HF5 q1 c1 c4
        rcases Bool.eq_false_or_eq_true (stray L' f.k) with hsk | hsk
        · rw [hsk]
          have HR : Hid (fft t = false) := by
            show _ = _
            rw [← HE.out]
            unfold ffs
            rw [hnb, hst, hsk, decide_eq_true h5]; rfl
          clear HE
          go_wp2_with fail
          go_ret
          exact ⟨by rw [HR.out]; rfl, HX6.out.b⟩
        rw [hsk]
        have q1 : w6.cell? ⟨w.heap.size, 1, none⟩ = some (.int .i64 t.k) := blk_cell (j := 1) HX6.out.a HT1.out
        have c4 : w6.cell? ⟨G, 4, none⟩ = some (.bool f.m) := blk_cell (j := 4) HF6.out rfl
        replace HX6 : Hid (Ffw w tc q B (n + 1) (f.n :: L) q' B' (n' + 1) (f.k :: L') w6) := by
          have h := HX6.out
          rw [putL_no hsk] at h
          exact h
        have HE2 : Hid (ffs t.k (f.n :: L) (f.k :: L') f.m (t.fs.drop (i + 1)) = fft t) := by
          show _ = _
          rw [← HE.out]
          conv => rhs; unfold ffs
          rw [hnb, hst, hsk, decide_eq_true h5, decide_eq_false (show ¬ t.k = 6 by omega), if_pos h5]; rfl
        clear HE
        go_wp2_with fail
        go_roundw
        case rel => exact ⟨i + 1, n + 1, n' + 1, f.m, f.n :: L, (f.k :: L'), by omega, by omega, by omega, rfl, by go_num, HE2, HX6⟩
        case measure => simp [intOf]; omega
      have g5 : (t.k == 5) = false := beq_eq_false_iff_ne.2 h5
      by_cases h6 : t.k = 6
      · have g6 : (t.k == 6) = true := beq_iff_eq.2 h6
        by_cases hk : f.k = ⟨#[]⟩
        rotate_left
        · have gk : (f.k.toList == []) = false := by have := str_no hk; rw [emp_list] at this; exact this
          have HR : Hid (fft t = false) := by
            show _ = _
            rw [← HE.out]
            unfold ffs
            rw [hnb, hst, decide_eq_false h5, decide_eq_true h6, decide_eq_true hk]; rfl
          clear HE
          go_wp2_with fail
          go_ret
          exact ⟨by rw [HR.out]; rfl, HX5.out.b⟩
        have gk : (f.k.toList == []) = true := by rw [hk, emp_list]; rfl
        cases mb with
        | true =>
          rcases Bool.eq_false_or_eq_true f.m with hm | hm
          · rw [hm] at c4
            have HE2 : Hid (ffs t.k (f.n :: L) L' f.m (t.fs.drop (i + 1)) = fft t) := by
              show _ = _
              rw [← HE.out]
              conv => rhs; unfold ffs
              rw [hnb, hst, decide_eq_false h5, decide_eq_true h6, decide_eq_false (not_not_intro hk), if_neg h5, hm]; rfl
            clear HE
            go_wp2_with fail
            go_roundw
            case rel => exact ⟨i + 1, n + 1, n', f.m, f.n :: L, L', by omega, by omega, by omega, (by rw [hm]), by go_num, HE2, HX5⟩
            case measure => simp [intOf]; omega
          · rw [hm] at c4
            have HR : Hid (fft t = false) := by
              show _ = _
              rw [← HE.out]
              unfold ffs
              rw [hnb, hst, decide_eq_false h5, decide_eq_true h6, decide_eq_false (not_not_intro hk), hm]; rfl
            clear HE
            go_wp2_with fail
            go_ret
            exact ⟨by rw [HR.out]; rfl, HX5.out.b⟩
        | false =>
          have HE2 : Hid (ffs t.k (f.n :: L) L' f.m (t.fs.drop (i + 1)) = fft t) := by
            show _ = _
            rw [← HE.out]
            conv => rhs; unfold ffs
            rw [hnb, hst, decide_eq_false h5, decide_eq_true h6, decide_eq_false (not_not_intro hk), if_neg h5]; rfl
          clear HE
          go_wp2_with fail
          go_roundw
          case rel => exact ⟨i + 1, n + 1, n', f.m, f.n :: L, L', by omega, by omega, by omega, rfl, by go_num, HE2, HX5⟩
          case measure => simp [intOf]; omega
      have g6 : (t.k == 6) = false := beq_eq_false_iff_ne.2 h6
      have HE2 : Hid (ffs t.k (f.n :: L) L' f.m (t.fs.drop (i + 1)) = fft t) := by
        show _ = _
        rw [← HE.out]
        conv => rhs; unfold ffs
        rw [hnb, hst, decide_eq_false h5, decide_eq_false h6, if_neg h5]; rfl
      clear HE
      go_wp2_with fail
      go_roundw
      case rel => exact ⟨i + 1, n + 1, n', f.m, f.n :: L, L', by omega, by omega, by omega, rfl, by go_num, HE2, HX5⟩
      case measure => simp [intOf]; omega
    · as_aux_lemma =>
      have g1 : ¬ (i : Int) < (t.fs.length : Int) := by omega
      have HR : Hid (fft t = true) := by
        show _ = _
        rw [← HE.out, List.drop_of_length_le (by omega)]
        rfl
      clear HE
      go_wp2_with fail
      go_ret
      exact ⟨by rw [HR.out]; rfl, HXi.out.b⟩
end
section
open Go.RowKit Go
/-- A book's and a type's own copies. -/
structure Bt (w : World) (bk tc : Array Value) (wx : World) : Prop where
  a : wx.heap[w.heap.size]? = some (.cells bk 55 (0, 0))
  t : wx.heap[w.heap.size + 1]? = some (.cells tc 29 (0, 0))
  b : Below w.heap.size w wx
theorem Bt.start (w : World) (bk tc : Array Value) : Bt w bk tc ((w.alloc (.cells bk 55)).alloc (.cells tc 29)) := by
  have h1 := heap_alloc_new w (.cells bk 55)
  have e1 : (w.alloc (.cells bk 55)).heap.size = w.heap.size + 1 := by simp
  have h2 := heap_alloc_new (w.alloc (.cells bk 55)) (.cells tc 29)
  rw [e1] at h2
  exact ⟨blk_alloc _ h1, h2, (below_alloc4 w _).trans ((below_alloc4 _ _).mono (below_alloc4 w _).size)⟩
theorem Bt.next {w wx wy : World} {bk tc : Array Value} (h : Bt w bk tc wx) (hb : Below wx.heap.size wx wy) : Bt w bk tc wy := ⟨(hb.block _ (blk_lt h.a)).trans h.a, (hb.block _ (blk_lt h.t)).trans h.t, h.b.trans (hb.mono h.b.size)⟩
theorem Bt.bc {w wx : World} {bk tc : Array Value} (h : Bt w bk tc wx) : ∀ j u, bk[j]? = some u → wx.cell? ⟨w.heap.size, 0 + j, none⟩ = some u := fun j u hu => by rw [Nat.zero_add]; exact blk_cell h.a hu
theorem Bt.tc {w wx : World} {bk tc : Array Value} (h : Bt w bk tc wx) : ∀ j u, tc[j]? = some u → wx.cell? ⟨w.heap.size + 1, 0 + j, none⟩ = some u := fun j u hu => by rw [Nat.zero_add]; exact blk_cell h.t hu
theorem rfs_size {w : World} {t : Tp} {c : Array Value} (hc : Tpi w t c) : ∀ r ∈ rfs t, r.n.size ≤ 140737488351232 := fun r hr => by
  obtain ⟨⟨vf, vc, vw, _, ⟨⟨_, _, _, _, hff⟩, _⟩, ⟨⟨_, _, _, _, hcf⟩, _⟩, _⟩, hbd⟩ := hc
  unfold rfs at hr
  rcases List.mem_append.1 hr with hr | hr
  · rcases List.mem_append.1 hr with hr | hr
    · split at hr
      · rw [List.mem_singleton.1 hr]; exact hbd.r
      · cases hr
    · obtain ⟨f, hf, rfl⟩ := List.mem_map.1 hr
      obtain ⟨i, hi, e⟩ := List.getElem_of_mem hf
      rcases hff with h | ⟨b, off, _, h⟩
      · rw [h] at hf; cases hf
      · obtain ⟨_, ⟨_, _, _, h3⟩, _⟩ := h i f (by rw [List.getElem?_eq_getElem hi, e])
        exact h3
  · obtain ⟨x, hx, rfl⟩ := List.mem_map.1 hr
    obtain ⟨i, hi, e⟩ := List.getElem_of_mem hx
    rcases hcf with h | ⟨b, off, _, h⟩
    · rw [h] at hx; cases hx
    · obtain ⟨_, ⟨_, _, h3⟩, _⟩ := h i x (by rw [List.getElem?_eq_getElem hi, e])
      exact h3
theorem any_map_range {α : Type} (l : List α) (d : α) (f : α → Bool) : l.any f = (List.range l.length).any fun i => f (l.getD i d) := by
  induction l with
  | nil => rfl
  | cons x r ih =>
    rw [List.length_cons, any_range, List.any_cons, ih]
    simp only [List.getD_cons_zero, List.getD_cons_succ]
set_option maxRecDepth 1000000 in
set_option maxHeartbeats 1000000 in
theorem alone_wid (w : World) (hT : Tabs w) (hO : Otb w) (vt : Value) (B : Nat) (l : List Tp) (hB : Sbok w vt B l) (i : Nat) (t : Tp) (ht : l[i]? = some t) (hfc : tdy t = true → t.fs.length + t.cs.length + 1 ≤ 5864062014805) : Calls Tryz.prog 27 #[.agg #[vt, .map (some B)], .int .i64 (i : Nat)] w fun e w' => e = .returned (.int .i64 (aln l i t : Nat)) ∧ Below w.heap.size w w' := by
  have HT : Hid (∀ wy, Below w.heap.size w wy → Tabs wy) := fun wy hb => hT.next hb
  have HO : Hid (∀ wy, Below w.heap.size w wy → Otb wy) := fun wy hb => hO.next (keep_below hb)
  have HB := hide hB
  have hmax := hB.t.max
  have hil : i < l.length := (List.getElem?_eq_some_iff.1 ht).1
  obtain ⟨⟨⟨a, cap, rfl, _, hform⟩, _⟩, _⟩ := hB
  have g1 : (i : Int) < (l.length : Int) := by omega
  obtain ⟨b, off, rfl, hcc⟩ := hform.resolve_left (fun h => by rw [h] at hil; simp at hil)
  obtain ⟨c, hc, hcell⟩ := hcc i t ht
  have HC := hide hc
  have HRZ := hide (rfs_size hc)
  obtain ⟨⟨vf, vc, vw, rfl, ⟨⟨af, cf, rfl, -, hff⟩, hfm⟩, ⟨⟨ac, cc, rfl, -, hcf⟩, hcm⟩, ⟨⟨aw, cw, rfl, -, -⟩, hwm, -⟩⟩, hbd⟩ := hc
  have HNZ := hide hbd.n
  have hlo := hbd.lo
  have hhi := hbd.hi
  unfold tpc at hcell HC
  have HCL : Hid (∀ wx, Below w.heap.size w wx → ∀ j u, (#[.string t.n, .int .i64 t.k, .int .i64 t.lo, .int .i64 t.hi, .string t.r.n, .bool t.r.z, .slice af t.fs.length cf, .slice ac t.cs.length cc, .slice aw t.ws.length cw] : Array Value)[j]? = some u → wx.cell? ⟨b, off + i * 9 + j, none⟩ = some u) := fun wx hx j u hj => keep_below hx _ _ (hcell j u hj)
  have HCI : Hid (∀ wx, Below w.heap.size w wx → Tpi wx t #[.string t.n, .int .i64 t.k, .int .i64 t.lo, .int .i64 t.hi, .string t.r.n, .bool t.r.z, .slice af t.fs.length cf, .slice ac t.cs.length cc, .slice aw t.ws.length cw]) := fun wx hx => HC.out.move (keep_below hx)
  have HBI : Hid (∀ wx, Below w.heap.size w wx → Sbok wx (.slice (some ⟨b, off, none⟩) l.length cap) B l) := fun wx hx => HB.out.next hx
  have HFC := hide hfc
  have HIT := hide infoTp
  have HAT : Hid (∀ w, (isAgg 29).run Tryz.prog w = .ok true w) := aggTp
  have HIB := hide infoBk
  have HAB : Hid (∀ w, (isAgg 55).run Tryz.prog w = .ok true w) := aggBk
  have HX := hide (Bt.start w #[.slice (some ⟨b, off, none⟩) l.length cap, .map (some B)] #[.string t.n, .int .i64 t.k, .int .i64 t.lo, .int .i64 t.hi, .string t.r.n, .bool t.r.z, .slice af t.fs.length cf, .slice ac t.cs.length cc, .slice aw t.ws.length cw])
  have hb0 := below_alloc4 w (.cells #[.slice (some ⟨b, off, none⟩) l.length cap, .map (some B)] 55)
  have HC0 := hide (HCL.out _ hb0)
  have q0 : (w.alloc (.cells #[.slice (some ⟨b, off, none⟩) l.length cap, .map (some B)] 55)).cell? ⟨w.heap.size, 0, none⟩ = some (.slice (some ⟨b, off, none⟩) l.length cap) := blk_cell (j := 0) (heap_alloc_new w _) rfl
  clear hform hcc hcell hff hfm hcf hcm hwm hbd hT hO hb0 ht hil HC HB hfc
  go_enter Tryz.func27, Tryz.ntmps27
  go_upto_region 2 with (refine wpList_aggAt rfl rfl HIT.out HAT.out b (off + i * 9) #[.string t.n, .int .i64 t.k, .int .i64 t.lo, .int .i64 t.hi, .string t.r.n, .bool t.r.z, .slice af t.fs.length cf, .slice ac t.cs.length cc, .slice aw t.ws.length cw] rfl rfl HC0.out ?_)
  (try simp only [Act.put]); (try simp only [List.setIfInBounds_toArray, List.set_cons_zero, List.set_cons_succ])
  generalize (w.alloc (.cells #[.slice (some ⟨b, off, none⟩) l.length cap, .map (some B)] 55)).alloc (.cells #[.string t.n, .int .i64 t.k, .int .i64 t.lo, .int .i64 t.hi, .string t.r.n, .bool t.r.z, .slice af t.fs.length cf, .slice ac t.cs.length cc, .slice aw t.ws.length cw] 29) = w1 at *
  clear q0 HC0 HCL
  have c0 : w1.cell? ⟨w.heap.size + 1, 0, none⟩ = some (.string t.n) := blk_cell (j := 0) HX.out.t rfl
  go_wp2_with fail
  refine (nameable_any t.n w1).mono ?_
  rintro e w2 ⟨rfl, hb⟩
  replace HX := hide (HX.out.next hb)
  clear hb c0
  rcases Bool.eq_false_or_eq_true (nbl t.n) with hnb | hnb
  rotate_left
  · as_aux_lemma =>
    rw [hnb]
    have HR : Hid (aln l i t = 111) := by
      show _ = _
      unfold aln
      rw [hnb]; rfl
    go_wp2_with fail
    go_ret
    exact ⟨by rw [HR.out]; rfl, HX.out.b⟩
  rw [hnb]
  have c0 : w2.cell? ⟨w.heap.size + 1, 0, none⟩ = some (.string t.n) := blk_cell (j := 0) HX.out.t rfl
  have HCB := hide HX.out.bc
  go_wp2_with (refine wpList_aggAt rfl rfl HIB.out HAB.out w.heap.size 0 #[.slice (some ⟨b, off, none⟩) l.length cap, .map (some B)] rfl rfl HCB.out ?_)
  refine (taken_any w2 (HO.out w2 HX.out.b) _ B l (HBI.out w2 HX.out.b) t.n HNZ.out i).mono ?_
  rintro e w3 ⟨rfl, hb⟩
  replace HX := hide (HX.out.next hb)
  clear hb c0 HCB
  rcases Bool.eq_false_or_eq_true ((ownK t.n).isSome || decide ((plc l t.n).getD 0 < i)) with htk | htk
  · as_aux_lemma =>
    rw [htk]
    have HR : Hid (aln l i t = 111) := by
      show _ = _
      unfold aln
      rw [hnb, Bool.not_true, Bool.false_or, htk]; rfl
    go_wp2_with fail
    go_ret
    exact ⟨by rw [HR.out]; rfl, HX.out.b⟩
  rw [htk]
  have HTC := hide HX.out.tc
  go_wp2_with (refine wpList_aggAt rfl rfl HIT.out HAT.out (w.heap.size + 1) 0 #[.string t.n, .int .i64 t.k, .int .i64 t.lo, .int .i64 t.hi, .string t.r.n, .bool t.r.z, .slice af t.fs.length cf, .slice ac t.cs.length cc, .slice aw t.ws.length cw] rfl rfl HTC.out ?_)
  refine (tidy_any w3 t _ (HCI.out w3 HX.out.b)).mono ?_
  rintro e w4 ⟨rfl, hb⟩
  replace HX := hide (HX.out.next hb)
  clear hb HTC
  rcases Bool.eq_false_or_eq_true (tdy t) with htd | htd
  rotate_left
  · as_aux_lemma =>
    rw [htd]
    have HR : Hid (aln l i t = 112) := by
      show _ = _
      unfold aln
      rw [hnb, Bool.not_true, Bool.false_or, htk, htd]; rfl
    go_wp2_with fail
    go_ret
    exact ⟨by rw [HR.out]; rfl, HX.out.b⟩
  rw [htd]
  have c1 : w4.cell? ⟨w.heap.size + 1, 1, none⟩ = some (.int .i64 t.k) := blk_cell (j := 1) HX.out.t rfl
  have c2 : w4.cell? ⟨w.heap.size + 1, 2, none⟩ = some (.int .i64 t.lo) := blk_cell (j := 2) HX.out.t rfl
  have c3 : w4.cell? ⟨w.heap.size + 1, 3, none⟩ = some (.int .i64 t.hi) := blk_cell (j := 3) HX.out.t rfl
  go_upto_region 6 with fail
  go_cut [27] from 28 to 43 (fun v wx => v = .bool (decide (t.lo > t.hi ∨ (t.lo < 0 ∧ t.k ≠ 2))) ∧ wx = w4)
  case first =>
    as_aux_lemma =>
    by_cases hlh : t.hi < t.lo
    · have HI : Hid (decide (t.lo > t.hi ∨ (t.lo < 0 ∧ t.k ≠ 2)) = true) := decide_eq_true (.inl hlh)
      go_wp2_with fail
      go_meet
      case rel => exact ⟨by rw [HI.out], rfl⟩
    by_cases hl0 : t.lo < 0
    · obtain ⟨kb, hkb⟩ : ∃ kb, kb = decide (t.k ≠ 2) := ⟨_, rfl⟩
      have gk : (t.k != 2) = kb := by rw [hkb, Bool.eq_iff_iff, bne_iff_ne, decide_eq_true_eq]
      have HI : Hid (decide (t.lo > t.hi ∨ (t.lo < 0 ∧ t.k ≠ 2)) = kb) := by
        show _ = _
        rw [hkb, Bool.eq_iff_iff, decide_eq_true_eq, decide_eq_true_eq]
        exact ⟨fun h => h.elim (fun h => absurd h hlh) (fun h => h.2), fun h => .inr ⟨hl0, h⟩⟩
      clear hkb
      go_wp2_with fail
      go_meet
      case rel => exact ⟨by rw [HI.out], rfl⟩
    · have HI : Hid (decide (t.lo > t.hi ∨ (t.lo < 0 ∧ t.k ≠ 2)) = false) := decide_eq_false (fun h => h.elim hlh (fun h => hl0 h.1))
      go_wp2_with fail
      go_meet
      case rel => exact ⟨by rw [HI.out], rfl⟩
  obtain ⟨rfl, hww⟩ := hcut
  have hww := hww.symm
  subst hww
  clear c1 c2 c3
  by_cases hrg : t.lo > t.hi ∨ (t.lo < 0 ∧ t.k ≠ 2)
  · as_aux_lemma =>
    rw [decide_eq_true hrg]
    have HR : Hid (aln l i t = 113) := by
      show _ = _
      unfold aln
      rw [hnb, Bool.not_true, Bool.false_or, htk, htd, if_neg (by decide), if_neg (by decide), if_pos hrg]
    go_wp2_with fail
    go_ret
    exact ⟨by rw [HR.out]; rfl, HX.out.b⟩
  rw [decide_eq_false hrg]
  go_upto_region 8 with fail
  refine heldStart (S := Bt w #[.slice (some ⟨b, off, none⟩) l.length cap, .map (some B)] #[.string t.n, .int .i64 t.k, .int .i64 t.lo, .int .i64 t.hi, .string t.r.n, .bool t.r.z, .slice af t.fs.length cf, .slice ac t.cs.length cc, .slice aw t.ws.length cw]) (by kernel_rfl) ?_
  have hb : Below w4.heap.size w4 w4.drew := by
    refine Below.drew ?_
    exact Below.refl _ _
  replace HX := hide (HX.out.next hb)
  have hS := HX.out
  clear hb
  generalize w4.drew = w5 at *
  refine heldTake 0 _ rfl (by kernel_rfl) (by kernel_rfl) (by kernel_rfl) (fun _ _ _ h => h) rfl hS (fun wy hy => exec_aggAt (g := w.heap.size + 1) (off := 0) HIT.out HAT.out rfl rfl rfl hy.tc) ?_
  (try simp only [Act.put]); (try simp only [List.setIfInBounds_toArray, List.set_cons_zero, List.set_cons_succ])
  refine heldTake 2 _ rfl (by kernel_rfl) (by kernel_rfl) (by kernel_rfl) (fun _ _ _ h => h) rfl hS (fun wy hy => exec_aggAt (g := w.heap.size) (off := 0) HIB.out HAB.out rfl rfl rfl hy.bc) ?_
  (try simp only [Act.put]); (try simp only [List.setIfInBounds_toArray, List.set_cons_zero, List.set_cons_succ])
  refine heldTake 3 _ rfl (by kernel_rfl) (by kernel_rfl) (by kernel_rfl) (fun _ _ _ h => h) rfl hS (fun wy hy => by first | (go_simp; done) | (go_simp; rfl) | rfl) ?_
  (try simp only [Act.put]); (try simp only [List.setIfInBounds_toArray, List.set_cons_zero, List.set_cons_succ])
  refine heldStep 1 rfl (by kernel_rfl) (fun K hK => ?_)
  go_simp
  refine (references_wid w5 t _ (HCI.out w5 HX.out.b) (HFC.out htd)).mono ?_
  rintro e w6 ⟨v, rfl, hP⟩
  have HRS := hide hP.out.1
  replace HX := hide (HX.out.next hP.out.2)
  refine (Hid.out hK) _ _ (HX.out) (fun hS2 => ?_)
  clear hK K hS
  have hS := hS2
  clear hS2
  (try simp only [Act.put]); (try simp only [List.setIfInBounds_toArray, List.set_cons_zero, List.set_cons_succ])
  clear hP
  refine heldStep 4 rfl (by kernel_rfl) (fun K hK => ?_)
  go_simp
  refine (containsLost_any w6 v (rfs t) HRS.out (.slice (some ⟨b, off, none⟩) l.length cap) B (fun j => !(fnd l ((rfs t).getD j zrf).n).2) (fun _ wx => Below w6.heap.size w6 wx) (Below.refl _ _) (fun j wx hI => RSl.mv HRS.out (keep_below hI)) (fun j x wx hx hI => by
    have hbw : Below w.heap.size w wx := HX.out.b.trans (hI.mono HX.out.b.size)
    refine (lost_any wx (HO.out wx hbw) _ B l (HBI.out wx hbw) x (HRZ.out x (List.mem_of_getElem? hx))).mono ?_
    rintro e w' ⟨rfl, hb⟩
    exact ⟨by simp only [List.getD, hx]; rfl, hI.trans (hb.mono hI.size)⟩)).mono ?_
  rintro e w7 ⟨rfl, hI⟩
  have HX7 : Hid (Bt w #[.slice (some ⟨b, off, none⟩) l.length cap, .map (some B)] #[.string t.n, .int .i64 t.k, .int .i64 t.lo, .int .i64 t.hi, .string t.r.n, .bool t.r.z, .slice af t.fs.length cf, .slice ac t.cs.length cc, .slice aw t.ws.length cw] w7) := by
    obtain ⟨_, hI⟩ := hI.out
    exact HX.out.next hI
  replace HX := HX7
  have HAR : Hid ((rfs t).any (fun r => !(fnd l r.n).2) = (List.range (rfs t).length).any fun j => !(fnd l ((rfs t).getD j zrf).n).2) := any_map_range (rfs t) zrf (fun r => !(fnd l r.n).2)
  generalize (List.range (rfs t).length).any (fun j => !(fnd l ((rfs t).getD j zrf).n).2) = ab at *
  refine (Hid.out hK) _ _ (HX.out) (fun hS2 => ?_)
  clear hK K hS
  have hS := hS2
  clear hS2
  (try simp only [Act.put]); (try simp only [List.setIfInBounds_toArray, List.set_cons_zero, List.set_cons_succ])
  clear hI HX7 HRS
  refine heldTake 5 _ rfl (by kernel_rfl) (by kernel_rfl) (by kernel_rfl) (fun _ _ _ h => h) rfl hS (fun wy hy => by first | (go_simp; done) | (go_simp; rfl) | rfl) ?_
  (try simp only [Act.put]); (try simp only [List.setIfInBounds_toArray, List.set_cons_zero, List.set_cons_succ])
  refine heldDone (by kernel_rfl) ?_
  clear hS
  rcases Bool.eq_false_or_eq_true ab with hab | hab
  · as_aux_lemma =>
    rw [hab]
    rw [hab] at HAR
    have HR : Hid (aln l i t = 114) := by
      show _ = _
      unfold aln
      rw [hnb, Bool.not_true, Bool.false_or, htk, htd, if_neg (by decide), if_neg (by decide), if_neg hrg, if_pos HAR.out]
    go_wp2_with fail
    go_ret
    exact ⟨by rw [HR.out]; rfl, HX.out.b⟩
  rw [hab]
  rw [hab] at HAR
  have HTC := hide HX.out.tc
  go_wp2_with (refine wpList_aggAt rfl rfl HIT.out HAT.out (w.heap.size + 1) 0 #[.string t.n, .int .i64 t.k, .int .i64 t.lo, .int .i64 t.hi, .string t.r.n, .bool t.r.z, .slice af t.fs.length cf, .slice ac t.cs.length cc, .slice aw t.ws.length cw] rfl rfl HTC.out ?_)
  refine (fieldsFit_any w7 (HT.out w7 HX.out.b) t _ (HCI.out w7 HX.out.b)).mono ?_
  rintro e w8 ⟨rfl, hb⟩
  replace HX := hide (HX.out.next hb)
  clear hb HTC
  rcases Bool.eq_false_or_eq_true (fft t) with hff | hff
  rotate_left
  · as_aux_lemma =>
    rw [hff]
    have HR : Hid (aln l i t = 115) := by
      show _ = _
      unfold aln
      rw [hnb, Bool.not_true, Bool.false_or, htk, htd, if_neg (by decide), if_neg (by decide), if_neg hrg, HAR.out, if_neg (by decide), hff]; rfl
    go_wp2_with fail
    go_ret
    exact ⟨by rw [HR.out]; rfl, HX.out.b⟩
  rw [hff]
  have HTC := hide HX.out.tc
  go_wp2_with (refine wpList_aggAt rfl rfl HIT.out HAT.out (w.heap.size + 1) 0 #[.string t.n, .int .i64 t.k, .int .i64 t.lo, .int .i64 t.hi, .string t.r.n, .bool t.r.z, .slice af t.fs.length cf, .slice ac t.cs.length cc, .slice aw t.ws.length cw] rfl rfl HTC.out ?_)
  refine (casesFit_any w8 (HT.out w8 HX.out.b) t _ (HCI.out w8 HX.out.b)).mono ?_
  rintro e w9 ⟨rfl, hb⟩
  replace HX := hide (HX.out.next hb)
  clear hb HTC
  rcases Bool.eq_false_or_eq_true (cft t) with hcf | hcf
  rotate_left
  · as_aux_lemma =>
    rw [hcf]
    have HR : Hid (aln l i t = 116) := by
      show _ = _
      unfold aln
      rw [hnb, Bool.not_true, Bool.false_or, htk, htd, if_neg (by decide), if_neg (by decide), if_neg hrg, HAR.out, if_neg (by decide), hff, hcf]; rfl
    go_wp2_with fail
    go_ret
    exact ⟨by rw [HR.out]; rfl, HX.out.b⟩
  · as_aux_lemma =>
    rw [hcf]
    have HR : Hid (aln l i t = 0) := by
      show _ = _
      unfold aln
      rw [hnb, Bool.not_true, Bool.false_or, htk, htd, if_neg (by decide), if_neg (by decide), if_neg hrg, HAR.out, if_neg (by decide), hff, hcf]; rfl
    go_wp2_with fail
    go_ret
    exact ⟨by rw [HR.out]; rfl, HX.out.b⟩
end
section
open Go.RowKit Go
theorem eqend (w : World) (s : ByteArray) (z : Bool) : (Op.equalIn 10000 93 (.agg #[.string s, .bool z]) (.agg #[.string ⟨#[]⟩, .bool false])).run Tryz.prog w = .ok (decide (s = ⟨#[]⟩ ∧ z = false)) w := by
  have u3 := Tryz.underlying9
  have u27 := Tryz.underlying4
  have a3 := Tryz.isAgg9
  have a27 := Tryz.isAgg4
  have z3 := Tryz.sizeOf9
  have z27 := Tryz.sizeOf4
  have hS : Tryz.prog.underlying 93 = some (.struct (Tryz.prog.fieldsOf 93)) := by kernel_rfl
  have hp : Tryz.prog.stoodInHeld 93 = false := by kernel_rfl
  rw [show (10000 : Nat) = 9999 + 1 from rfl, run_equalIn_agg w 9999 93 _ _ hS hp]
  simp only [Program.fieldsOf, Tryz.underlying93]
  by_cases h1 : s = ⟨#[]⟩
  · subst h1
    cases z <;> (go_simp; try simp)
  · have g : (s.toList == []) = false := by have := str_no h1; rw [emp_list] at this; exact this
    cases z <;> (go_simp; try simp [h1])
theorem eqgE : Tryz.prog.eqGuardType Tryz.prog.depth 93 = false := by kernel_rfl
theorem exec_eqend {o : Oper} {a : Act} {x y : Operand} {T2 : TypeId} {s : ByteArray} {z : Bool} {w : World} (ho : o.op = .binOp .eql 93 x y T2) (hx : a.eval x = .agg #[.string s, .bool z]) (hy : a.eval y = .agg #[.string ⟨#[]⟩, .bool false]) : (execOp a.eval o).run Tryz.prog w = .ok (.value (.bool (decide (s = ⟨#[]⟩ ∧ z = false)))) w := by
  unfold execOp
  simp only [ho, Sem.run_bind, hx, hy, run_eqGuard_agg w _ 93 x y _ _ eqgE, run_eql_struct, eqend, Result.andThen_ok]
  rfl
/-- A book's own copy. -/
structure Bo (w : World) (bk : Array Value) (wx : World) : Prop where
  a : wx.heap[w.heap.size]? = some (.cells bk 55 (0, 0))
  b : Below w.heap.size w wx
theorem Bo.next {w wx wy : World} {bk : Array Value} (h : Bo w bk wx) (hb : Below wx.heap.size wx wy) : Bo w bk wy := ⟨(hb.block _ (blk_lt h.a)).trans h.a, h.b.trans (hb.mono h.b.size)⟩
theorem Bo.bc {w wx : World} {bk : Array Value} (h : Bo w bk wx) : ∀ j u, bk[j]? = some u → wx.cell? ⟨w.heap.size, 0 + j, none⟩ = some u := fun j u hu => by rw [Nat.zero_add]; exact blk_cell h.a hu
set_option maxRecDepth 1000000 in
set_option maxHeartbeats 1000000 in
theorem ring_any (w : World) (hO : Otb w) (vt : Value) (B : Nat) (l : List Tp) (hB : Sbok w vt B l) (hl : ∀ t ∈ l, t.r.n.size ≤ 140737488351232) (i : Nat) (t : Tp) (ht : l[i]? = some t) : Calls Tryz.prog 28 #[.agg #[vt, .map (some B)], .int .i64 (i : Nat)] w fun e w' => e = .returned (.int .i64 (rng l t : Nat)) ∧ Below w.heap.size w w' := by
  have HO : Hid (∀ wy, Below w.heap.size w wy → Otb wy) := fun wy hb => hO.next (keep_below hb)
  have HB := hide hB
  have HL := hide hl
  have hmax := hB.t.max
  have hil : i < l.length := (List.getElem?_eq_some_iff.1 ht).1
  obtain ⟨⟨⟨a, cap, rfl, _, hform⟩, _⟩, _⟩ := hB
  have g1 : (i : Int) < (l.length : Int) := by omega
  obtain ⟨b, off, rfl, hcc⟩ := hform.resolve_left (fun h => by rw [h] at hil; simp at hil)
  obtain ⟨c, hc, hcell⟩ := hcc i t ht
  have HNZ := hide hc.b.n
  have HCN : Hid (∀ wx, Below w.heap.size w wx → wx.cell? ⟨b, off + i * 9, none⟩ = some (.string t.n)) := fun wx hx => by
    have h := keep_below hx _ _ (hcell 0 (.string t.n) (by obtain ⟨⟨_, _, _, rfl, _⟩, _⟩ := hc; rfl))
    exact h
  have HX : Hid (Bo w #[.slice (some ⟨b, off, none⟩) l.length cap, .map (some B)] (w.alloc (.cells #[.slice (some ⟨b, off, none⟩) l.length cap, .map (some B)] 55))) := ⟨heap_alloc_new w _, below_alloc4 w _⟩
  have HIB := hide infoBk
  have HAB : Hid (∀ w, (isAgg 55).run Tryz.prog w = .ok true w) := aggBk
  have HBI : Hid (∀ wx, Below w.heap.size w wx → Sbok wx (.slice (some ⟨b, off, none⟩) l.length cap) B l) := fun wx hx => HB.out.next hx
  clear hform hcc hcell hc hO ht hil HB hl
  go_enter Tryz.func28, Tryz.ntmps28
  go_upto_region 1 with fail
  generalize w.alloc (.cells #[.slice (some ⟨b, off, none⟩) l.length cap, .map (some B)] 55) = w1 at *
  refine heldStart (S := Bo w #[.slice (some ⟨b, off, none⟩) l.length cap, .map (some B)]) (by kernel_rfl) ?_
  have hb : Below w1.heap.size w1 w1.drew := by
    refine Below.drew ?_
    exact Below.refl _ _
  replace HX := hide (HX.out.next hb)
  have hS := HX.out
  clear hb
  generalize w1.drew = w5 at *
  refine heldTake 0 _ rfl (by kernel_rfl) (by kernel_rfl) (by kernel_rfl) (fun _ _ _ h => h) rfl hS (fun wy hy => exec_aggAt (g := w.heap.size) (off := 0) HIB.out HAB.out rfl rfl rfl hy.bc) ?_
  (try simp only [Act.put]); (try simp only [List.setIfInBounds_toArray, List.set_cons_zero, List.set_cons_succ])
  refine heldTake 1 _ rfl (by kernel_rfl) (by kernel_rfl) (by kernel_rfl) (fun _ _ _ h => h) rfl hS (fun wy hy => by first | (go_simp; done) | (go_simp; rfl) | rfl) ?_
  (try simp only [Act.put]); (try simp only [List.setIfInBounds_toArray, List.set_cons_zero, List.set_cons_succ])
  refine heldTake 2 _ rfl (by kernel_rfl) (by kernel_rfl) (by kernel_rfl) (fun _ _ _ h => h) rfl hS (fun wy hy => by have h0 : wy.cell? ⟨w.heap.size, 0, none⟩ = some (.slice (some ⟨b, off, none⟩) l.length cap) := blk_cell (j := 0) hy.a rfl; first | (go_simp; done) | (go_simp; rfl)) ?_
  (try simp only [Act.put]); (try simp only [List.setIfInBounds_toArray, List.set_cons_zero, List.set_cons_succ])
  refine heldTake 3 _ rfl (by kernel_rfl) (by kernel_rfl) (by kernel_rfl) (fun _ _ _ h => h) rfl hS (fun wy hy => by first | (go_simp; done) | (go_simp; rfl) | rfl) ?_
  (try simp only [Act.put]); (try simp only [List.setIfInBounds_toArray, List.set_cons_zero, List.set_cons_succ])
  refine heldTake 4 _ rfl (by kernel_rfl) (by kernel_rfl) (by kernel_rfl) (fun _ _ _ h => h) rfl hS (fun wy hy => by first | (go_simp; done) | (go_simp; rfl)) ?_
  (try simp only [Act.put]); (try simp only [List.setIfInBounds_toArray, List.set_cons_zero, List.set_cons_succ])
  refine heldTake 5 _ rfl (by kernel_rfl) (by kernel_rfl) (by kernel_rfl) (fun _ _ _ h => h) rfl hS (fun wy hy => by first | (go_simp; done) | (go_simp; rfl)) ?_
  (try simp only [Act.put]); (try simp only [List.setIfInBounds_toArray, List.set_cons_zero, List.set_cons_succ])
  refine heldTake 6 _ rfl (by kernel_rfl) (by kernel_rfl) (by kernel_rfl) (fun _ _ _ h => h) rfl hS (fun wy hy => by have h0 := HCN.out wy hy.b; first | (go_simp; done) | (go_simp; rfl)) ?_
  (try simp only [Act.put]); (try simp only [List.setIfInBounds_toArray, List.set_cons_zero, List.set_cons_succ])
  refine heldTake 8 _ rfl (by kernel_rfl) (by kernel_rfl) (by kernel_rfl) (fun _ _ _ h => h) rfl hS (fun wy hy => by first | (go_simp; done) | (go_simp; rfl) | rfl) ?_
  (try simp only [Act.put]); (try simp only [List.setIfInBounds_toArray, List.set_cons_zero, List.set_cons_succ])
  refine heldStep 7 rfl (by kernel_rfl) (fun K hK => ?_)
  go_simp
  refine (follow_any w5 (HO.out w5 HX.out.b) _ B l (HBI.out w5 HX.out.b) HL.out t.n HNZ.out).mono ?_
  rintro e w6 ⟨rfl, hb⟩
  replace HX := hide (HX.out.next hb)
  refine (Hid.out hK) _ _ (HX.out) (fun hS2 => ?_)
  clear hK K hS
  have hS := hS2
  clear hS2
  (try simp only [Act.put]); (try simp only [List.setIfInBounds_toArray, List.set_cons_zero, List.set_cons_succ])
  clear hb
  refine heldTake 9 _ rfl (by kernel_rfl) (by kernel_rfl) (by kernel_rfl) (fun _ _ _ h => h) rfl hS (fun wy hy => exec_eqend rfl rfl rfl) ?_
  (try simp only [Act.put]); (try simp only [List.setIfInBounds_toArray, List.set_cons_zero, List.set_cons_succ])
  refine heldDone (by kernel_rfl) ?_
  clear hS
  by_cases hr : (flo l t.n).1 = ⟨#[]⟩ ∧ (flo l t.n).2 = false
  · as_aux_lemma =>
    have HR : Hid (rng l t = 117) := by
      show _ = _
      unfold rng
      rw [if_pos (Prod.ext hr.1 hr.2)]
    rw [decide_eq_true hr]
    go_wp2_with fail
    go_ret
    exact ⟨by rw [HR.out]; rfl, HX.out.b⟩
  · as_aux_lemma =>
    have HR : Hid (rng l t = 0) := by
      show _ = _
      unfold rng
      rw [if_neg (fun h => hr ⟨by rw [h], by rw [h]⟩)]
    rw [decide_eq_false hr]
    go_wp2_with fail
    go_ret
    exact ⟨by rw [HR.out]; rfl, HX.out.b⟩
end
end Go.Proofs.YtagkogpjckjobaaGreatDoor

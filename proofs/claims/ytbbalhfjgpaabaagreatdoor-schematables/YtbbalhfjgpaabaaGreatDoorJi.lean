import Derived.Test.YtbbalhfjgpaabaaGreatDoorJh
import Derived.Test.YtbbalhfjgpaabaaGreatDoorJc
import Derived.Test.YtbbalhfjgpaabaaGreatDoorJg
namespace Go.Proofs.YtbbalhfjgpaabaaGreatDoor
section
open Go.RowKit Go
theorem putL_no {L : List ByteArray} {s : ByteArray} (h : stray L s = false) : putL L s = s :: L := by
  unfold stray at h
  unfold putL
  rw [if_neg (by rw [(Bool.or_eq_false_iff.1 h).1]; decide)]
structure Ffw (w : World) (tc : Array Value) (q B n : Nat) (L : List ByteArray) (q' B' n' : Nat) (L' : List ByteArray) (wx : World) : Prop where
  a : wx.heap[w.heap.size]? = some (.cells tc 69 (0, 0))
  s : Str q B n L wx
  r : Str q' B' n' L' wx
  b : Below w.heap.size w wx
  h1 : w.heap.size < B ∧ w.heap.size < B'
  h2 : B ≠ B' ∧ q ≠ B' ∧ q' ≠ B
theorem Ffw.next {w wx wy : World} {tc : Array Value} {q B n q' B' n' : Nat} {L L' : List ByteArray} (h : Ffw w tc q B n L q' B' n' L' wx) (hb : Below wx.heap.size wx wy) : Ffw w tc q B n L q' B' n' L' wy := ⟨(hb.block _ (blk_lt h.a)).trans h.a, h.s.next hb, h.r.next hb, h.b.trans (hb.mono h.b.size), h.h1, h.h2⟩
theorem Ffw.turn {w wx wy : World} {tc : Array Value} {q B n m q' B' n' : Nat} {L M L' : List ByteArray} (h : Ffw w tc q B n L q' B' n' L' wx) (hk : Kp (fun x => x = B) wx wy) (hs : Str q B m M wy) : Ffw w tc q B m M q' B' n' L' wy := by
  have h1 := h.h1
  have h2 := h.h2
  exact ⟨(hk.block _ (blk_lt h.a) (fun e => by omega)).trans h.a, hs, h.r.kp hk (fun e => h2.2.2 e) (fun e => h2.1 e.symm), h.b.trans (hk.below h.b.size (fun x e => by omega)), h1, h2⟩
theorem Ffw.turn' {w wx wy : World} {tc : Array Value} {q B n m q' B' n' : Nat} {L M L' : List ByteArray} (h : Ffw w tc q B n L q' B' n' L' wx) (hk : Kp (fun x => x = B') wx wy) (hs : Str q' B' m M wy) : Ffw w tc q B n L q' B' m M wy := by
  have h1 := h.h1
  have h2 := h.h2
  exact ⟨(hk.block _ (blk_lt h.a) (fun e => by omega)).trans h.a, h.s.kp hk (fun e => h2.2.1 e) (fun e => h2.1 e), hs, h.b.trans (hk.below h.b.size (fun x e => by omega)), h1, h2⟩
theorem Ffw.tabs {w wx : World} {tc : Array Value} {q B n q' B' n' : Nat} {L L' : List ByteArray} (h : Ffw w tc q B n L q' B' n' L' wx) (hT : ∀ wy, Below w.heap.size w wy → Tabs wy) {X : Nat} (hX : w.heap.size < X) : ∀ wy, Kp (fun x => x = X) wx wy → Tabs wy := fun wy hy => hT wy (h.b.trans (hy.below h.b.size (fun z e => by omega)))
set_option maxRecDepth 1000000 in
set_option maxHeartbeats 1000000 in
theorem fieldsFit_any (w : World) (hT : Tabs w) (t : Tp) (c : Array Value) (hc : Tpi w t c) : Calls Tryz.prog 100 #[.agg c] w fun e w' => e = .returned (.bool (fft t)) ∧ Below w.heap.size w w' := by
  have HT : Hid (∀ wy, Below w.heap.size w wy → Tabs wy) := fun wy hb => hT.next hb
  obtain ⟨⟨vf, vc, vw, rfl, ⟨⟨af, cf, rfl, -, hff⟩, hfm⟩, ⟨⟨ac, cc, rfl, -, hcf⟩, hcm⟩, ⟨⟨aw, cw, rfl, -, -⟩, hwm, -⟩⟩, hbd⟩ := hc
  have HF := hide hff
  unfold tpc
  clear hff hcf hcm hwm hbd hT
  go_enter Tryz.func100, Tryz.ntmps100
  go_upto_region 1 with fail
  have HA1 := hide (heap_alloc_new w (.cells #[.string t.n, .int .i64 t.k, .int .i64 t.lo, .int .i64 t.hi, .string t.r.n, .bool t.r.z, .slice af t.fs.length cf, .slice ac t.cs.length cc, .slice aw t.ws.length cw] 69))
  have HB1 := hide (below_alloc4 w (.cells #[.string t.n, .int .i64 t.k, .int .i64 t.lo, .int .i64 t.hi, .string t.r.n, .bool t.r.z, .slice af t.fs.length cf, .slice ac t.cs.length cc, .slice aw t.ws.length cw] 69))
  have HT1 : Hid ((#[.string t.n, .int .i64 t.k, .int .i64 t.lo, .int .i64 t.hi, .string t.r.n, .bool t.r.z, .slice af t.fs.length cf, .slice ac t.cs.length cc, .slice aw t.ws.length cw] : Array Value)[1]? = some (.int .i64 t.k)) := rfl
  have HT6 : Hid ((#[.string t.n, .int .i64 t.k, .int .i64 t.lo, .int .i64 t.hi, .string t.r.n, .bool t.r.z, .slice af t.fs.length cf, .slice ac t.cs.length cc, .slice aw t.ws.length cw] : Array Value)[6]? = some (.slice af t.fs.length cf)) := rfl
  obtain ⟨tc, htc⟩ : ∃ tc : Array Value, tc = #[.string t.n, .int .i64 t.k, .int .i64 t.lo, .int .i64 t.hi, .string t.r.n, .bool t.r.z, .slice af t.fs.length cf, .slice ac t.cs.length cc, .slice aw t.ws.length cw] := ⟨_, rfl⟩
  rw [← htc] at HA1 HB1 HT1 HT6
  rw [← htc]
  clear htc
  generalize w.alloc (.cells tc 69) = w1 at *
  have q6 : w1.cell? ⟨w.heap.size, 6, none⟩ = some (.slice af t.fs.length cf) := blk_cell (j := 6) HA1.out HT6.out
  by_cases h64 : 64 < t.fs.length
  · as_aux_lemma =>
    have g64 : (64 : Int) < (t.fs.length : Int) := by omega
    have HR : Hid (fft t = false) := by show _ = _; unfold fft; rw [decide_eq_false (by omega)]; rfl
    clear h64
    go_wp2_with fail
    go_ret
    exact ⟨by rw [HR.out]; rfl, HB1.out⟩
  have g64 : ¬ (64 : Int) < (t.fs.length : Int) := by omega
  have HR : Hid (fft t = ffs t.k [] [] false t.fs) := by show _ = _; unfold fft; rw [decide_eq_true (by omega)]; rfl
  have HL64 : Hid (t.fs.length ≤ 64) := by show _ ≤ _; omega
  clear h64
  go_wp2_with fail
  refine (strays_any w1).mono ?_
  rintro e w2 ⟨rfl, hP⟩
  have HS1 := hide hP.out.1
  have HB2 := hide hP.out.2
  clear hP q6
  go_wp2_with fail
  refine (strays_any w2).mono ?_
  rintro e w3 ⟨rfl, hP⟩
  have HX : Hid (Ffw w tc (w1.heap.size + 1) w1.heap.size 0 [] (w2.heap.size + 1) w2.heap.size 0 [] w3) := by
    have hb3 := hP.out.2
    have h5 := blk_lt HA1.out
    have h6 := HS1.out.m.lt
    have h7 := blk_lt HS1.out.q
    have ha2 := (HB2.out.block _ h5).trans HA1.out
    exact ⟨(hb3.block _ (blk_lt ha2)).trans ha2, HS1.out.next hb3, hP.out.1, (HB1.out.trans (HB2.out.mono HB1.out.size)).trans (hb3.mono (Nat.le_trans HB1.out.size HB2.out.size)), ⟨h5, by omega⟩, by omega, by omega, by omega⟩
  clear hP HS1 HB2 HA1 HB1
  generalize w1.heap.size = B at *
  generalize w2.heap.size = B' at *
  generalize B + 1 = q at *
  generalize B' + 1 = q' at *
  have q6 : w3.cell? ⟨w.heap.size, 6, none⟩ = some (.slice af t.fs.length cf) := blk_cell (j := 6) HX.out.a HT6.out
  go_wp2_with fail
  clear q6
  go_loopw [5, 17] (fun vm vi wx => ∃ (i n n' : Nat) (mb : Bool) (L L' : List ByteArray), i ≤ t.fs.length ∧ n ≤ i ∧ n' ≤ i ∧ vm = .bool mb ∧ vi = .int .i64 (i : Nat) ∧ Hid (ffs t.k L L' mb (t.fs.drop i) = fft t) ∧ Hid (Ffw w tc q B n L q' B' n' L' wx)) (fun _ vi _ => t.fs.length - (intOf vi).toNat)
  case atStart => exact ⟨0, 0, 0, false, [], [], by omega, by omega, by omega, rfl, rfl, (by show _ = _; rw [HR.out, List.drop_zero]), HX⟩
  case round =>
    obtain ⟨i, n, n', mb, L, L', hi, hn, hn', rfl, rfl, HE, HXi⟩ := hrel
    clear HX HR
    by_cases hlt : i < t.fs.length
    · as_aux_lemma =>
      have g1 : (i : Int) < (t.fs.length : Int) := by omega
      obtain ⟨f, hf⟩ : ∃ f, t.fs[i]? = some f := ⟨t.fs[i], List.getElem?_eq_getElem hlt⟩
      obtain ⟨b, off, rfl, hcc⟩ := HF.out.resolve_left (fun h => by rw [h] at hlt; simp at hlt)
      obtain ⟨c, ⟨rfl, hz1, hz2, _⟩, hcell⟩ := hcc i f hf
      unfold fdc at hcell
      have HCL : Hid (∀ j u, (#[.string f.n, .string f.k, .string f.r.n, .bool f.r.z, .bool f.m] : Array Value)[j]? = some u → wr.cell? ⟨b, off + i * 5 + j, none⟩ = some u) := fun j u hj => keep_below HXi.out.b _ _ (hcell j u hj)
      have HZ1 := hide hz1
      have HZ2 := hide hz2
      have HD : Hid (t.fs.drop i = f :: t.fs.drop (i + 1)) := by
        show _ = _
        rw [List.drop_eq_getElem_cons hlt]
        rw [List.getElem?_eq_getElem hlt] at hf
        injection hf with hf
        rw [hf]
      rw [HD.out] at HE
      have HX1 := hide (HXi.out.next (below_alloc4 wr (.cells #[.string f.n, .string f.k, .string f.r.n, .bool f.r.z, .bool f.m] 104)))
      have HIF := hide infoFd
      have HAF : Hid (∀ w, (isAgg 104).run Tryz.prog w = .ok true w) := aggFd
      have HNI : Hid (n < 1000000 ∧ n' < 1000000) := by have := HL64.out; show _ ∧ _; omega
      have HFC := hide (heap_alloc_new wr (.cells #[.string f.n, .string f.k, .string f.r.n, .bool f.r.z, .bool f.m] 104))
      have HB0 : Hid (B < wr.heap.size ∧ B' < wr.heap.size) := ⟨HXi.out.s.m.lt, HXi.out.r.m.lt⟩
      clear hcc hcell hf hz1 hz2 HXi HF HD
      go_wp2_with (refine wpList_aggAt rfl rfl HIF.out HAF.out b (off + i * 5) #[.string f.n, .string f.k, .string f.r.n, .bool f.r.z, .bool f.m] rfl rfl HCL.out ?_)
      have HGB : Hid (wr.heap.size ≠ B ∧ wr.heap.size ≠ B') := by
        have h1 := HB0.out.1
        have h2 := HB0.out.2
        show _ ∧ _
        omega
      generalize wr.alloc (.cells #[.string f.n, .string f.k, .string f.r.n, .bool f.r.z, .bool f.m] 104) = wq at *
      generalize wr.heap.size = G at *
      refine (nameable_any f.n wq).mono ?_
      rintro e w4 ⟨rfl, hb4⟩
      have HX4 := hide (HX1.out.next hb4)
      have HF4 := hide ((hb4.block _ (blk_lt HFC.out)).trans HFC.out)
      clear hb4 HX1 HFC HCL
      rcases Bool.eq_false_or_eq_true (nbl f.n) with hnb | hnb
      rotate_left
      · rw [hnb]
        have HR : Hid (fft t = false) := by
          show _ = _
          rw [← HE.out]
          unfold ffs
          rw [hnb]; rfl
        clear HE
        go_wp2_with fail
        go_ret
        exact ⟨by rw [HR.out]; rfl, HX4.out.b⟩
      rw [hnb]
      have c0 : w4.cell? ⟨G, 0, none⟩ = some (.string f.n) := blk_cell (j := 0) HF4.out rfl
      go_wp2_with fail
      refine (stray1_any f.n HZ1.out q B n L w4 HX4.out.s HNI.out.1 (HX4.out.tabs HT.out HX4.out.h1.1)).mono ?_
      rintro e w5 ⟨rfl, hP⟩
      have hk5 := hP.out.2
      have HX5 := hide (HX4.out.turn hk5 hP.out.1)
      have HF5 := hide ((hk5.block _ (blk_lt HF4.out) HGB.out.1).trans HF4.out)
      clear hP hk5 HX4 HF4 c0
      rcases Bool.eq_false_or_eq_true (stray L f.n) with hst | hst
      · rw [hst]
        have HR : Hid (fft t = false) := by
          show _ = _
          rw [← HE.out]
          unfold ffs
          rw [hnb, hst]; rfl
        clear HE
        go_wp2_with fail
        go_ret
        exact ⟨by rw [HR.out]; rfl, HX5.out.b⟩
      rw [hst]
      have q1 : w5.cell? ⟨w.heap.size, 1, none⟩ = some (.int .i64 t.k) := blk_cell (j := 1) HX5.out.a HT1.out
      have c1 : w5.cell? ⟨G, 1, none⟩ = some (.string f.k) := blk_cell (j := 1) HF5.out rfl
      have c4 : w5.cell? ⟨G, 4, none⟩ = some (.bool f.m) := blk_cell (j := 4) HF5.out rfl
      replace HX5 : Hid (Ffw w tc q B (n + 1) (f.n :: L) q' B' n' L' w5) := by
        have h := HX5.out
        rw [putL_no hst] at h
        exact h
      by_cases h5 : t.k = 5
      · have g5 : (t.k == 5) = true := beq_iff_eq.2 h5
        have g6 : (t.k == 6) = false := beq_eq_false_iff_ne.2 (by omega)
        go_wp2_with fail
        refine (stray1_any f.k HZ2.out q' B' n' L' w5 HX5.out.r HNI.out.2 (HX5.out.tabs HT.out HX5.out.h1.2)).mono ?_
        rintro e w6 ⟨rfl, hP⟩
        have hk6 := hP.out.2
        have HX6 := hide (HX5.out.turn' hk6 hP.out.1)
        have HF6 := hide ((hk6.block _ (blk_lt HF5.out) HGB.out.2).trans HF5.out)
        clear hP hk6 HX5 HF5 q1 c1 c4
        rcases Bool.eq_false_or_eq_true (stray L' f.k) with hsk | hsk
        · rw [hsk]
          have HR : Hid (fft t = false) := by
            show _ = _
            rw [← HE.out]
            unfold ffs
            rw [hnb, hst, hsk, decide_eq_true h5]; rfl
          clear HE
          go_wp2_with fail
          go_ret
          exact ⟨by rw [HR.out]; rfl, HX6.out.b⟩
        rw [hsk]
        have q1 : w6.cell? ⟨w.heap.size, 1, none⟩ = some (.int .i64 t.k) := blk_cell (j := 1) HX6.out.a HT1.out
        have c4 : w6.cell? ⟨G, 4, none⟩ = some (.bool f.m) := blk_cell (j := 4) HF6.out rfl
        replace HX6 : Hid (Ffw w tc q B (n + 1) (f.n :: L) q' B' (n' + 1) (f.k :: L') w6) := by
          have h := HX6.out
          rw [putL_no hsk] at h
          exact h
        have HE2 : Hid (ffs t.k (f.n :: L) (f.k :: L') f.m (t.fs.drop (i + 1)) = fft t) := by
          show _ = _
          rw [← HE.out]
          conv => rhs; unfold ffs
          rw [hnb, hst, hsk, decide_eq_true h5, decide_eq_false (show ¬ t.k = 6 by omega), if_pos h5]; rfl
        clear HE
        go_wp2_with fail
        go_roundw
        case rel => exact ⟨i + 1, n + 1, n' + 1, f.m, f.n :: L, (f.k :: L'), by omega, by omega, by omega, rfl, by go_num, HE2, HX6⟩
        case measure => simp [intOf]; omega
      have g5 : (t.k == 5) = false := beq_eq_false_iff_ne.2 h5
      by_cases h6 : t.k = 6
      · have g6 : (t.k == 6) = true := beq_iff_eq.2 h6
        by_cases hk : f.k = ⟨#[]⟩
        rotate_left
        · have gk : (f.k.toList == []) = false := by have := str_no hk; rw [emp_list] at this; exact this
          have HR : Hid (fft t = false) := by
            show _ = _
            rw [← HE.out]
            unfold ffs
            rw [hnb, hst, decide_eq_false h5, decide_eq_true h6, decide_eq_true hk]; rfl
          clear HE
          go_wp2_with fail
          go_ret
          exact ⟨by rw [HR.out]; rfl, HX5.out.b⟩
        have gk : (f.k.toList == []) = true := by rw [hk, emp_list]; rfl
        cases mb with
        | true =>
          rcases Bool.eq_false_or_eq_true f.m with hm | hm
          · rw [hm] at c4
            have HE2 : Hid (ffs t.k (f.n :: L) L' f.m (t.fs.drop (i + 1)) = fft t) := by
              show _ = _
              rw [← HE.out]
              conv => rhs; unfold ffs
              rw [hnb, hst, decide_eq_false h5, decide_eq_true h6, decide_eq_false (not_not_intro hk), if_neg h5, hm]; rfl
            clear HE
            go_wp2_with fail
            go_roundw
            case rel => exact ⟨i + 1, n + 1, n', f.m, f.n :: L, L', by omega, by omega, by omega, (by rw [hm]), by go_num, HE2, HX5⟩
            case measure => simp [intOf]; omega
          · rw [hm] at c4
            have HR : Hid (fft t = false) := by
              show _ = _
              rw [← HE.out]
              unfold ffs
              rw [hnb, hst, decide_eq_false h5, decide_eq_true h6, decide_eq_false (not_not_intro hk), hm]; rfl
            clear HE
            go_wp2_with fail
            go_ret
            exact ⟨by rw [HR.out]; rfl, HX5.out.b⟩
        | false =>
          have HE2 : Hid (ffs t.k (f.n :: L) L' f.m (t.fs.drop (i + 1)) = fft t) := by
            show _ = _
            rw [← HE.out]
            conv => rhs; unfold ffs
            rw [hnb, hst, decide_eq_false h5, decide_eq_true h6, decide_eq_false (not_not_intro hk), if_neg h5]; rfl
          clear HE
          go_wp2_with fail
          go_roundw
          case rel => exact ⟨i + 1, n + 1, n', f.m, f.n :: L, L', by omega, by omega, by omega, rfl, by go_num, HE2, HX5⟩
          case measure => simp [intOf]; omega
      have g6 : (t.k == 6) = false := beq_eq_false_iff_ne.2 h6
      have HE2 : Hid (ffs t.k (f.n :: L) L' f.m (t.fs.drop (i + 1)) = fft t) := by
        show _ = _
        rw [← HE.out]
        conv => rhs; unfold ffs
        rw [hnb, hst, decide_eq_false h5, decide_eq_false h6, if_neg h5]; rfl
      clear HE
      go_wp2_with fail
      go_roundw
      case rel => exact ⟨i + 1, n + 1, n', f.m, f.n :: L, L', by omega, by omega, by omega, rfl, by go_num, HE2, HX5⟩
      case measure => simp [intOf]; omega
    · as_aux_lemma =>
      have g1 : ¬ (i : Int) < (t.fs.length : Int) := by omega
      have HR : Hid (fft t = true) := by
        show _ = _
        rw [← HE.out, List.drop_of_length_le (by omega)]
        rfl
      clear HE
      go_wp2_with fail
      go_ret
      exact ⟨by rw [HR.out]; rfl, HXi.out.b⟩
end
section
open Go.RowKit Go
structure Bt (w : World) (bk tc : Array Value) (wx : World) : Prop where
  a : wx.heap[w.heap.size]? = some (.cells bk 76 (0, 0))
  t : wx.heap[w.heap.size + 1]? = some (.cells tc 69 (0, 0))
  b : Below w.heap.size w wx
theorem Bt.start (w : World) (bk tc : Array Value) : Bt w bk tc ((w.alloc (.cells bk 76)).alloc (.cells tc 69)) := by
  have h1 := heap_alloc_new w (.cells bk 76)
  have e1 : (w.alloc (.cells bk 76)).heap.size = w.heap.size + 1 := by simp
  have h2 := heap_alloc_new (w.alloc (.cells bk 76)) (.cells tc 69)
  rw [e1] at h2
  exact ⟨blk_alloc _ h1, h2, (below_alloc4 w _).trans ((below_alloc4 _ _).mono (below_alloc4 w _).size)⟩
theorem Bt.next {w wx wy : World} {bk tc : Array Value} (h : Bt w bk tc wx) (hb : Below wx.heap.size wx wy) : Bt w bk tc wy := ⟨(hb.block _ (blk_lt h.a)).trans h.a, (hb.block _ (blk_lt h.t)).trans h.t, h.b.trans (hb.mono h.b.size)⟩
theorem Bt.bc {w wx : World} {bk tc : Array Value} (h : Bt w bk tc wx) : ∀ j u, bk[j]? = some u → wx.cell? ⟨w.heap.size, 0 + j, none⟩ = some u := fun j u hu => by rw [Nat.zero_add]; exact blk_cell h.a hu
theorem Bt.tc {w wx : World} {bk tc : Array Value} (h : Bt w bk tc wx) : ∀ j u, tc[j]? = some u → wx.cell? ⟨w.heap.size + 1, 0 + j, none⟩ = some u := fun j u hu => by rw [Nat.zero_add]; exact blk_cell h.t hu
theorem rfs_size {w : World} {t : Tp} {c : Array Value} (hc : Tpi w t c) : ∀ r ∈ rfs t, r.n.size ≤ 140737488351232 := fun r hr => by
  obtain ⟨⟨vf, vc, vw, _, ⟨⟨_, _, _, _, hff⟩, _⟩, ⟨⟨_, _, _, _, hcf⟩, _⟩, _⟩, hbd⟩ := hc
  unfold rfs at hr
  rcases List.mem_append.1 hr with hr | hr
  · rcases List.mem_append.1 hr with hr | hr
    · split at hr
      · rw [List.mem_singleton.1 hr]; exact hbd.r
      · cases hr
    · obtain ⟨f, hf, rfl⟩ := List.mem_map.1 hr
      obtain ⟨i, hi, e⟩ := List.getElem_of_mem hf
      rcases hff with h | ⟨b, off, _, h⟩
      · rw [h] at hf; cases hf
      · obtain ⟨_, ⟨_, _, _, h3⟩, _⟩ := h i f (by rw [List.getElem?_eq_getElem hi, e])
        exact h3
  · obtain ⟨x, hx, rfl⟩ := List.mem_map.1 hr
    obtain ⟨i, hi, e⟩ := List.getElem_of_mem hx
    rcases hcf with h | ⟨b, off, _, h⟩
    · rw [h] at hx; cases hx
    · obtain ⟨_, ⟨_, _, h3⟩, _⟩ := h i x (by rw [List.getElem?_eq_getElem hi, e])
      exact h3
theorem any_map_range {α : Type} (l : List α) (d : α) (f : α → Bool) : l.any f = (List.range l.length).any fun i => f (l.getD i d) := by
  induction l with
  | nil => rfl
  | cons x r ih =>
    rw [List.length_cons, any_range, List.any_cons, ih]
    simp only [List.getD_cons_zero, List.getD_cons_succ]
set_option maxRecDepth 1000000 in
set_option maxHeartbeats 1000000 in
theorem alone_wid (w : World) (hT : Tabs w) (hO : Otb w) (vt : Value) (B : Nat) (l : List Tp) (hB : Sbok w vt B l) (i : Nat) (t : Tp) (ht : l[i]? = some t) (hfc : tdy t = true → t.fs.length + t.cs.length + 1 ≤ 5864062014805) : Calls Tryz.prog 38 #[.agg #[vt, .map (some B)], .int .i64 (i : Nat)] w fun e w' => e = .returned (.int .i64 (aln l i t : Nat)) ∧ Below w.heap.size w w' := by
  have HT : Hid (∀ wy, Below w.heap.size w wy → Tabs wy) := fun wy hb => hT.next hb
  have HO : Hid (∀ wy, Below w.heap.size w wy → Otb wy) := fun wy hb => hO.next (keep_below hb)
  have HB := hide hB
  have hmax := hB.t.max
  have hil : i < l.length := (List.getElem?_eq_some_iff.1 ht).1
  obtain ⟨⟨⟨a, cap, rfl, _, hform⟩, _⟩, _⟩ := hB
  have g1 : (i : Int) < (l.length : Int) := by omega
  obtain ⟨b, off, rfl, hcc⟩ := hform.resolve_left (fun h => by rw [h] at hil; simp at hil)
  obtain ⟨c, hc, hcell⟩ := hcc i t ht
  have HC := hide hc
  have HRZ := hide (rfs_size hc)
  obtain ⟨⟨vf, vc, vw, rfl, ⟨⟨af, cf, rfl, -, hff⟩, hfm⟩, ⟨⟨ac, cc, rfl, -, hcf⟩, hcm⟩, ⟨⟨aw, cw, rfl, -, -⟩, hwm, -⟩⟩, hbd⟩ := hc
  have HNZ := hide hbd.n
  have hlo := hbd.lo
  have hhi := hbd.hi
  unfold tpc at hcell HC
  have HCL : Hid (∀ wx, Below w.heap.size w wx → ∀ j u, (#[.string t.n, .int .i64 t.k, .int .i64 t.lo, .int .i64 t.hi, .string t.r.n, .bool t.r.z, .slice af t.fs.length cf, .slice ac t.cs.length cc, .slice aw t.ws.length cw] : Array Value)[j]? = some u → wx.cell? ⟨b, off + i * 9 + j, none⟩ = some u) := fun wx hx j u hj => keep_below hx _ _ (hcell j u hj)
  have HCI : Hid (∀ wx, Below w.heap.size w wx → Tpi wx t #[.string t.n, .int .i64 t.k, .int .i64 t.lo, .int .i64 t.hi, .string t.r.n, .bool t.r.z, .slice af t.fs.length cf, .slice ac t.cs.length cc, .slice aw t.ws.length cw]) := fun wx hx => HC.out.move (keep_below hx)
  have HBI : Hid (∀ wx, Below w.heap.size w wx → Sbok wx (.slice (some ⟨b, off, none⟩) l.length cap) B l) := fun wx hx => HB.out.next hx
  have HFC := hide hfc
  have HIT := hide infoTp
  have HAT : Hid (∀ w, (isAgg 69).run Tryz.prog w = .ok true w) := aggTp
  have HIB := hide infoBk
  have HAB : Hid (∀ w, (isAgg 76).run Tryz.prog w = .ok true w) := aggBk
  have HX := hide (Bt.start w #[.slice (some ⟨b, off, none⟩) l.length cap, .map (some B)] #[.string t.n, .int .i64 t.k, .int .i64 t.lo, .int .i64 t.hi, .string t.r.n, .bool t.r.z, .slice af t.fs.length cf, .slice ac t.cs.length cc, .slice aw t.ws.length cw])
  have hb0 := below_alloc4 w (.cells #[.slice (some ⟨b, off, none⟩) l.length cap, .map (some B)] 76)
  have HC0 := hide (HCL.out _ hb0)
  have q0 : (w.alloc (.cells #[.slice (some ⟨b, off, none⟩) l.length cap, .map (some B)] 76)).cell? ⟨w.heap.size, 0, none⟩ = some (.slice (some ⟨b, off, none⟩) l.length cap) := blk_cell (j := 0) (heap_alloc_new w _) rfl
  clear hform hcc hcell hff hfm hcf hcm hwm hbd hT hO hb0 ht hil HC HB hfc
  go_enter Tryz.func38, Tryz.ntmps38
  go_upto_region 2 with (refine wpList_aggAt rfl rfl HIT.out HAT.out b (off + i * 9) #[.string t.n, .int .i64 t.k, .int .i64 t.lo, .int .i64 t.hi, .string t.r.n, .bool t.r.z, .slice af t.fs.length cf, .slice ac t.cs.length cc, .slice aw t.ws.length cw] rfl rfl HC0.out ?_)
  (try simp only [Act.put]); (try simp only [LsA, Ls0, LsS])
  generalize (w.alloc (.cells #[.slice (some ⟨b, off, none⟩) l.length cap, .map (some B)] 76)).alloc (.cells #[.string t.n, .int .i64 t.k, .int .i64 t.lo, .int .i64 t.hi, .string t.r.n, .bool t.r.z, .slice af t.fs.length cf, .slice ac t.cs.length cc, .slice aw t.ws.length cw] 69) = w1 at *
  clear q0 HC0 HCL
  have c0 : w1.cell? ⟨w.heap.size + 1, 0, none⟩ = some (.string t.n) := blk_cell (j := 0) HX.out.t rfl
  go_wp2_with fail
  refine (nameable_any t.n w1).mono ?_
  rintro e w2 ⟨rfl, hb⟩
  replace HX := hide (HX.out.next hb)
  clear hb c0
  rcases Bool.eq_false_or_eq_true (nbl t.n) with hnb | hnb
  rotate_left
  · as_aux_lemma =>
    rw [hnb]
    have HR : Hid (aln l i t = 111) := by
      show _ = _
      unfold aln
      rw [hnb]; rfl
    go_wp2_with fail
    go_ret
    exact ⟨by rw [HR.out]; rfl, HX.out.b⟩
  rw [hnb]
  have c0 : w2.cell? ⟨w.heap.size + 1, 0, none⟩ = some (.string t.n) := blk_cell (j := 0) HX.out.t rfl
  have HCB := hide HX.out.bc
  go_wp2_with (refine wpList_aggAt rfl rfl HIB.out HAB.out w.heap.size 0 #[.slice (some ⟨b, off, none⟩) l.length cap, .map (some B)] rfl rfl HCB.out ?_)
  refine (taken_any w2 (HO.out w2 HX.out.b) _ B l (HBI.out w2 HX.out.b) t.n HNZ.out i).mono ?_
  rintro e w3 ⟨rfl, hb⟩
  replace HX := hide (HX.out.next hb)
  clear hb c0 HCB
  rcases Bool.eq_false_or_eq_true ((ownK t.n).isSome || decide ((plc l t.n).getD 0 < i)) with htk | htk
  · as_aux_lemma =>
    rw [htk]
    have HR : Hid (aln l i t = 111) := by
      show _ = _
      unfold aln
      rw [hnb, Bool.not_true, Bool.false_or, htk]; rfl
    go_wp2_with fail
    go_ret
    exact ⟨by rw [HR.out]; rfl, HX.out.b⟩
  rw [htk]
  have HTC := hide HX.out.tc
  go_wp2_with (refine wpList_aggAt rfl rfl HIT.out HAT.out (w.heap.size + 1) 0 #[.string t.n, .int .i64 t.k, .int .i64 t.lo, .int .i64 t.hi, .string t.r.n, .bool t.r.z, .slice af t.fs.length cf, .slice ac t.cs.length cc, .slice aw t.ws.length cw] rfl rfl HTC.out ?_)
  refine (tidy_any w3 t _ (HCI.out w3 HX.out.b)).mono ?_
  rintro e w4 ⟨rfl, hb⟩
  replace HX := hide (HX.out.next hb)
  clear hb HTC
  rcases Bool.eq_false_or_eq_true (tdy t) with htd | htd
  rotate_left
  · as_aux_lemma =>
    rw [htd]
    have HR : Hid (aln l i t = 112) := by
      show _ = _
      unfold aln
      rw [hnb, Bool.not_true, Bool.false_or, htk, htd]; rfl
    go_wp2_with fail
    go_ret
    exact ⟨by rw [HR.out]; rfl, HX.out.b⟩
  rw [htd]
  have c1 : w4.cell? ⟨w.heap.size + 1, 1, none⟩ = some (.int .i64 t.k) := blk_cell (j := 1) HX.out.t rfl
  have c2 : w4.cell? ⟨w.heap.size + 1, 2, none⟩ = some (.int .i64 t.lo) := blk_cell (j := 2) HX.out.t rfl
  have c3 : w4.cell? ⟨w.heap.size + 1, 3, none⟩ = some (.int .i64 t.hi) := blk_cell (j := 3) HX.out.t rfl
  go_upto_region 6 with fail
  go_cut [27] from 28 to 43 (fun v wx => v = .bool (decide (t.lo > t.hi ∨ (t.lo < 0 ∧ t.k ≠ 2))) ∧ wx = w4)
  case first =>
    as_aux_lemma =>
    by_cases hlh : t.hi < t.lo
    · have HI : Hid (decide (t.lo > t.hi ∨ (t.lo < 0 ∧ t.k ≠ 2)) = true) := decide_eq_true (.inl hlh)
      go_wp2_with fail
      go_meet
      case rel => exact ⟨by rw [HI.out], rfl⟩
    by_cases hl0 : t.lo < 0
    · obtain ⟨kb, hkb⟩ : ∃ kb, kb = decide (t.k ≠ 2) := ⟨_, rfl⟩
      have gk : (t.k != 2) = kb := by rw [hkb, Bool.eq_iff_iff, bne_iff_ne, decide_eq_true_eq]
      have HI : Hid (decide (t.lo > t.hi ∨ (t.lo < 0 ∧ t.k ≠ 2)) = kb) := by
        show _ = _
        rw [hkb, Bool.eq_iff_iff, decide_eq_true_eq, decide_eq_true_eq]
        exact ⟨fun h => h.elim (fun h => absurd h hlh) (fun h => h.2), fun h => .inr ⟨hl0, h⟩⟩
      clear hkb
      go_wp2_with fail
      go_meet
      case rel => exact ⟨by rw [HI.out], rfl⟩
    · have HI : Hid (decide (t.lo > t.hi ∨ (t.lo < 0 ∧ t.k ≠ 2)) = false) := decide_eq_false (fun h => h.elim hlh (fun h => hl0 h.1))
      go_wp2_with fail
      go_meet
      case rel => exact ⟨by rw [HI.out], rfl⟩
  obtain ⟨rfl, hww⟩ := hcut
  have hww := hww.symm
  subst hww
  clear c1 c2 c3
  by_cases hrg : t.lo > t.hi ∨ (t.lo < 0 ∧ t.k ≠ 2)
  · as_aux_lemma =>
    rw [decide_eq_true hrg]
    have HR : Hid (aln l i t = 113) := by
      show _ = _
      unfold aln
      rw [hnb, Bool.not_true, Bool.false_or, htk, htd, if_neg (by decide), if_neg (by decide), if_pos hrg]
    go_wp2_with fail
    go_ret
    exact ⟨by rw [HR.out]; rfl, HX.out.b⟩
  rw [decide_eq_false hrg]
  go_upto_region 8 with fail
  refine heldStart (S := Bt w #[.slice (some ⟨b, off, none⟩) l.length cap, .map (some B)] #[.string t.n, .int .i64 t.k, .int .i64 t.lo, .int .i64 t.hi, .string t.r.n, .bool t.r.z, .slice af t.fs.length cf, .slice ac t.cs.length cc, .slice aw t.ws.length cw]) (by kernel_rfl) ?_
  have hb : Below w4.heap.size w4 w4.drew := by
    refine Below.drew ?_
    exact Below.refl _ _
  replace HX := hide (HX.out.next hb)
  have hS := HX.out
  clear hb
  generalize w4.drew = w5 at *
  refine heldTake 0 _ rfl (by kernel_rfl) (by kernel_rfl) (by kernel_rfl) (fun _ _ _ h => h) rfl hS (fun wy hy => exec_aggAt (g := w.heap.size + 1) (off := 0) HIT.out HAT.out rfl rfl rfl hy.tc) ?_
  (try simp only [Act.put]); (try simp only [LsA, Ls0, LsS])
  refine heldTake 2 _ rfl (by kernel_rfl) (by kernel_rfl) (by kernel_rfl) (fun _ _ _ h => h) rfl hS (fun wy hy => exec_aggAt (g := w.heap.size) (off := 0) HIB.out HAB.out rfl rfl rfl hy.bc) ?_
  (try simp only [Act.put]); (try simp only [LsA, Ls0, LsS])
  refine heldTake 3 _ rfl (by kernel_rfl) (by kernel_rfl) (by kernel_rfl) (fun _ _ _ h => h) rfl hS (fun wy hy => by first | (go_simp; done) | (go_simp; rfl) | rfl) ?_
  (try simp only [Act.put]); (try simp only [LsA, Ls0, LsS])
  refine heldStep 1 rfl (by kernel_rfl) (fun K hK => ?_)
  go_simp
  refine (references_wid w5 t _ (HCI.out w5 HX.out.b) (HFC.out htd)).mono ?_
  rintro e w6 ⟨v, rfl, hP⟩
  have HRS := hide hP.out.1
  replace HX := hide (HX.out.next hP.out.2)
  refine (Hid.out hK) _ _ (HX.out) (fun hS2 => ?_)
  clear hK K hS
  have hS := hS2
  clear hS2
  (try simp only [Act.put]); (try simp only [LsA, Ls0, LsS])
  clear hP
  refine heldStep 4 rfl (by kernel_rfl) (fun K hK => ?_)
  go_simp
  refine (containsLost_any w6 v (rfs t) HRS.out (.slice (some ⟨b, off, none⟩) l.length cap) B (fun j => !(fnd l ((rfs t).getD j zrf).n).2) (fun _ wx => Below w6.heap.size w6 wx) (Below.refl _ _) (fun j wx hI => RSl.mv HRS.out (keep_below hI)) (fun j x wx hx hI => by
    have hbw : Below w.heap.size w wx := HX.out.b.trans (hI.mono HX.out.b.size)
    refine (lost_any wx (HO.out wx hbw) _ B l (HBI.out wx hbw) x (HRZ.out x (List.mem_of_getElem? hx))).mono ?_
    rintro e w' ⟨rfl, hb⟩
    exact ⟨by simp only [List.getD, hx]; rfl, hI.trans (hb.mono hI.size)⟩)).mono ?_
  rintro e w7 ⟨rfl, hI⟩
  have HX7 : Hid (Bt w #[.slice (some ⟨b, off, none⟩) l.length cap, .map (some B)] #[.string t.n, .int .i64 t.k, .int .i64 t.lo, .int .i64 t.hi, .string t.r.n, .bool t.r.z, .slice af t.fs.length cf, .slice ac t.cs.length cc, .slice aw t.ws.length cw] w7) := by
    obtain ⟨_, hI⟩ := hI.out
    exact HX.out.next hI
  replace HX := HX7
  have HAR : Hid ((rfs t).any (fun r => !(fnd l r.n).2) = (List.range (rfs t).length).any fun j => !(fnd l ((rfs t).getD j zrf).n).2) := any_map_range (rfs t) zrf (fun r => !(fnd l r.n).2)
  generalize (List.range (rfs t).length).any (fun j => !(fnd l ((rfs t).getD j zrf).n).2) = ab at *
  refine (Hid.out hK) _ _ (HX.out) (fun hS2 => ?_)
  clear hK K hS
  have hS := hS2
  clear hS2
  (try simp only [Act.put]); (try simp only [LsA, Ls0, LsS])
  clear hI HX7 HRS
  refine heldTake 5 _ rfl (by kernel_rfl) (by kernel_rfl) (by kernel_rfl) (fun _ _ _ h => h) rfl hS (fun wy hy => by first | (go_simp; done) | (go_simp; rfl) | rfl) ?_
  (try simp only [Act.put]); (try simp only [LsA, Ls0, LsS])
  refine heldDone (by kernel_rfl) ?_
  clear hS
  rcases Bool.eq_false_or_eq_true ab with hab | hab
  · as_aux_lemma =>
    rw [hab]
    rw [hab] at HAR
    have HR : Hid (aln l i t = 114) := by
      show _ = _
      unfold aln
      rw [hnb, Bool.not_true, Bool.false_or, htk, htd, if_neg (by decide), if_neg (by decide), if_neg hrg, if_pos HAR.out]
    go_wp2_with fail
    go_ret
    exact ⟨by rw [HR.out]; rfl, HX.out.b⟩
  rw [hab]
  rw [hab] at HAR
  have HTC := hide HX.out.tc
  go_wp2_with (refine wpList_aggAt rfl rfl HIT.out HAT.out (w.heap.size + 1) 0 #[.string t.n, .int .i64 t.k, .int .i64 t.lo, .int .i64 t.hi, .string t.r.n, .bool t.r.z, .slice af t.fs.length cf, .slice ac t.cs.length cc, .slice aw t.ws.length cw] rfl rfl HTC.out ?_)
  refine (fieldsFit_any w7 (HT.out w7 HX.out.b) t _ (HCI.out w7 HX.out.b)).mono ?_
  rintro e w8 ⟨rfl, hb⟩
  replace HX := hide (HX.out.next hb)
  clear hb HTC
  rcases Bool.eq_false_or_eq_true (fft t) with hff | hff
  rotate_left
  · as_aux_lemma =>
    rw [hff]
    have HR : Hid (aln l i t = 115) := by
      show _ = _
      unfold aln
      rw [hnb, Bool.not_true, Bool.false_or, htk, htd, if_neg (by decide), if_neg (by decide), if_neg hrg, HAR.out, if_neg (by decide), hff]; rfl
    go_wp2_with fail
    go_ret
    exact ⟨by rw [HR.out]; rfl, HX.out.b⟩
  rw [hff]
  have HTC := hide HX.out.tc
  go_wp2_with (refine wpList_aggAt rfl rfl HIT.out HAT.out (w.heap.size + 1) 0 #[.string t.n, .int .i64 t.k, .int .i64 t.lo, .int .i64 t.hi, .string t.r.n, .bool t.r.z, .slice af t.fs.length cf, .slice ac t.cs.length cc, .slice aw t.ws.length cw] rfl rfl HTC.out ?_)
  refine (casesFit_any w8 (HT.out w8 HX.out.b) t _ (HCI.out w8 HX.out.b)).mono ?_
  rintro e w9 ⟨rfl, hb⟩
  replace HX := hide (HX.out.next hb)
  clear hb HTC
  rcases Bool.eq_false_or_eq_true (cft t) with hcf | hcf
  rotate_left
  · as_aux_lemma =>
    rw [hcf]
    have HR : Hid (aln l i t = 116) := by
      show _ = _
      unfold aln
      rw [hnb, Bool.not_true, Bool.false_or, htk, htd, if_neg (by decide), if_neg (by decide), if_neg hrg, HAR.out, if_neg (by decide), hff, hcf]; rfl
    go_wp2_with fail
    go_ret
    exact ⟨by rw [HR.out]; rfl, HX.out.b⟩
  · as_aux_lemma =>
    rw [hcf]
    have HR : Hid (aln l i t = 0) := by
      show _ = _
      unfold aln
      rw [hnb, Bool.not_true, Bool.false_or, htk, htd, if_neg (by decide), if_neg (by decide), if_neg hrg, HAR.out, if_neg (by decide), hff, hcf]; rfl
    go_wp2_with fail
    go_ret
    exact ⟨by rw [HR.out]; rfl, HX.out.b⟩
end
section
open Go.RowKit Go
theorem eqend (w : World) (s : ByteArray) (z : Bool) : (Op.equalIn 10000 128 (.agg #[.string s, .bool z]) (.agg #[.string ⟨#[]⟩, .bool false])).run Tryz.prog w = .ok (decide (s = ⟨#[]⟩ ∧ z = false)) w := by
  have u3 := Tryz.underlying9
  have u27 := Tryz.underlying4
  have a3 := Tryz.isAgg9
  have a27 := Tryz.isAgg4
  have z3 := Tryz.sizeOf9
  have z27 := Tryz.sizeOf4
  have hS : Tryz.prog.underlying 128 = some (.struct (Tryz.prog.fieldsOf 128)) := by kernel_rfl
  have hp : Tryz.prog.stoodInHeld 128 = false := by kernel_rfl
  rw [show (10000 : Nat) = 9999 + 1 from rfl, run_equalIn_agg w 9999 128 _ _ hS hp]
  simp only [Program.fieldsOf, Tryz.underlying128]
  by_cases h1 : s = ⟨#[]⟩
  · subst h1
    cases z <;> (go_simp; try simp)
  · have g : (s.toList == []) = false := by have := str_no h1; rw [emp_list] at this; exact this
    cases z <;> (go_simp; try simp [h1])
theorem eqgE : Tryz.prog.eqGuardType Tryz.prog.depth 128 = false := by kernel_rfl
theorem exec_eqend {o : Oper} {a : Act} {x y : Operand} {T2 : TypeId} {s : ByteArray} {z : Bool} {w : World} (ho : o.op = .binOp .eql 128 x y T2) (hx : a.eval x = .agg #[.string s, .bool z]) (hy : a.eval y = .agg #[.string ⟨#[]⟩, .bool false]) : (execOp a.eval o).run Tryz.prog w = .ok (.value (.bool (decide (s = ⟨#[]⟩ ∧ z = false)))) w := by
  unfold execOp
  simp only [ho, Sem.run_bind, hx, hy, run_eqGuard_agg w _ 128 x y _ _ eqgE, run_eql_struct, eqend, Result.andThen_ok]
  rfl
structure Bo (w : World) (bk : Array Value) (wx : World) : Prop where
  a : wx.heap[w.heap.size]? = some (.cells bk 76 (0, 0))
  b : Below w.heap.size w wx
theorem Bo.next {w wx wy : World} {bk : Array Value} (h : Bo w bk wx) (hb : Below wx.heap.size wx wy) : Bo w bk wy := ⟨(hb.block _ (blk_lt h.a)).trans h.a, h.b.trans (hb.mono h.b.size)⟩
theorem Bo.bc {w wx : World} {bk : Array Value} (h : Bo w bk wx) : ∀ j u, bk[j]? = some u → wx.cell? ⟨w.heap.size, 0 + j, none⟩ = some u := fun j u hu => by rw [Nat.zero_add]; exact blk_cell h.a hu
set_option maxRecDepth 1000000 in
set_option maxHeartbeats 1000000 in
theorem ring_any (w : World) (hO : Otb w) (vt : Value) (B : Nat) (l : List Tp) (hB : Sbok w vt B l) (hl : ∀ t ∈ l, t.r.n.size ≤ 140737488351232) (i : Nat) (t : Tp) (ht : l[i]? = some t) : Calls Tryz.prog 39 #[.agg #[vt, .map (some B)], .int .i64 (i : Nat)] w fun e w' => e = .returned (.int .i64 (rng l t : Nat)) ∧ Below w.heap.size w w' := by
  have HO : Hid (∀ wy, Below w.heap.size w wy → Otb wy) := fun wy hb => hO.next (keep_below hb)
  have HB := hide hB
  have HL := hide hl
  have hmax := hB.t.max
  have hil : i < l.length := (List.getElem?_eq_some_iff.1 ht).1
  obtain ⟨⟨⟨a, cap, rfl, _, hform⟩, _⟩, _⟩ := hB
  have g1 : (i : Int) < (l.length : Int) := by omega
  obtain ⟨b, off, rfl, hcc⟩ := hform.resolve_left (fun h => by rw [h] at hil; simp at hil)
  obtain ⟨c, hc, hcell⟩ := hcc i t ht
  have HNZ := hide hc.b.n
  have HCN : Hid (∀ wx, Below w.heap.size w wx → wx.cell? ⟨b, off + i * 9, none⟩ = some (.string t.n)) := fun wx hx => by
    have h := keep_below hx _ _ (hcell 0 (.string t.n) (by obtain ⟨⟨_, _, _, rfl, _⟩, _⟩ := hc; rfl))
    exact h
  have HX : Hid (Bo w #[.slice (some ⟨b, off, none⟩) l.length cap, .map (some B)] (w.alloc (.cells #[.slice (some ⟨b, off, none⟩) l.length cap, .map (some B)] 76))) := ⟨heap_alloc_new w _, below_alloc4 w _⟩
  have HIB := hide infoBk
  have HAB : Hid (∀ w, (isAgg 76).run Tryz.prog w = .ok true w) := aggBk
  have HBI : Hid (∀ wx, Below w.heap.size w wx → Sbok wx (.slice (some ⟨b, off, none⟩) l.length cap) B l) := fun wx hx => HB.out.next hx
  clear hform hcc hcell hc hO ht hil HB hl
  go_enter Tryz.func39, Tryz.ntmps39
  go_upto_region 1 with fail
  generalize w.alloc (.cells #[.slice (some ⟨b, off, none⟩) l.length cap, .map (some B)] 76) = w1 at *
  refine heldStart (S := Bo w #[.slice (some ⟨b, off, none⟩) l.length cap, .map (some B)]) (by kernel_rfl) ?_
  have hb : Below w1.heap.size w1 w1.drew := by
    refine Below.drew ?_
    exact Below.refl _ _
  replace HX := hide (HX.out.next hb)
  have hS := HX.out
  clear hb
  generalize w1.drew = w5 at *
  refine heldTake 0 _ rfl (by kernel_rfl) (by kernel_rfl) (by kernel_rfl) (fun _ _ _ h => h) rfl hS (fun wy hy => exec_aggAt (g := w.heap.size) (off := 0) HIB.out HAB.out rfl rfl rfl hy.bc) ?_
  (try simp only [Act.put]); (try simp only [LsA, Ls0, LsS])
  refine heldTake 1 _ rfl (by kernel_rfl) (by kernel_rfl) (by kernel_rfl) (fun _ _ _ h => h) rfl hS (fun wy hy => by first | (go_simp; done) | (go_simp; rfl) | rfl) ?_
  (try simp only [Act.put]); (try simp only [LsA, Ls0, LsS])
  refine heldTake 2 _ rfl (by kernel_rfl) (by kernel_rfl) (by kernel_rfl) (fun _ _ _ h => h) rfl hS (fun wy hy => by have h0 : wy.cell? ⟨w.heap.size, 0, none⟩ = some (.slice (some ⟨b, off, none⟩) l.length cap) := blk_cell (j := 0) hy.a rfl; first | (go_simp; done) | (go_simp; rfl)) ?_
  (try simp only [Act.put]); (try simp only [LsA, Ls0, LsS])
  refine heldTake 3 _ rfl (by kernel_rfl) (by kernel_rfl) (by kernel_rfl) (fun _ _ _ h => h) rfl hS (fun wy hy => by first | (go_simp; done) | (go_simp; rfl) | rfl) ?_
  (try simp only [Act.put]); (try simp only [LsA, Ls0, LsS])
  refine heldTake 4 _ rfl (by kernel_rfl) (by kernel_rfl) (by kernel_rfl) (fun _ _ _ h => h) rfl hS (fun wy hy => by first | (go_simp; done) | (go_simp; rfl)) ?_
  (try simp only [Act.put]); (try simp only [LsA, Ls0, LsS])
  refine heldTake 5 _ rfl (by kernel_rfl) (by kernel_rfl) (by kernel_rfl) (fun _ _ _ h => h) rfl hS (fun wy hy => by first | (go_simp; done) | (go_simp; rfl)) ?_
  (try simp only [Act.put]); (try simp only [LsA, Ls0, LsS])
  refine heldTake 6 _ rfl (by kernel_rfl) (by kernel_rfl) (by kernel_rfl) (fun _ _ _ h => h) rfl hS (fun wy hy => by have h0 := HCN.out wy hy.b; first | (go_simp; done) | (go_simp; rfl)) ?_
  (try simp only [Act.put]); (try simp only [LsA, Ls0, LsS])
  refine heldTake 8 _ rfl (by kernel_rfl) (by kernel_rfl) (by kernel_rfl) (fun _ _ _ h => h) rfl hS (fun wy hy => by first | (go_simp; done) | (go_simp; rfl) | rfl) ?_
  (try simp only [Act.put]); (try simp only [LsA, Ls0, LsS])
  refine heldStep 7 rfl (by kernel_rfl) (fun K hK => ?_)
  go_simp
  refine (follow_any w5 (HO.out w5 HX.out.b) _ B l (HBI.out w5 HX.out.b) HL.out t.n HNZ.out).mono ?_
  rintro e w6 ⟨rfl, hb⟩
  replace HX := hide (HX.out.next hb)
  refine (Hid.out hK) _ _ (HX.out) (fun hS2 => ?_)
  clear hK K hS
  have hS := hS2
  clear hS2
  (try simp only [Act.put]); (try simp only [LsA, Ls0, LsS])
  clear hb
  refine heldTake 9 _ rfl (by kernel_rfl) (by kernel_rfl) (by kernel_rfl) (fun _ _ _ h => h) rfl hS (fun wy hy => exec_eqend rfl rfl rfl) ?_
  (try simp only [Act.put]); (try simp only [LsA, Ls0, LsS])
  refine heldDone (by kernel_rfl) ?_
  clear hS
  by_cases hr : (flo l t.n).1 = ⟨#[]⟩ ∧ (flo l t.n).2 = false
  · as_aux_lemma =>
    have HR : Hid (rng l t = 117) := by
      show _ = _
      unfold rng
      rw [if_pos (Prod.ext hr.1 hr.2)]
    rw [decide_eq_true hr]
    go_wp2_with fail
    go_ret
    exact ⟨by rw [HR.out]; rfl, HX.out.b⟩
  · as_aux_lemma =>
    have HR : Hid (rng l t = 0) := by
      show _ = _
      unfold rng
      rw [if_neg (fun h => hr ⟨by rw [h], by rw [h]⟩)]
    rw [decide_eq_false hr]
    go_wp2_with fail
    go_ret
    exact ⟨by rw [HR.out]; rfl, HX.out.b⟩
end
section
open Go.RowKit Go
theorem flw_sz {l : List Tp} (hl : ∀ t ∈ l, t.r.n.size ≤ 140737488351232) : ∀ (n : Nat) (s : ByteArray) (z : Bool), s.size ≤ 140737488351232 → (flw l n s z).1.size ≤ 140737488351232
  | 0, s, z, _ => by show (ByteArray.mk #[]).size ≤ _; decide
  | n + 1, s, z, h => by
    unfold flw
    split
    · exact h
    · exact flw_sz hl n _ _ (flw_size hl s)
theorem ownK_le {s : ByteArray} {k : Nat} (h : ownK s = some k) : k ≤ 9 := by
  unfold ownK at h
  cases hf : owns.find? fun p => decide (p.1 = s) with
  | none => rw [hf] at h; cases h
  | some p =>
    rw [hf] at h
    have hm := List.mem_of_find?_eq_some hf
    rw [← Option.some.inj h]
    simp only [owns, List.mem_cons, List.not_mem_nil, or_false] at hm
    rcases hm with rfl | rfl | rfl | rfl | rfl | rfl | rfl | rfl | rfl <;> decide
theorem knd_le (t : Tp) : knd t ≤ 9 := by
  unfold knd
  repeat' split
  all_goals try omega
  cases h : ownK t.n with
  | none => exact Nat.zero_le _
  | some k => exact ownK_le h
def sbc (seen : List Nat) : Array Value := #[.bool (seen.contains 0), .bool (seen.contains 1), .bool (seen.contains 2), .bool (seen.contains 3), .bool (seen.contains 4), .bool (seen.contains 5), .bool (seen.contains 6), .bool (seen.contains 7), .bool (seen.contains 8), .bool (seen.contains 9)]
theorem sbc_at (seen : List Nat) {k : Nat} (h : k ≤ 9) : (sbc seen)[k]? = some (.bool (seen.contains k)) := by
  rcases (show k = 0 ∨ k = 1 ∨ k = 2 ∨ k = 3 ∨ k = 4 ∨ k = 5 ∨ k = 6 ∨ k = 7 ∨ k = 8 ∨ k = 9 by omega) with h | h | h | h | h | h | h | h | h | h <;> subst h <;> rfl
theorem con_eq (seen : List Nat) (k : Nat) : (k :: seen).contains k = true := by simp
theorem con_ne (seen : List Nat) {k j : Nat} (h : j ≠ k) : (k :: seen).contains j = seen.contains j := by simp [h]
theorem sbc_set (seen : List Nat) {k : Nat} (h : k ≤ 9) : (sbc seen).setIfInBounds k (.bool true) = sbc (k :: seen) := by
  rcases (show k = 0 ∨ k = 1 ∨ k = 2 ∨ k = 3 ∨ k = 4 ∨ k = 5 ∨ k = 6 ∨ k = 7 ∨ k = 8 ∨ k = 9 by omega) with h | h | h | h | h | h | h | h | h | h <;> subst h <;> unfold sbc <;> rw [con_eq] <;> simp only [LsA, Ls0, LsS] <;> (repeat rw [con_ne _ (by decide)])
structure Kap (w : World) (bk tc : Array Value) (seen : List Nat) (wx : World) : Prop where
  a : wx.heap[w.heap.size]? = some (.cells bk 76 (0, 0))
  t : wx.heap[w.heap.size + 1]? = some (.cells tc 69 (0, 0))
  s : wx.heap[w.heap.size + 2]? = some (.cells (sbc seen) 206 (0, 0))
  b : Below w.heap.size w wx
theorem Kap.next {w wx wy : World} {bk tc : Array Value} {seen : List Nat} (h : Kap w bk tc seen wx) (hb : Below wx.heap.size wx wy) : Kap w bk tc seen wy := ⟨(hb.block _ (blk_lt h.a)).trans h.a, (hb.block _ (blk_lt h.t)).trans h.t, (hb.block _ (blk_lt h.s)).trans h.s, h.b.trans (hb.mono h.b.size)⟩
theorem Kap.set {w wx : World} {bk tc : Array Value} {seen : List Nat} (h : Kap w bk tc seen wx) {k : Nat} (hk : k ≤ 9) : Kap w bk tc (k :: seen) (wx.setCell ⟨w.heap.size + 2, k, none⟩ (.bool true)) := by
  refine ⟨blk_other k _ h.a (by omega), blk_other k _ h.t (by omega), ?_, ?_⟩
  · rw [← sbc_set seen hk]
    exact blk_set k _ h.s
  · exact h.b.trans (((Kp.refl (fun q => q = w.heap.size + 2) wx).setCell _ _ (fun _ => rfl)).below h.b.size (fun q e => by omega))
theorem Kap.bc {w wx : World} {bk tc : Array Value} {seen : List Nat} (h : Kap w bk tc seen wx) : ∀ j u, bk[j]? = some u → wx.cell? ⟨w.heap.size, 0 + j, none⟩ = some u := fun j u hu => by rw [Nat.zero_add]; exact blk_cell h.a hu
set_option maxRecDepth 1000000 in
set_option maxHeartbeats 1000000 in
theorem kindsApart_any (w : World) (hO : Otb w) (vt : Value) (B : Nat) (l : List Tp) (hB : Sbok w vt B l) (hl : ∀ t ∈ l, t.r.n.size ≤ 140737488351232) (t : Tp) (c : Array Value) (hc : Tpi w t c) : Calls Tryz.prog 103 #[.agg #[vt, .map (some B)], .agg c] w fun e w' => e = .returned (.bool (kap l [] t.cs)) ∧ Below w.heap.size w w' := by
  have HO : Hid (∀ wy, Below w.heap.size w wy → Otb wy) := fun wy hb => hO.next (keep_below hb)
  have HL := hide hl
  have HBI : Hid (∀ wx, Below w.heap.size w wx → Sbok wx vt B l) := fun wx hx => hB.next hx
  obtain ⟨⟨⟨a, cap, rfl, _, _⟩, _⟩, _⟩ := hB
  obtain ⟨⟨vf, vc, vw, rfl, ⟨⟨af, cf, rfl, -, hff⟩, hfm⟩, ⟨⟨ac, cc, rfl, -, hcf⟩, hcm⟩, ⟨⟨aw, cw, rfl, -, -⟩, hwm, -⟩⟩, hbd⟩ := hc
  have HC := hide hcf
  unfold tpc
  clear hff hfm hcf hwm hbd hO hl
  have HIB := hide infoBk
  have HAB : Hid (∀ w, (isAgg 76).run Tryz.prog w = .ok true w) := aggBk
  have HIC := hide infoCz
  have HAC : Hid (∀ w, (isAgg 114).run Tryz.prog w = .ok true w) := aggCz
  have HIT := hide infoTp
  have HAT : Hid (∀ w, (isAgg 69).run Tryz.prog w = .ok true w) := aggTp
  go_enter Tryz.func103, Tryz.ntmps103
  go_upto_region 2 with fail
  have HX : Hid (Kap w #[.slice a l.length cap, .map (some B)] #[.string t.n, .int .i64 t.k, .int .i64 t.lo, .int .i64 t.hi, .string t.r.n, .bool t.r.z, .slice af t.fs.length cf, .slice ac t.cs.length cc, .slice aw t.ws.length cw] [] (((w.alloc (.cells #[.slice a l.length cap, .map (some B)] 76)).alloc (.cells #[.string t.n, .int .i64 t.k, .int .i64 t.lo, .int .i64 t.hi, .string t.r.n, .bool t.r.z, .slice af t.fs.length cf, .slice ac t.cs.length cc, .slice aw t.ws.length cw] 69)).alloc (.cells #[.bool false, .bool false, .bool false, .bool false, .bool false, .bool false, .bool false, .bool false, .bool false, .bool false] 206))) := by
    have h := Bt.start w #[.slice a l.length cap, .map (some B)] #[.string t.n, .int .i64 t.k, .int .i64 t.lo, .int .i64 t.hi, .string t.r.n, .bool t.r.z, .slice af t.fs.length cf, .slice ac t.cs.length cc, .slice aw t.ws.length cw]
    have e2 : ((w.alloc (.cells #[.slice a l.length cap, .map (some B)] 76)).alloc (.cells #[.string t.n, .int .i64 t.k, .int .i64 t.lo, .int .i64 t.hi, .string t.r.n, .bool t.r.z, .slice af t.fs.length cf, .slice ac t.cs.length cc, .slice aw t.ws.length cw] 69)).heap.size = w.heap.size + 2 := by simp
    have h3 := heap_alloc_new ((w.alloc (.cells #[.slice a l.length cap, .map (some B)] 76)).alloc (.cells #[.string t.n, .int .i64 t.k, .int .i64 t.lo, .int .i64 t.hi, .string t.r.n, .bool t.r.z, .slice af t.fs.length cf, .slice ac t.cs.length cc, .slice aw t.ws.length cw] 69)) (.cells #[.bool false, .bool false, .bool false, .bool false, .bool false, .bool false, .bool false, .bool false, .bool false, .bool false] 206)
    rw [e2] at h3
    have hb3 := below_alloc4 ((w.alloc (.cells #[.slice a l.length cap, .map (some B)] 76)).alloc (.cells #[.string t.n, .int .i64 t.k, .int .i64 t.lo, .int .i64 t.hi, .string t.r.n, .bool t.r.z, .slice af t.fs.length cf, .slice ac t.cs.length cc, .slice aw t.ws.length cw] 69)) (.cells #[.bool false, .bool false, .bool false, .bool false, .bool false, .bool false, .bool false, .bool false, .bool false, .bool false] 206)
    have h4 := h.next hb3
    exact ⟨h4.a, h4.t, h3, h4.b⟩
  generalize ((w.alloc (.cells #[.slice a l.length cap, .map (some B)] 76)).alloc (.cells #[.string t.n, .int .i64 t.k, .int .i64 t.lo, .int .i64 t.hi, .string t.r.n, .bool t.r.z, .slice af t.fs.length cf, .slice ac t.cs.length cc, .slice aw t.ws.length cw] 69)).alloc (.cells #[.bool false, .bool false, .bool false, .bool false, .bool false, .bool false, .bool false, .bool false, .bool false, .bool false] 206) = w0 at *
  have HT7 : Hid ((#[.string t.n, .int .i64 t.k, .int .i64 t.lo, .int .i64 t.hi, .string t.r.n, .bool t.r.z, .slice af t.fs.length cf, .slice ac t.cs.length cc, .slice aw t.ws.length cw] : Array Value)[7]? = some (.slice ac t.cs.length cc)) := rfl
  obtain ⟨tc, htc⟩ : ∃ tc : Array Value, tc = #[.string t.n, .int .i64 t.k, .int .i64 t.lo, .int .i64 t.hi, .string t.r.n, .bool t.r.z, .slice af t.fs.length cf, .slice ac t.cs.length cc, .slice aw t.ws.length cw] := ⟨_, rfl⟩
  rw [← htc] at HX HT7
  clear htc
  have q7 : w0.cell? ⟨w.heap.size + 1, 7, none⟩ = some (.slice ac t.cs.length cc) := blk_cell (j := 7) HX.out.t HT7.out
  go_wp2_with fail
  clear q7
  go_loopw [15] (fun vi wx => ∃ (i : Nat) (seen : List Nat), i ≤ t.cs.length ∧ vi = .int .i64 (i : Nat) ∧ Hid (kap l seen (t.cs.drop i) = kap l [] t.cs) ∧ Hid (Kap w #[.slice a l.length cap, .map (some B)] tc seen wx)) (fun vi _ => t.cs.length - (intOf vi).toNat)
  case atStart => exact ⟨0, [], by omega, rfl, rfl, HX⟩
  case round =>
    obtain ⟨i, seen, hi, rfl, HE, HXi⟩ := hrel
    clear HX
    by_cases hlt : i < t.cs.length
    · as_aux_lemma =>
      have g1 : (i : Int) < (t.cs.length : Int) := by omega
      obtain ⟨x, hx⟩ : ∃ x, t.cs[i]? = some x := ⟨t.cs[i], List.getElem?_eq_getElem hlt⟩
      obtain ⟨b, off, rfl, hcc⟩ := HC.out.resolve_left (fun h => by rw [h] at hlt; simp at hlt)
      obtain ⟨c, ⟨rfl, _, hz2⟩, hcell⟩ := hcc i x hx
      unfold czc at hcell
      have HCL : Hid (∀ j u, (#[.string x.k, .string x.n] : Array Value)[j]? = some u → wr.cell? ⟨b, off + i * 2 + j, none⟩ = some u) := fun j u hj => keep_below HXi.out.b _ _ (hcell j u hj)
      have HZ2 := hide hz2
      have HD : Hid (t.cs.drop i = x :: t.cs.drop (i + 1)) := by
        show _ = _
        rw [List.drop_eq_getElem_cons hlt]
        rw [List.getElem?_eq_getElem hlt] at hx
        injection hx with hx
        rw [hx]
      rw [HD.out] at HE
      have HEE : Hid (kap l [] t.cs = if (flo l x.n).2 || decide (knd (fnd l (flo l x.n).1).1 = 0) || seen.contains (knd (fnd l (flo l x.n).1).1) then false else kap l (knd (fnd l (flo l x.n).1).1 :: seen) (t.cs.drop (i + 1))) := by
        show _ = _
        rw [← HE.out]
        rfl
      have HFZ : Hid ((flo l x.n).1.size ≤ 140737488351232) := flw_sz HL.out _ _ _ hz2
      have HKL : Hid (knd (fnd l (flo l x.n).1).1 ≤ 9) := knd_le _
      have HX1 := hide (HXi.out.next (below_alloc4 wr (.cells #[.string x.k, .string x.n] 114)))
      have HCB := hide HX1.out.bc
      clear hcc hcell hx hz2 HXi HC HD HE
      go_wp2_with (first
        | (refine wpList_aggAt rfl rfl HIC.out HAC.out b (off + i * 2) #[.string x.k, .string x.n] rfl rfl HCL.out ?_)
        | (refine wpList_aggAt rfl rfl HIB.out HAB.out w.heap.size 0 #[.slice a l.length cap, .map (some B)] rfl rfl HCB.out ?_))
      generalize wr.alloc (.cells #[.string x.k, .string x.n] 114) = w1 at *
      refine (follow_any w1 (HO.out w1 HX1.out.b) _ B l (HBI.out w1 HX1.out.b) HL.out x.n HZ2.out).mono ?_
      rintro e w2 ⟨rfl, hb⟩
      generalize (flo l x.n).1 = s1 at *
      generalize (flo l x.n).2 = z1 at *
      have HX2 := hide ((HX1.out.next hb).next (below_alloc4 w2 (.cells #[.string s1, .bool z1] 128)))
      have HE2 := hide (heap_alloc_new w2 (.cells #[.string s1, .bool z1] 128))
      have HCB2 := hide HX2.out.bc
      clear hb HX1 HCB HCL
      go_wp2_with (refine wpList_aggAt rfl rfl HIB.out HAB.out w.heap.size 0 #[.slice a l.length cap, .map (some B)] rfl rfl HCB2.out ?_)
      generalize w2.alloc (.cells #[.string s1, .bool z1] 128) = w3 at *
      generalize w2.heap.size = G at *
      refine (find_any w3 (HO.out w3 HX2.out.b) _ B l (HBI.out w3 HX2.out.b) s1 HFZ.out).mono ?_
      rintro e w4 ⟨c, rfl, hc, hb⟩
      generalize (fnd l s1).2 = fb at *
      generalize (fnd l s1).1 = u at *
      have HU := hide hc
      obtain ⟨⟨vf, vc, vw, rfl, ⟨⟨uf, ug, rfl, -, -⟩, -⟩, ⟨⟨uc, ud, rfl, -, -⟩, -⟩, ⟨⟨ux, uy, rfl, -, -⟩, -, -⟩⟩, -⟩ := hc
      unfold tpc at HU
      unfold tpc
      have hb5 := below_alloc4 w4 (.cells #[.string u.n, .int .i64 u.k, .int .i64 u.lo, .int .i64 u.hi, .string u.r.n, .bool u.r.z, .slice uf u.fs.length ug, .slice uc u.cs.length ud, .slice ux u.ws.length uy] 69)
      have HX5 := hide ((HX2.out.next hb).next hb5)
      have he4 := (hb.block _ (blk_lt HE2.out)).trans HE2.out
      have HE5 := hide ((hb5.block _ (blk_lt he4)).trans he4)
      have HU5 := hide (HU.out.move (keep_below hb5))
      have HUC : Hid (∀ j v, (#[.string u.n, .int .i64 u.k, .int .i64 u.lo, .int .i64 u.hi, .string u.r.n, .bool u.r.z, .slice uf u.fs.length ug, .slice uc u.cs.length ud, .slice ux u.ws.length uy] : Array Value)[j]? = some v → (w4.alloc (.cells #[.string u.n, .int .i64 u.k, .int .i64 u.lo, .int .i64 u.hi, .string u.r.n, .bool u.r.z, .slice uf u.fs.length ug, .slice uc u.cs.length ud, .slice ux u.ws.length uy] 69)).cell? ⟨w4.heap.size, 0 + j, none⟩ = some v) := fun j v hv => by rw [Nat.zero_add]; exact blk_cell (heap_alloc_new w4 _) hv
      clear hb hb5 he4 HX2 HE2 HCB2 HU HFZ
      go_wp2_with (refine wpList_aggAt rfl rfl HIT.out HAT.out w4.heap.size 0 #[.string u.n, .int .i64 u.k, .int .i64 u.lo, .int .i64 u.hi, .string u.r.n, .bool u.r.z, .slice uf u.fs.length ug, .slice uc u.cs.length ud, .slice ux u.ws.length uy] rfl rfl HUC.out ?_)
      generalize w4.alloc (.cells #[.string u.n, .int .i64 u.k, .int .i64 u.lo, .int .i64 u.hi, .string u.r.n, .bool u.r.z, .slice uf u.fs.length ug, .slice uc u.cs.length ud, .slice ux u.ws.length uy] 69) = w5 at *
      refine (kind_any w5 (HO.out w5 HX5.out.b) u _ HU5.out).mono ?_
      rintro e w6 ⟨rfl, hb⟩
      generalize knd u = K at *
      have HX6 := hide (HX5.out.next hb)
      have he6 := (hb.block _ (blk_lt HE5.out)).trans HE5.out
      have c1 : w6.cell? ⟨G, 1, none⟩ = some (.bool z1) := blk_cell (j := 1) he6 rfl
      have cS : w6.cell? ⟨w.heap.size + 2, K, none⟩ = some (.bool (seen.contains K)) := blk_cell HX6.out.s (sbc_at seen HKL.out)
      have gK : (K : Int) < 10 := by have := HKL.out; omega
      clear hb HX5 HE5 HU5 HUC he6
      cases z1 with
      | true =>
        have HR : Hid (kap l [] t.cs = false) := by show _ = _; rw [HEE.out]; rfl
        clear HEE
        go_wp2_with fail
        go_ret
        exact ⟨by rw [HR.out]; rfl, HX6.out.b⟩
      | false =>
        by_cases hK0 : K = 0
        · have g0 : ((K : Int) == 0) = true := beq_iff_eq.2 (by omega)
          have HR : Hid (kap l [] t.cs = false) := by show _ = _; rw [HEE.out, decide_eq_true hK0]; rfl
          clear HEE hK0
          go_wp2_with fail
          go_ret
          exact ⟨by rw [HR.out]; rfl, HX6.out.b⟩
        · have g0 : ((K : Int) == 0) = false := beq_eq_false_iff_ne.2 (by omega)
          rcases Bool.eq_false_or_eq_true (seen.contains K) with hcn | hcn
          · have HR : Hid (kap l [] t.cs = false) := by show _ = _; rw [HEE.out, hcn, Bool.or_true]; rfl
            rw [hcn] at cS
            clear HEE hK0 hcn
            go_wp2_with fail
            go_ret
            exact ⟨by rw [HR.out]; rfl, HX6.out.b⟩
          · have HE2 : Hid (kap l (K :: seen) (t.cs.drop (i + 1)) = kap l [] t.cs) := by show _ = _; rw [HEE.out, hcn, decide_eq_false hK0]; rfl
            rw [hcn] at cS
            have HX7 := hide (HX6.out.set HKL.out)
            have fS : w6.frozen? ⟨w.heap.size + 2, K, none⟩ = false := blk_frozen K HX6.out.s
            clear HEE hK0 hcn
            go_wp2_with fail
            go_roundw
            case rel => exact ⟨i + 1, K :: seen, by omega, by go_num, HE2, HX7⟩
            case measure => simp [intOf]; omega
    · as_aux_lemma =>
      have g1 : ¬ (i : Int) < (t.cs.length : Int) := by omega
      have HR : Hid (kap l [] t.cs = true) := by
        show _ = _
        rw [← HE.out, List.drop_of_length_le (by omega)]
        rfl
      clear HE
      go_wp2_with fail
      go_ret
      exact ⟨by rw [HR.out]; rfl, HXi.out.b⟩
set_option maxRecDepth 1000000 in
set_option maxHeartbeats 1000000 in
theorem together_any (w : World) (hO : Otb w) (vt : Value) (B : Nat) (l : List Tp) (hB : Sbok w vt B l) (hl : ∀ t ∈ l, t.r.n.size ≤ 140737488351232) (i : Nat) (t : Tp) (ht : l[i]? = some t) (hf1 : t.fs.length ≤ 1000) (hc1 : t.cs.length ≤ 1000) : Calls Tryz.prog 40 #[.agg #[vt, .map (some B)], .int .i64 (i : Nat)] w fun e w' => e = .returned (.int .i64 (tgt l t : Nat)) ∧ Below w.heap.size w w' := by
  have HO : Hid (∀ wy, Below w.heap.size w wy → Otb wy) := fun wy hb => hO.next (keep_below hb)
  have HB := hide hB
  have HL := hide hl
  have hmax := hB.t.max
  have hil : i < l.length := (List.getElem?_eq_some_iff.1 ht).1
  obtain ⟨⟨⟨a, cap, rfl, _, hform⟩, _⟩, _⟩ := hB
  have g1 : (i : Int) < (l.length : Int) := by omega
  obtain ⟨b, off, rfl, hcc⟩ := hform.resolve_left (fun h => by rw [h] at hil; simp at hil)
  obtain ⟨c, hc, hcell⟩ := hcc i t ht
  have HC := hide hc
  have HRZ := hide (rfs_size hc)
  obtain ⟨⟨vf, vc, vw, rfl, ⟨⟨af, cf, rfl, -, hff⟩, hfm⟩, ⟨⟨ac, cc, rfl, -, hcf⟩, hcm⟩, ⟨⟨aw, cw, rfl, -, -⟩, hwm, -⟩⟩, hbd⟩ := hc
  unfold tpc at hcell HC
  have HCL : Hid (∀ wx, Below w.heap.size w wx → ∀ j u, (#[.string t.n, .int .i64 t.k, .int .i64 t.lo, .int .i64 t.hi, .string t.r.n, .bool t.r.z, .slice af t.fs.length cf, .slice ac t.cs.length cc, .slice aw t.ws.length cw] : Array Value)[j]? = some u → wx.cell? ⟨b, off + i * 9 + j, none⟩ = some u) := fun wx hx j u hj => keep_below hx _ _ (hcell j u hj)
  have HCI : Hid (∀ wx, Below w.heap.size w wx → Tpi wx t #[.string t.n, .int .i64 t.k, .int .i64 t.lo, .int .i64 t.hi, .string t.r.n, .bool t.r.z, .slice af t.fs.length cf, .slice ac t.cs.length cc, .slice aw t.ws.length cw]) := fun wx hx => HC.out.move (keep_below hx)
  have HBI : Hid (∀ wx, Below w.heap.size w wx → Sbok wx (.slice (some ⟨b, off, none⟩) l.length cap) B l) := fun wx hx => HB.out.next hx
  have HF1 : Hid (t.fs.length ≤ 1000 ∧ t.cs.length ≤ 1000) := ⟨hf1, hc1⟩
  have HIT := hide infoTp
  have HAT : Hid (∀ w, (isAgg 69).run Tryz.prog w = .ok true w) := aggTp
  have HIB := hide infoBk
  have HAB : Hid (∀ w, (isAgg 76).run Tryz.prog w = .ok true w) := aggBk
  have HX := hide (Bt.start w #[.slice (some ⟨b, off, none⟩) l.length cap, .map (some B)] #[.string t.n, .int .i64 t.k, .int .i64 t.lo, .int .i64 t.hi, .string t.r.n, .bool t.r.z, .slice af t.fs.length cf, .slice ac t.cs.length cc, .slice aw t.ws.length cw])
  have hb0 := below_alloc4 w (.cells #[.slice (some ⟨b, off, none⟩) l.length cap, .map (some B)] 76)
  have HC0 := hide (HCL.out _ hb0)
  have q0 : (w.alloc (.cells #[.slice (some ⟨b, off, none⟩) l.length cap, .map (some B)] 76)).cell? ⟨w.heap.size, 0, none⟩ = some (.slice (some ⟨b, off, none⟩) l.length cap) := blk_cell (j := 0) (heap_alloc_new w _) rfl
  clear hform hcc hcell hff hfm hcf hcm hwm hbd hO hb0 ht hil HC HB hf1 hc1 hl
  go_enter Tryz.func40, Tryz.ntmps40
  go_upto_region 2 with (refine wpList_aggAt rfl rfl HIT.out HAT.out b (off + i * 9) #[.string t.n, .int .i64 t.k, .int .i64 t.lo, .int .i64 t.hi, .string t.r.n, .bool t.r.z, .slice af t.fs.length cf, .slice ac t.cs.length cc, .slice aw t.ws.length cw] rfl rfl HC0.out ?_)
  (try simp only [Act.put]); (try simp only [LsA, Ls0, LsS])
  generalize (w.alloc (.cells #[.slice (some ⟨b, off, none⟩) l.length cap, .map (some B)] 76)).alloc (.cells #[.string t.n, .int .i64 t.k, .int .i64 t.lo, .int .i64 t.hi, .string t.r.n, .bool t.r.z, .slice af t.fs.length cf, .slice ac t.cs.length cc, .slice aw t.ws.length cw] 69) = w4 at *
  clear q0 HC0 HCL
  refine heldStart (S := Bt w #[.slice (some ⟨b, off, none⟩) l.length cap, .map (some B)] #[.string t.n, .int .i64 t.k, .int .i64 t.lo, .int .i64 t.hi, .string t.r.n, .bool t.r.z, .slice af t.fs.length cf, .slice ac t.cs.length cc, .slice aw t.ws.length cw]) (by kernel_rfl) ?_
  have hb : Below w4.heap.size w4 w4.drew := by
    refine Below.drew ?_
    exact Below.refl _ _
  replace HX := hide (HX.out.next hb)
  have hS := HX.out
  clear hb
  generalize w4.drew = w5 at *
  refine heldTake 0 _ rfl (by kernel_rfl) (by kernel_rfl) (by kernel_rfl) (fun _ _ _ h => h) rfl hS (fun wy hy => exec_aggAt (g := w.heap.size + 1) (off := 0) HIT.out HAT.out rfl rfl rfl hy.tc) ?_
  (try simp only [Act.put]); (try simp only [LsA, Ls0, LsS])
  refine heldTake 2 _ rfl (by kernel_rfl) (by kernel_rfl) (by kernel_rfl) (fun _ _ _ h => h) rfl hS (fun wy hy => exec_aggAt (g := w.heap.size) (off := 0) HIB.out HAB.out rfl rfl rfl hy.bc) ?_
  (try simp only [Act.put]); (try simp only [LsA, Ls0, LsS])
  refine heldTake 3 _ rfl (by kernel_rfl) (by kernel_rfl) (by kernel_rfl) (fun _ _ _ h => h) rfl hS (fun wy hy => by first | (go_simp; done) | (go_simp; rfl) | rfl) ?_
  (try simp only [Act.put]); (try simp only [LsA, Ls0, LsS])
  refine heldStep 1 rfl (by kernel_rfl) (fun K hK => ?_)
  go_simp
  refine (references_any w5 t _ (HCI.out w5 HX.out.b) HF1.out.1 HF1.out.2).mono ?_
  rintro e w6 ⟨v, rfl, hP⟩
  have HRS := hide hP.out.1
  replace HX := hide (HX.out.next hP.out.2)
  refine (Hid.out hK) _ _ (HX.out) (fun hS2 => ?_)
  clear hK K hS
  have hS := hS2
  clear hS2
  (try simp only [Act.put]); (try simp only [LsA, Ls0, LsS])
  clear hP
  refine heldStep 4 rfl (by kernel_rfl) (fun K hK => ?_)
  go_simp
  refine (containsNull_any w6 v (rfs t) HRS.out (.slice (some ⟨b, off, none⟩) l.length cap) B (fun j => ((rfs t).getD j zrf).z && (flo l ((rfs t).getD j zrf).n).2) (fun _ wx => Below w6.heap.size w6 wx) (Below.refl _ _) (fun j wx hI => RSl.mv HRS.out (keep_below hI)) (fun j x wx hx hI => by
    have hbw : Below w.heap.size w wx := HX.out.b.trans (hI.mono HX.out.b.size)
    refine (nullTwice_any wx (HO.out wx hbw) _ B l (HBI.out wx hbw) HL.out x (HRZ.out x (List.mem_of_getElem? hx))).mono ?_
    rintro e w' ⟨rfl, hb⟩
    exact ⟨by simp only [List.getD, hx]; rfl, hI.trans (hb.mono hI.size)⟩)).mono ?_
  rintro e w7 ⟨rfl, hI⟩
  have HX7 : Hid (Bt w #[.slice (some ⟨b, off, none⟩) l.length cap, .map (some B)] #[.string t.n, .int .i64 t.k, .int .i64 t.lo, .int .i64 t.hi, .string t.r.n, .bool t.r.z, .slice af t.fs.length cf, .slice ac t.cs.length cc, .slice aw t.ws.length cw] w7) := by
    obtain ⟨_, hI⟩ := hI.out
    exact HX.out.next hI
  replace HX := HX7
  have HAR : Hid ((rfs t).any (fun r => r.z && (flo l r.n).2) = (List.range (rfs t).length).any fun j => ((rfs t).getD j zrf).z && (flo l ((rfs t).getD j zrf).n).2) := any_map_range (rfs t) zrf (fun r => r.z && (flo l r.n).2)
  generalize (List.range (rfs t).length).any (fun j => ((rfs t).getD j zrf).z && (flo l ((rfs t).getD j zrf).n).2) = ab at *
  refine (Hid.out hK) _ _ (HX.out) (fun hS2 => ?_)
  clear hK K hS
  have hS := hS2
  clear hS2
  (try simp only [Act.put]); (try simp only [LsA, Ls0, LsS])
  clear hI HX7 HRS
  refine heldTake 5 _ rfl (by kernel_rfl) (by kernel_rfl) (by kernel_rfl) (fun _ _ _ h => h) rfl hS (fun wy hy => by first | (go_simp; done) | (go_simp; rfl) | rfl) ?_
  (try simp only [Act.put]); (try simp only [LsA, Ls0, LsS])
  refine heldDone (by kernel_rfl) ?_
  clear hS
  rcases Bool.eq_false_or_eq_true ab with hab | hab
  · as_aux_lemma =>
    rw [hab]
    rw [hab] at HAR
    have HR : Hid (tgt l t = 118) := by show _ = _; unfold tgt; rw [if_pos HAR.out]
    go_wp2_with fail
    go_ret
    exact ⟨by rw [HR.out]; rfl, HX.out.b⟩
  rw [hab]
  rw [hab] at HAR
  have c1 : w7.cell? ⟨w.heap.size + 1, 1, none⟩ = some (.int .i64 t.k) := blk_cell (j := 1) HX.out.t rfl
  by_cases h8 : t.k = 8
  · have g8 : (t.k == 8) = true := beq_iff_eq.2 h8
    have H8 := hide h8
    clear h8
    have HTC := hide HX.out.tc
    have HCB := hide HX.out.bc
    go_wp2_with (first
      | (refine wpList_aggAt rfl rfl HIT.out HAT.out (w.heap.size + 1) 0 #[.string t.n, .int .i64 t.k, .int .i64 t.lo, .int .i64 t.hi, .string t.r.n, .bool t.r.z, .slice af t.fs.length cf, .slice ac t.cs.length cc, .slice aw t.ws.length cw] rfl rfl HTC.out ?_)
      | (refine wpList_aggAt rfl rfl HIB.out HAB.out w.heap.size 0 #[.slice (some ⟨b, off, none⟩) l.length cap, .map (some B)] rfl rfl HCB.out ?_))
    refine (kindsApart_any w7 (HO.out w7 HX.out.b) _ B l (HBI.out w7 HX.out.b) HL.out t _ (HCI.out w7 HX.out.b)).mono ?_
    rintro e w8 ⟨rfl, hb⟩
    replace HX := hide (HX.out.next hb)
    clear hb HTC HCB c1
    rcases Bool.eq_false_or_eq_true (kap l [] t.cs) with hk | hk
    · as_aux_lemma =>
      have HR : Hid (tgt l t = 0) := by show _ = _; unfold tgt; rw [HAR.out, if_neg (by decide), if_neg (fun h => by rw [hk] at h; exact absurd h.2 (by decide))]
      rw [hk]
      go_wp2_with fail
      go_ret
      exact ⟨by rw [HR.out]; rfl, HX.out.b⟩
    · as_aux_lemma =>
      have HR : Hid (tgt l t = 116) := by show _ = _; unfold tgt; rw [HAR.out, if_neg (by decide), if_pos ⟨H8.out, hk⟩]
      rw [hk]
      go_wp2_with fail
      go_ret
      exact ⟨by rw [HR.out]; rfl, HX.out.b⟩
  · as_aux_lemma =>
    have g8 : (t.k == 8) = false := beq_eq_false_iff_ne.2 h8
    have HR : Hid (tgt l t = 0) := by show _ = _; unfold tgt; rw [HAR.out, if_neg (by decide), if_neg (fun h => h8 h.1)]
    go_wp2_with fail
    go_ret
    exact ⟨by rw [HR.out]; rfl, HX.out.b⟩
end
section
open Go.RowKit Go
theorem lk1_none {f : Nat → Tp → Nat} : ∀ (r : List Tp) (o : Nat), (∀ j t, r[j]? = some t → f (o + j) t = 0) → lk1 f o r = none
  | [], _, _ => rfl
  | t :: r, o, h => by
    unfold lk1
    rw [if_neg (fun e => e (h 0 t rfl))]
    exact lk1_none r (o + 1) (fun j u hu => by have := h (j + 1) u (by simpa using hu); rw [Nat.add_assoc, Nat.add_comm 1 j]; exact this)
theorem lk1_hit {f : Nat → Tp → Nat} : ∀ (r : List Tp) (o i : Nat) (t : Tp), r[i]? = some t → f (o + i) t ≠ 0 → (∀ j u, j < i → r[j]? = some u → f (o + j) u = 0) → lk1 f o r = some (f (o + i) t, o + i)
  | [], _, _, _, h, _, _ => by cases h
  | u :: r, o, 0, t, h, h0, _ => by
    have e : u = t := by simpa using h
    subst e
    rw [Nat.add_zero] at h0 ⊢
    unfold lk1
    rw [if_pos h0]
  | u :: r, o, i + 1, t, h, h0, hz => by
    unfold lk1
    rw [if_neg (fun e => e (hz 0 u (by omega) rfl))]
    have := lk1_hit r (o + 1) i t (by simpa using h) (by rw [Nat.add_assoc, Nat.add_comm 1 i]; exact h0) (fun j x hj hx => by have := hz (j + 1) x (by omega) (by simpa using hx); rw [Nat.add_assoc, Nat.add_comm 1 j]; exact this)
    rw [Nat.add_assoc, Nat.add_comm 1 i] at this
    exact this
def lks (l : List Tp) : Nat → Nat → Tp → Nat
  | 0, i, t => aln l i t
  | 1, _, t => rng l t
  | _, _, t => tgt l t
theorem chk_many {l : List Tp} (h : 64 < l.length) : chk11 l = (110, 0) := by
  unfold chk11
  rw [if_pos h]
theorem chk_hit {l : List Tp} (h64 : ¬ 64 < l.length) {k i : Nat} (hk : k ≤ 2) {t : Tp} (ht : l[i]? = some t) (h0 : lks l k i t ≠ 0) (hb : ∀ k' j u, k' < k → l[j]? = some u → lks l k' j u = 0) (hz : ∀ j u, j < i → l[j]? = some u → lks l k j u = 0) : chk11 l = (lks l k i t, i) := by
  unfold chk11
  rw [if_neg h64]
  have e : ∀ f : Nat → Tp → Nat, (∀ j u, l[j]? = some u → f j u = 0) → lk1 f 0 l = none := fun f hf => lk1_none l 0 (fun j u hu => by rw [Nat.zero_add]; exact hf j u hu)
  have g : ∀ f : Nat → Tp → Nat, f i t ≠ 0 → (∀ j u, j < i → l[j]? = some u → f j u = 0) → lk1 f 0 l = some (f i t, i) := fun f hf hn => by
    have := lk1_hit l 0 i t ht (by rw [Nat.zero_add]; exact hf) (fun j u hj hu => by rw [Nat.zero_add]; exact hn j u hj hu)
    rw [Nat.zero_add] at this
    exact this
  rcases (show k = 0 ∨ k = 1 ∨ k = 2 by omega) with rfl | rfl | rfl
  · rw [g (aln l) h0 hz]
    rfl
  · rw [e (aln l) (fun j u hu => hb 0 j u (by omega) hu)]
    simp only
    rw [g (fun _ t => rng l t) h0 hz]
    rfl
  · rw [e (aln l) (fun j u hu => hb 0 j u (by omega) hu)]
    simp only
    rw [e (fun _ t => rng l t) (fun j u hu => hb 1 j u (by omega) hu)]
    simp only
    rw [g (fun _ t => tgt l t) h0 hz]
    rfl
theorem chk_ok {l : List Tp} (h64 : ¬ 64 < l.length) (hb : ∀ k' j u, k' < 3 → l[j]? = some u → lks l k' j u = 0) : chk11 l = (0, 0) := by
  unfold chk11
  rw [if_neg h64]
  have e : ∀ f : Nat → Tp → Nat, (∀ j u, l[j]? = some u → f j u = 0) → lk1 f 0 l = none := fun f hf => lk1_none l 0 (fun j u hu => by rw [Nat.zero_add]; exact hf j u hu)
  rw [e (aln l) (fun j u hu => hb 0 j u (by omega) hu)]
  simp only
  rw [e (fun _ t => rng l t) (fun j u hu => hb 1 j u (by omega) hu)]
  simp only
  rw [e (fun _ t => tgt l t) (fun j u hu => hb 2 j u (by omega) hu)]
theorem tsl_r {w : World} {v : Value} {l : List Tp} (h : TSl w v l) : ∀ t ∈ l, t.r.n.size ≤ 140737488351232 := fun t ht => by
  obtain ⟨i, hi, e⟩ := List.getElem_of_mem ht
  rcases h.form with ⟨_, _, _, _, h | ⟨b, off, _, h⟩⟩
  · rw [h] at ht; cases ht
  · obtain ⟨_, h3, _⟩ := h i t (by rw [List.getElem?_eq_getElem hi, e])
    exact h3.b.r
def Shrt (l : List Tp) : Prop := ∀ t ∈ l, t.fs.length ≤ 1000 ∧ t.cs.length ≤ 1000 ∧ t.ws.length ≤ 1000
def Wid (l : List Tp) : Prop := ∀ t ∈ l, tdy t = true → t.fs.length + t.cs.length + 1 ≤ 5864062014805
theorem shrt_wid {l : List Tp} (h : Shrt l) : Wid l := fun t ht _ => by
  obtain ⟨h1, h2, _⟩ := h t ht
  omega
theorem aln_short {l : List Tp} {i : Nat} {t : Tp} (h : aln l i t = 0) : t.fs.length ≤ 1000 ∧ t.cs.length ≤ 1000 ∧ t.ws.length ≤ 1000 := by
  unfold aln at h
  split at h
  · cases h
  split at h
  · cases h
  split at h
  · cases h
  split at h
  · cases h
  split at h
  · cases h
  split at h
  · cases h
  rename_i _ h2 _ _ h5 h6
  have hd : tdy t = true := by simpa using h2
  have hf : fft t = true := by simpa using h5
  have hc : cft t = true := by simpa using h6
  unfold fft at hf
  rw [Bool.and_eq_true, decide_eq_true_eq] at hf
  unfold tdy at hd
  simp only [Bool.and_eq_true, Bool.or_eq_true, decide_eq_true_eq, List.isEmpty_iff] at hd
  obtain ⟨⟨⟨_, _⟩, hcs⟩, hws⟩ := hd
  have h1 := hf.1
  refine ⟨by omega, ?_, ?_⟩
  · rcases hcs with (e | e) | e
    · unfold cft at hc
      rw [if_pos e, Bool.and_eq_true] at hc
      have := some64_le hc.1
      omega
    · unfold cft at hc
      rw [if_neg (by omega), if_pos e, Bool.and_eq_true] at hc
      have := some64_le hc.1
      omega
    · rw [e]; decide
  · rcases hws with e | e
    · unfold cft at hc
      rw [if_neg (by omega), if_neg (by omega), if_pos e, Bool.and_eq_true] at hc
      have := some64_le hc.1
      omega
    · rw [e]; decide
theorem lk1_zero {f : Nat → Tp → Nat} : ∀ (l : List Tp) (o : Nat), (∀ r, lk1 f o l = some r → r.1 = 0) → ∀ (i : Nat) (t : Tp), l[i]? = some t → f (o + i) t = 0
  | [], _, _, i, t, h => by simp at h
  | u :: l, o, hn, i, t, h => by
    unfold lk1 at hn
    split at hn
    · rename_i h0
      exact absurd (hn _ rfl) h0
    · rename_i h0
      rcases i with _ | i
      · have e : u = t := by simpa using h
        subst e
        exact Decidable.not_not.1 h0
      · have := lk1_zero l (o + 1) hn i t (by simpa using h)
        rw [Nat.add_assoc, Nat.add_comm 1 i] at this
        exact this
theorem chk_shrt {l : List Tp} (h : (chk11 l).1 = 0) : Shrt l := fun t ht => by
  obtain ⟨i, hi, e⟩ := List.getElem_of_mem ht
  unfold chk11 at h
  split at h
  · exact absurd h (by decide)
  · refine aln_short (l := l) (i := i) ?_
    have := lk1_zero (f := aln l) l 0 (fun r hr => by rw [hr] at h; exact h) i t (by rw [List.getElem?_eq_getElem hi, e])
    rw [Nat.zero_add] at this
    exact this
structure Chw (w : World) (vt : Value) (B : Nat) (l : List Tp) (g : Nat) (wx : World) : Prop where
  r : wx.heap[g]? = some (.cells #[.func (.func 38) #[.agg #[vt, .map (some B)]] #[], .func (.func 39) #[.agg #[vt, .map (some B)]] #[], .func (.func 40) #[.agg #[vt, .map (some B)]] #[]] 105 (0, 0))
  b : Below w.heap.size w wx
  o : Sbok wx vt B l
theorem Chw.next {w wx wy : World} {vt : Value} {B g : Nat} {l : List Tp} (h : Chw w vt B l g wx) (hb : Below wx.heap.size wx wy) : Chw w vt B l g wy := ⟨(hb.block _ (blk_lt h.r)).trans h.r, h.b.trans (hb.mono h.b.size), h.o.next hb⟩
set_option maxRecDepth 1000000 in
set_option maxHeartbeats 1000000 in
theorem check11_wid (w : World) (hT : Tabs w) (hO : Otb w) (v : Value) (l : List Tp) (hv : TSl w v l) (hS : Wid l) : Calls Tryz.prog 15 #[v] w fun e w' => e = .returned (.tuple #[.int .i64 ((chk11 l).1 : Nat), .int .i64 ((chk11 l).2 : Nat)]) ∧ Below w.heap.size w w' := by
  have HT : Hid (∀ wy, Below w.heap.size w wy → Tabs wy) := fun wy hb => hT.next hb
  have HO : Hid (∀ wy, Below w.heap.size w wy → Otb wy) := fun wy hb => hO.next (keep_below hb)
  have HV := hide hv
  have HSH := hide hS
  have hmax := hv.max
  obtain ⟨⟨a, cap, rfl, _, _⟩, _⟩ := hv
  clear hT hO hS
  go_enter Tryz.func15, Tryz.ntmps15
  by_cases h64 : 64 < l.length
  · as_aux_lemma =>
    have g64 : (64 : Int) < (l.length : Int) := by omega
    have HR := hide (chk_many h64)
    clear h64
    go_wp2_with fail
    go_ret2
    exact ⟨by rw [HR.out]; rfl, Below.refl _ _⟩
  have g64 : ¬ (64 : Int) < (l.length : Int) := by omega
  have H64 := hide h64
  clear h64
  go_wp2_with fail
  refine (opened_any w _ l HV.out).mono ?_
  rintro e w1 ⟨B, rfl, hP⟩
  have HM := hide hP.out.2.1
  have HB1 := hide hP.out.2.2
  clear hP
  have HCB : Hid (∀ j u, (#[.slice a l.length cap, .map (some B)] : Array Value)[j]? = some u → (w1.alloc (.cells #[.slice a l.length cap, .map (some B)] 76)).cell? ⟨w1.heap.size, 0 + j, none⟩ = some u) := fun j u hu => by rw [Nat.zero_add]; exact blk_cell (heap_alloc_new w1 _) hu
  have HIB := hide infoBk
  have HAB : Hid (∀ w, (isAgg 76).run Tryz.prog w = .ok true w) := aggBk
  go_upto_region 5 with (first
    | (refine wpList_aggAt rfl rfl HIB.out HAB.out w1.heap.size 0 #[.slice a l.length cap, .map (some B)] rfl rfl HCB.out ?_))
  have hb2 := below_alloc4 w1 (.cells #[.slice a l.length cap, .map (some B)] 76)
  have hb3 := below_alloc4 (w1.alloc (.cells #[.slice a l.length cap, .map (some B)] 76)) (.cells #[.func (.func 38) #[.agg #[.slice a l.length cap, .map (some B)]] #[], .func (.func 39) #[.agg #[.slice a l.length cap, .map (some B)]] #[], .func (.func 40) #[.agg #[.slice a l.length cap, .map (some B)]] #[]] 105)
  have e1 : (w1.alloc (.cells #[.slice a l.length cap, .map (some B)] 76)).heap.size = w1.heap.size + 1 := by simp
  have HX : Hid (Chw w (.slice a l.length cap) B l (w1.heap.size + 1) ((w1.alloc (.cells #[.slice a l.length cap, .map (some B)] 76)).alloc (.cells #[.func (.func 38) #[.agg #[.slice a l.length cap, .map (some B)]] #[], .func (.func 39) #[.agg #[.slice a l.length cap, .map (some B)]] #[], .func (.func 40) #[.agg #[.slice a l.length cap, .map (some B)]] #[]] 105))) := by
    have h := heap_alloc_new (w1.alloc (.cells #[.slice a l.length cap, .map (some B)] 76)) (.cells #[.func (.func 38) #[.agg #[.slice a l.length cap, .map (some B)]] #[], .func (.func 39) #[.agg #[.slice a l.length cap, .map (some B)]] #[], .func (.func 40) #[.agg #[.slice a l.length cap, .map (some B)]] #[]] 105)
    rw [e1] at h
    exact ⟨h, (HB1.out.trans (hb2.mono HB1.out.size)).trans (hb3.mono (Nat.le_trans HB1.out.size hb2.size)), ((Sbok.mk (HV.out.mv (keep_below HB1.out)) HM.out).next hb2).next hb3⟩
  clear hb2 hb3 e1 HCB HM HB1 HV
  generalize (w1.alloc (.cells #[.slice a l.length cap, .map (some B)] 76)).alloc (.cells #[.func (.func 38) #[.agg #[.slice a l.length cap, .map (some B)]] #[], .func (.func 39) #[.agg #[.slice a l.length cap, .map (some B)]] #[], .func (.func 40) #[.agg #[.slice a l.length cap, .map (some B)]] #[]] 105) = w2 at *
  generalize w1.heap.size + 1 = G at *
  go_loopw [22] (fun vk wx => ∃ k : Nat, k ≤ 3 ∧ vk = .int .i64 (k : Nat) ∧ Hid (∀ k' j u, k' < k → l[j]? = some u → lks l k' j u = 0) ∧ Hid (Chw w (.slice a l.length cap) B l G wx)) (fun vk _ => 3 - (intOf vk).toNat)
  case atStart => exact ⟨0, by omega, rfl, fun k' _ _ hk => absurd hk (by omega), HX⟩
  case round =>
    obtain ⟨k, hk, rfl, HP, HX2⟩ := hrel
    clear HX
    by_cases hk3 : k < 3
    · rcases (show k = 0 ∨ k = 1 ∨ k = 2 by omega) with rfl | rfl | rfl
      · as_aux_lemma =>
        have cK : wr.cell? ⟨G, 0, none⟩ = some (.func (.func 38) #[.agg #[.slice a l.length cap, .map (some B)]] #[]) := blk_cell (j := 0) HX2.out.r rfl
        go_wp2_with fail
        clear cK
        go_loopw [28] (fun vj wz => ∃ j : Nat, j ≤ l.length ∧ vj = .int .i64 (j : Nat) ∧ Hid (∀ j' u, j' < j → l[j']? = some u → lks l 0 j' u = 0) ∧ Hid (Chw w (.slice a l.length cap) B l G wz)) (fun vj _ => l.length - (intOf vj).toNat)
        case atStart => exact ⟨0, by omega, rfl, fun j' _ hj => absurd hj (by omega), HX2⟩
        case round =>
          rename World => wz
          obtain ⟨j, hj, rfl, HZ, HX3⟩ := hrel
          clear HX2
          by_cases hjl : j < l.length
          · as_aux_lemma =>
            have g2 : (j : Int) < (l.length : Int) := by omega
            obtain ⟨t, ht⟩ : ∃ t, l[j]? = some t := ⟨l[j], List.getElem?_eq_getElem hjl⟩
            have HTJ := hide ht
            have HS := hide (HSH.out t (List.mem_of_getElem? ht))
            have HCA := hide (alone_wid wz (HT.out wz HX3.out.b) (HO.out wz HX3.out.b) _ B l HX3.out.o j t ht HS.out)
            clear ht
            go_wp2_with fail
            refine HCA.out.mono ?_
            rintro e w4 ⟨rfl, hb⟩
            have HX4 := hide (HX3.out.next hb)
            clear hb HCA HX3
            by_cases h0 : aln l j t = 0
            · have HZ2 : Hid (∀ j' u, j' < j + 1 → l[j']? = some u → lks l 0 j' u = 0) := fun j' u hj' hu => by
                by_cases e : j' = j
                · subst e
                  rw [HTJ.out] at hu
                  rw [← Option.some.inj hu]
                  exact h0
                · exact HZ.out j' u (by omega) hu
              rw [h0]
              clear h0 HZ
              go_wp2_with fail
              go_roundw
              case rel => exact ⟨_, _, _, _, _, _, _, _, _, _, _, _, _, _, _, ⟨j + 1, by omega, by go_num, HZ2, HX4⟩, rfl⟩
              case measure => simp [intOf]; omega
            · have HR : Hid (chk11 l = (aln l j t, j)) := chk_hit H64.out (k := 0) (by decide) HTJ.out h0 (fun k' j u hk => HP.out k' j u hk) HZ.out
              obtain ⟨E, hE⟩ : ∃ E, E = aln l j t := ⟨_, rfl⟩
              rw [← hE] at h0 HR
              rw [← hE]
              have gE : ((E : Int) != 0) = true := by
                rw [bne_iff_ne]
                omega
              clear h0 hE HZ HTJ HS
              go_wp2_with fail
              go_ret2
              exact ⟨by rw [HR.out]; rfl, HX4.out.b⟩
          · as_aux_lemma =>
            have g2 : ¬ (j : Int) < (l.length : Int) := by omega
            have HP2 : Hid (∀ k' j u, k' < 0 + 1 → l[j]? = some u → lks l k' j u = 0) := fun k' j' u hk hu => by
              by_cases e : k' = 0
              · subst e
                exact HZ.out j' u (by have := (List.getElem?_eq_some_iff.1 hu).1; omega) hu
              · exact HP.out k' j' u (by omega) hu
            go_wp2_with fail
            go_roundw
            case rel => exact ⟨0 + 1, by omega, rfl, HP2, HX3⟩
            case measure => simp [intOf]
      · as_aux_lemma =>
        have cK : wr.cell? ⟨G, 1, none⟩ = some (.func (.func 39) #[.agg #[.slice a l.length cap, .map (some B)]] #[]) := blk_cell (j := 1) HX2.out.r rfl
        go_wp2_with fail
        clear cK
        go_loopw [28] (fun vj wz => ∃ j : Nat, j ≤ l.length ∧ vj = .int .i64 (j : Nat) ∧ Hid (∀ j' u, j' < j → l[j']? = some u → lks l 1 j' u = 0) ∧ Hid (Chw w (.slice a l.length cap) B l G wz)) (fun vj _ => l.length - (intOf vj).toNat)
        case atStart => exact ⟨0, by omega, rfl, fun j' _ hj => absurd hj (by omega), HX2⟩
        case round =>
          rename World => wz
          obtain ⟨j, hj, rfl, HZ, HX3⟩ := hrel
          clear HX2
          by_cases hjl : j < l.length
          · as_aux_lemma =>
            have g2 : (j : Int) < (l.length : Int) := by omega
            obtain ⟨t, ht⟩ : ∃ t, l[j]? = some t := ⟨l[j], List.getElem?_eq_getElem hjl⟩
            have HTJ := hide ht
            have HS := hide (HSH.out t (List.mem_of_getElem? ht))
            have HCA := hide (ring_any wz (HO.out wz HX3.out.b) _ B l HX3.out.o (tsl_r HX3.out.o.t) j t ht)
            clear ht
            go_wp2_with fail
            refine HCA.out.mono ?_
            rintro e w4 ⟨rfl, hb⟩
            have HX4 := hide (HX3.out.next hb)
            clear hb HCA HX3
            by_cases h0 : rng l t = 0
            · have HZ2 : Hid (∀ j' u, j' < j + 1 → l[j']? = some u → lks l 1 j' u = 0) := fun j' u hj' hu => by
                by_cases e : j' = j
                · subst e
                  rw [HTJ.out] at hu
                  rw [← Option.some.inj hu]
                  exact h0
                · exact HZ.out j' u (by omega) hu
              rw [h0]
              clear h0 HZ
              go_wp2_with fail
              go_roundw
              case rel => exact ⟨_, _, _, _, _, _, _, _, _, _, _, _, _, _, _, ⟨j + 1, by omega, by go_num, HZ2, HX4⟩, rfl⟩
              case measure => simp [intOf]; omega
            · have HR : Hid (chk11 l = (rng l t, j)) := chk_hit H64.out (k := 1) (by decide) HTJ.out h0 (fun k' j u hk => HP.out k' j u hk) HZ.out
              obtain ⟨E, hE⟩ : ∃ E, E = rng l t := ⟨_, rfl⟩
              rw [← hE] at h0 HR
              rw [← hE]
              have gE : ((E : Int) != 0) = true := by
                rw [bne_iff_ne]
                omega
              clear h0 hE HZ HTJ HS
              go_wp2_with fail
              go_ret2
              exact ⟨by rw [HR.out]; rfl, HX4.out.b⟩
          · as_aux_lemma =>
            have g2 : ¬ (j : Int) < (l.length : Int) := by omega
            have HP2 : Hid (∀ k' j u, k' < 1 + 1 → l[j]? = some u → lks l k' j u = 0) := fun k' j' u hk hu => by
              by_cases e : k' = 1
              · subst e
                exact HZ.out j' u (by have := (List.getElem?_eq_some_iff.1 hu).1; omega) hu
              · exact HP.out k' j' u (by omega) hu
            go_wp2_with fail
            go_roundw
            case rel => exact ⟨1 + 1, by omega, rfl, HP2, HX3⟩
            case measure => simp [intOf]
      · as_aux_lemma =>
        have cK : wr.cell? ⟨G, 2, none⟩ = some (.func (.func 40) #[.agg #[.slice a l.length cap, .map (some B)]] #[]) := blk_cell (j := 2) HX2.out.r rfl
        go_wp2_with fail
        clear cK
        go_loopw [28] (fun vj wz => ∃ j : Nat, j ≤ l.length ∧ vj = .int .i64 (j : Nat) ∧ Hid (∀ j' u, j' < j → l[j']? = some u → lks l 2 j' u = 0) ∧ Hid (Chw w (.slice a l.length cap) B l G wz)) (fun vj _ => l.length - (intOf vj).toNat)
        case atStart => exact ⟨0, by omega, rfl, fun j' _ hj => absurd hj (by omega), HX2⟩
        case round =>
          rename World => wz
          obtain ⟨j, hj, rfl, HZ, HX3⟩ := hrel
          clear HX2
          by_cases hjl : j < l.length
          · as_aux_lemma =>
            have g2 : (j : Int) < (l.length : Int) := by omega
            obtain ⟨t, ht⟩ : ∃ t, l[j]? = some t := ⟨l[j], List.getElem?_eq_getElem hjl⟩
            have HTJ := hide ht
            have HS := hide (aln_short (HP.out 0 j t (by omega) ht))
            have HCA := hide (together_any wz (HO.out wz HX3.out.b) _ B l HX3.out.o (tsl_r HX3.out.o.t) j t ht HS.out.1 HS.out.2.1)
            clear ht
            go_wp2_with fail
            refine HCA.out.mono ?_
            rintro e w4 ⟨rfl, hb⟩
            have HX4 := hide (HX3.out.next hb)
            clear hb HCA HX3
            by_cases h0 : tgt l t = 0
            · have HZ2 : Hid (∀ j' u, j' < j + 1 → l[j']? = some u → lks l 2 j' u = 0) := fun j' u hj' hu => by
                by_cases e : j' = j
                · subst e
                  rw [HTJ.out] at hu
                  rw [← Option.some.inj hu]
                  exact h0
                · exact HZ.out j' u (by omega) hu
              rw [h0]
              clear h0 HZ
              go_wp2_with fail
              go_roundw
              case rel => exact ⟨_, _, _, _, _, _, _, _, _, _, _, _, _, _, _, ⟨j + 1, by omega, by go_num, HZ2, HX4⟩, rfl⟩
              case measure => simp [intOf]; omega
            · have HR : Hid (chk11 l = (tgt l t, j)) := chk_hit H64.out (k := 2) (by decide) HTJ.out h0 (fun k' j u hk => HP.out k' j u hk) HZ.out
              obtain ⟨E, hE⟩ : ∃ E, E = tgt l t := ⟨_, rfl⟩
              rw [← hE] at h0 HR
              rw [← hE]
              have gE : ((E : Int) != 0) = true := by
                rw [bne_iff_ne]
                omega
              clear h0 hE HZ HTJ HS
              go_wp2_with fail
              go_ret2
              exact ⟨by rw [HR.out]; rfl, HX4.out.b⟩
          · as_aux_lemma =>
            have g2 : ¬ (j : Int) < (l.length : Int) := by omega
            have HP2 : Hid (∀ k' j u, k' < 2 + 1 → l[j]? = some u → lks l k' j u = 0) := fun k' j' u hk hu => by
              by_cases e : k' = 2
              · subst e
                exact HZ.out j' u (by have := (List.getElem?_eq_some_iff.1 hu).1; omega) hu
              · exact HP.out k' j' u (by omega) hu
            go_wp2_with fail
            go_roundw
            case rel => exact ⟨2 + 1, by omega, rfl, HP2, HX3⟩
            case measure => simp [intOf]
    · as_aux_lemma =>
      have g2 : ¬ (k : Int) < 3 := by omega
      have HR := hide (chk_ok H64.out (fun k' j u hk => HP.out k' j u (by omega)))
      go_wp2_with fail
      go_ret2
      exact ⟨by rw [HR.out]; rfl, HX2.out.b⟩
theorem check11_any (w : World) (hT : Tabs w) (hO : Otb w) (v : Value) (l : List Tp) (hv : TSl w v l) (hS : Shrt l) : Calls Tryz.prog 15 #[v] w fun e w' => e = .returned (.tuple #[.int .i64 ((chk11 l).1 : Nat), .int .i64 ((chk11 l).2 : Nat)]) ∧ Below w.heap.size w w' := check11_wid w hT hO v l hv (shrt_wid hS)
end
section
open Go.RowKit Go
def Tpk (wx : World) (S : Nat → Prop) (t : Tp) (c : Array Value) : Prop := ∀ wy, Kp S wx wy → Tpi wy t c
theorem Tpk.kp {wx wy : World} {S : Nat → Prop} {t : Tp} {c : Array Value} (h : Tpk wx S t c) (hk : Kp S wx wy) : Tpk wy S t c := fun wz hz => h wz (hk.trans hz (fun _ _ e => e))
theorem Tpk.next {wx wy : World} {S : Nat → Prop} {t : Tp} {c : Array Value} (h : Tpk wx S t c) (hb : Below wx.heap.size wx wy) : Tpk wy S t c := h.kp (Kp.mono (Kp.of_below (S := fun _ => False) hb) (fun _ _ e => e.elim))
theorem Tpk.tpi {wx : World} {S : Nat → Prop} {t : Tp} {c : Array Value} (h : Tpk wx S t c) : Tpi wx t c := h wx (Kp.refl _ _)
structure Opw (w : World) (v : Value) (L : List (Array Value)) (ts : List Tp) (wx : World) : Prop where
  o : wx.ownsRow w.heap.size 69 9 v L.length (gfl L)
  n : L.length = ts.length
  z : ∀ c ∈ L, c.size = 9
  k : ∀ (i : Nat) (t : Tp) (c : Array Value), ts[i]? = some t → L[i]? = some c → Tpk wx (fun q => q < w.heap.size ∨ v.ownBlock = some q) t c
  b : Below w.heap.size w wx
theorem Opw.start (w : World) : Opw w (.slice none 0 0) [] [] w := ⟨World.ownsRow_nil _ _ _ _, rfl, fun _ h => by simp at h, fun i _ _ h => by simp at h, Below.refl _ _⟩
theorem Opw.next {w wx wy : World} {v : Value} {L : List (Array Value)} {ts : List Tp} (h : Opw w v L ts wx) (hb : Below wx.heap.size wx wy) : Opw w v L ts wy :=
  ⟨(Kp.of_below (S := fun _ => False) hb).owns h.o (fun _ _ e => e), h.n, h.z, fun i t c h1 h2 => (h.k i t c h1 h2).next hb, h.b.trans (hb.mono h.b.size)⟩
theorem Opw.app {w wx wy : World} {v v' : Value} {L : List (Array Value)} {ts : List Tp} {t : Tp} {c : Array Value} (h : Opw w v L ts wx) (hg : wx.grownBy wy v.ownBlock) (ho : wy.ownsRow w.heap.size 69 9 v' (L.length + 1) (gfl (L ++ [c]))) (hl : v'.ownBlock = v.ownBlock ∨ v'.ownBlock = some wx.heap.size) (hc : c.size = 9) (hk : Tpk wx (fun q => q < w.heap.size ∨ v.ownBlock = some q) t c) : Opw w v' (L ++ [c]) (ts ++ [t]) wy := by
  have hkp := kp_grown hg
  have hone : ∀ (t : Tp) (c : Array Value), Tpk wx (fun q => q < w.heap.size ∨ v.ownBlock = some q) t c → Tpk wy (fun q => q < w.heap.size ∨ v'.ownBlock = some q) t c := fun t c h2 wz hz => by
    refine h2 wz (Kp.trans (hkp.mono (fun q _ e => .inr e)) hz (fun q hq e => ?_))
    rcases e with e | e
    · exact .inl e
    · rcases hl with h3 | h3
      · rw [h3] at e
        exact .inr e
      · rw [h3] at e
        have := Option.some.inj e
        omega
  refine ⟨by rw [List.length_append]; exact ho, by rw [List.length_append, List.length_append, h.n]; rfl, fun d hd => ?_, fun i u d h1 h2 => ?_, ?_⟩
  · rcases List.mem_append.1 hd with hd | hd
    · exact h.z d hd
    · rw [List.mem_singleton.1 hd]; exact hc
  · by_cases hi : i < ts.length
    · rw [List.getElem?_append_left hi] at h1
      rw [List.getElem?_append_left (by rw [h.n]; exact hi)] at h2
      exact hone u d (h.k i u d h1 h2)
    · have e : i = ts.length := by
        have := (List.getElem?_eq_some_iff.1 h1).1
        rw [List.length_append, List.length_singleton] at this
        omega
      subst e
      rw [List.getElem?_append_right (Nat.le_refl _), Nat.sub_self] at h1
      rw [← h.n, List.getElem?_append_right (Nat.le_refl _), Nat.sub_self] at h2
      have e1 : t = u := by simpa using h1
      have e2 : c = d := by simpa using h2
      subst e1
      subst e2
      exact hone t c hk
  · refine h.b.trans (hkp.below h.b.size (fun q e => ?_))
    exact (h.o.lt q e).1
theorem Opw.tsl {w wx : World} {v : Value} {L : List (Array Value)} {ts : List Tp} (h : Opw w v L ts wx) (hm : ts.length ≤ 140737488351232) : TSl wx v ts := own_gsl h.o h.z h.n hm (fun i t c h1 h2 => (h.k i t c h1 h2).tpi)
structure Tbl (w : World) (g : Nat) (l : List Tp) (d : Int) (m : Value) : Prop where
  e : ∃ vt B, w.heap[g]? = some (.cells #[vt, .map (some B), .int .u32 d, .int .i32 0, .int .u32 0, m] 92 (0, 0)) ∧ Sbok w vt B l ∧ ∀ wy, Kp (fun q => q = g) w wy → TSl wy vt l
structure Tbm (w : World) (N g : Nat) (l : List Tp) (d : Int) (m : Value) : Prop where
  e : ∃ vt B, w.heap[g]? = some (.cells #[vt, .map (some B), .int .u32 d, .int .i32 0, .int .u32 0, m] 92 (0, 0)) ∧ ∀ wy, Kp (fun q => q < N ∨ q = g) w wy → Sbok wy vt B l
theorem Tbm.tbl {w : World} {N g : Nat} {l : List Tp} {d : Int} {m : Value} (h : Tbm w N g l d m) : Tbl w g l d m := by
  obtain ⟨vt, B, h1, h2⟩ := h.e
  exact ⟨⟨vt, B, h1, h2 w (Kp.refl _ _), fun wy hk => (h2 wy (hk.mono (fun _ _ e => .inr e))).t⟩⟩
theorem Tbm.next {w w' : World} {N g : Nat} {l : List Tp} {d : Int} {m : Value} (h : Tbm w N g l d m) (hb : Below w.heap.size w w') : Tbm w' N g l d m := by
  obtain ⟨vt, B, h1, h2⟩ := h.e
  exact ⟨⟨vt, B, (hb.block _ (blk_lt h1)).trans h1, fun wy hk => h2 wy ((Kp.mono (Kp.of_below (S := fun _ => False) hb) (fun _ _ e => e.elim)).trans hk (fun _ _ e => e))⟩⟩
theorem Tbm.kp {w w' : World} {N g : Nat} {l : List Tp} {d : Int} {m : Value} {S : Nat → Prop} (h : Tbm w N g l d m) (hk : Kp S w w') (hs : ∀ q, S q → q < N) (hg : N ≤ g) : Tbm w' N g l d m := by
  obtain ⟨vt, B, h1, h2⟩ := h.e
  exact ⟨⟨vt, B, (hk.block _ (blk_lt h1) (fun e => by have := hs g e; omega)).trans h1, fun wy hk2 => h2 wy ((hk.mono (fun q _ e => .inl (hs q e))).trans hk2 (fun _ _ e => e))⟩⟩
set_option maxRecDepth 1000000 in
set_option maxHeartbeats 1000000 in
theorem open_wid (w : World) (hT : Tabs w) (hO : Otb w) (v : Value) (l : List Tp) (hv : TSl w v l) (hS : Wid l) : Calls Tryz.prog 7 #[v] w fun e w' => (∃ vp, e = .returned (.tuple #[vp, .int .i64 ((chk11 l).1 : Nat)]) ∧ ((chk11 l).1 ≠ 0 → vp = .pointer none) ∧ ((chk11 l).1 = 0 → ∃ g, vp = .pointer (some ⟨g, 0, none⟩) ∧ w.heap.size ≤ g ∧ Tbm w' w.heap.size g l 0 (.map none))) ∧ Below w.heap.size w w' := by
  have HV := hide hv
  have hmax := hv.max
  have HCK := hide (check11_wid w hT hO v l hv hS)
  obtain ⟨⟨a, cap, rfl, _, hform⟩, _⟩ := hv
  have HF := hide hform
  clear hform hT hO hS
  go_enter Tryz.func7, Tryz.ntmps7
  go_wp2_with fail
  refine HCK.out.mono ?_
  rintro e w1 ⟨rfl, hb1⟩
  have HB1 := hide hb1
  clear hb1 HCK
  obtain ⟨E, hE⟩ : ∃ E, E = (chk11 l).1 := ⟨_, rfl⟩
  rw [← hE]
  have HE := hide hE
  clear hE
  by_cases h0 : E = 0
  rotate_left
  · as_aux_lemma =>
    have g0 : ((E : Int) != 0) = true := by rw [bne_iff_ne]; omega
    have HE0 := hide h0
    clear h0
    go_wp2_with fail
    go_ret2
    refine ⟨⟨_, by rw [← HE.out]; rfl, fun _ => rfl, fun h => absurd (HE.out.trans h) HE0.out⟩, HB1.out⟩
  · have HE0 := hide h0
    have HSH : Hid (Shrt l) := chk_shrt (HE.out.symm.trans h0)
    have g0 : ((E : Int) != 0) = false := by rw [h0]; rfl
    have H64 : Hid (l.length ≤ 64) := by
      show _ ≤ _
      by_cases h : 64 < l.length
      · have h2 := HE.out
        rw [chk_many h] at h2
        omega
      · omega
    clear h0
    have HX := hide (Opw.start w1)
    go_wp2_with fail
    go_loopw [6, 19] (fun vo vi wx => ∃ (i : Nat) (a0 : Option Addr) (n0 c0 : Nat) (L : List (Array Value)), i ≤ l.length ∧ vo = .slice a0 n0 c0 ∧ vi = .int .i64 (i : Nat) ∧ Hid (Opw w1 (.slice a0 n0 c0) L (l.take i) wx)) (fun _ vi _ => l.length - (intOf vi).toNat)
    case atStart => exact ⟨0, none, 0, 0, [], by omega, rfl, rfl, HX⟩
    case round =>
      obtain ⟨i, a0, n0, c0, L, hi, rfl, rfl, HXi⟩ := hrel
      clear HX
      by_cases hlt : i < l.length
      · as_aux_lemma =>
        have g1 : (i : Int) < (l.length : Int) := by omega
        obtain ⟨t, ht⟩ : ∃ t, l[i]? = some t := ⟨l[i], List.getElem?_eq_getElem hlt⟩
        obtain ⟨b, off, rfl, hcc⟩ := HF.out.resolve_left (fun h => by rw [h] at hlt; simp at hlt)
        obtain ⟨c, hc, hcell⟩ := hcc i t ht
        have HC := hide hc
        obtain ⟨⟨vf, vc, vw, rfl, ⟨⟨af, cf, rfl, -, hff⟩, hfm⟩, ⟨⟨ac, cc, rfl, -, hcf⟩, hcm⟩, ⟨⟨aw, cw, rfl, -, -⟩, hwm, -⟩⟩, hbd⟩ := hc
        unfold tpc at hcell HC
        have hbw : Below w.heap.size w wr := HB1.out.trans (HXi.out.b.mono HB1.out.size)
        have HCL : Hid (∀ j u, (#[.string t.n, .int .i64 t.k, .int .i64 t.lo, .int .i64 t.hi, .string t.r.n, .bool t.r.z, .slice af t.fs.length cf, .slice ac t.cs.length cc, .slice aw t.ws.length cw] : Array Value)[j]? = some u → wr.cell? ⟨b, off + i * 9 + j, none⟩ = some u) := fun j u hj => keep_below hbw _ _ (hcell j u hj)
        have hb2 := below_alloc4 wr (.cells #[.string t.n, .int .i64 t.k, .int .i64 t.lo, .int .i64 t.hi, .string t.r.n, .bool t.r.z, .slice af t.fs.length cf, .slice ac t.cs.length cc, .slice aw t.ws.length cw] 69)
        have HC2 : Hid (Tpi (wr.alloc (.cells #[.string t.n, .int .i64 t.k, .int .i64 t.lo, .int .i64 t.hi, .string t.r.n, .bool t.r.z, .slice af t.fs.length cf, .slice ac t.cs.length cc, .slice aw t.ws.length cw] 69)) t #[.string t.n, .int .i64 t.k, .int .i64 t.lo, .int .i64 t.hi, .string t.r.n, .bool t.r.z, .slice af t.fs.length cf, .slice ac t.cs.length cc, .slice aw t.ws.length cw]) := HC.out.move (keep_below (hbw.trans (hb2.mono hbw.size)))
        have HX2 := hide (HXi.out.next hb2)
        have HTC : Hid (∀ j u, (#[.string t.n, .int .i64 t.k, .int .i64 t.lo, .int .i64 t.hi, .string t.r.n, .bool t.r.z, .slice af t.fs.length cf, .slice ac t.cs.length cc, .slice aw t.ws.length cw] : Array Value)[j]? = some u → (wr.alloc (.cells #[.string t.n, .int .i64 t.k, .int .i64 t.lo, .int .i64 t.hi, .string t.r.n, .bool t.r.z, .slice af t.fs.length cf, .slice ac t.cs.length cc, .slice aw t.ws.length cw] 69)).cell? ⟨wr.heap.size, 0 + j, none⟩ = some u) := fun j u hu => by rw [Nat.zero_add]; exact blk_cell (heap_alloc_new wr _) hu
        have HS := hide (HSH.out t (List.mem_of_getElem? ht))
        have HTK := hide (takeP l i t ht)
        have HLL : Hid (L.length ≤ 1000000) := by
          have h1 := HXi.out.n
          rw [List.length_take] at h1
          have h2 := H64.out
          show _ ≤ _
          omega
        have HIT := hide infoTp
        have HAT : Hid (∀ w, (isAgg 69).run Tryz.prog w = .ok true w) := aggTp
        clear hcc hcell hff hfm hcf hcm hwm hbd ht HXi HF HC hb2 hbw
        go_wp2_with (first
          | (refine wpList_aggAt rfl rfl HIT.out HAT.out b (off + i * 9) #[.string t.n, .int .i64 t.k, .int .i64 t.lo, .int .i64 t.hi, .string t.r.n, .bool t.r.z, .slice af t.fs.length cf, .slice ac t.cs.length cc, .slice aw t.ws.length cw] rfl rfl HCL.out ?_)
          | (refine wpList_aggAt rfl rfl HIT.out HAT.out wr.heap.size 0 #[.string t.n, .int .i64 t.k, .int .i64 t.lo, .int .i64 t.hi, .string t.r.n, .bool t.r.z, .slice af t.fs.length cf, .slice ac t.cs.length cc, .slice aw t.ws.length cw] rfl rfl HTC.out ?_))
        generalize wr.alloc (.cells #[.string t.n, .int .i64 t.k, .int .i64 t.lo, .int .i64 t.hi, .string t.r.n, .bool t.r.z, .slice af t.fs.length cf, .slice ac t.cs.length cc, .slice aw t.ws.length cw] 69) = w2 at *
        refine (fresh_any w2 t _ HC2.out HS.out.1 HS.out.2.1 HS.out.2.2).mono ?_
        rintro e w3 ⟨c', rfl, hP⟩
        have hb3 := hP.out.2.1
        have hb4 := below_alloc4 w3 (.cells c' 69)
        have HX4 := hide ((HX2.out.next hb3).next hb4)
        have HK4 : Hid (Tpk (w3.alloc (.cells c' 69)) (fun q => q < w1.heap.size ∨ (Value.slice a0 n0 c0).ownBlock = some q) t c') := fun wy hk => hP.out.2.2 _ wy (fun q e => by
          rcases e with e | e
          · exact Nat.lt_of_lt_of_le e HX2.out.b.size
          · exact (HX2.out.o.lt q e).2) ((Kp.mono (Kp.of_below (S := fun _ => False) hb4) (fun _ _ e => e.elim)).trans hk (fun _ _ e => e))
        have HZ9 := hide hP.out.1.size9
        have H1C : Hid (∀ u ∈ c'.toList, u.oneCell' = true) := fun u hu => by
          have h := hP.out.1.all1
          rw [Array.all_eq_true_iff_forall_mem] at h
          exact h u (by simpa using hu)
        have HAL : Hid (w1.heap.size ≤ (w3.alloc (.cells c' 69)).heap.size) := HX4.out.b.size
        have HAP : Hid (∀ (ops : Array Oper) (rest : List Oper) (o : Oper) (ac : Act) (Q : Exit → Act → World → Prop) (s y : Operand), o.guard = none → o.op = .call { callee := .builtin .append, args := #[s, y], argTypes := #[49, 49] } → ac.eval s = .slice a0 n0 c0 → ac.eval y = .slice (some ⟨w3.heap.size, 0, none⟩) 1 1 → (∀ v' w', Opw w1 v' (L ++ [c']) (l.take (i + 1)) w' → wpList Tryz.prog ops Q rest (ac.put o.dst v') w') → wpList Tryz.prog ops Q (o :: rest) ac (w3.alloc (.cells c' 69))) := fun ops rest o ac Q s y h1 h2 h3 h4 h5 =>
          append_g infoTp3 Tryz.underlying49 rfl (by decide) (by decide) h1 h2 h3 HX4.out.o h4 (heap_alloc_new w3 _) HZ9.out H1C.out HLL.out HAL.out (fun v' w' h6 h7 h8 => h5 v' w' (by rw [HTK.out]; exact HX4.out.app h7 h6 h8 HZ9.out HK4.out))
        clear hP hb3 hb4 HCL HTC HC2
        go_wp2_with (first
          | (refine row1 infoTp3 Tryz.underlying49 (by decide) (by decide) rfl rfl rfl (c := c') rfl HZ9.out ?_)
          | (refine HAP.out _ _ _ _ _ _ _ rfl rfl rfl rfl ?_; intro v' w' hr'))
        obtain ⟨a2, c2, hv0, _⟩ := own_formG hr'.o
        subst hv0
        have HR' := hide hr'
        clear hr'
        go_wp2_with fail
        go_roundw
        case rel => exact ⟨i + 1, _, _, _, _, by omega, rfl, by go_num, HR'⟩
        case measure => simp [intOf]; omega
      · as_aux_lemma =>
        have g1 : ¬ (i : Int) < (l.length : Int) := by omega
        have HX2 : Hid (Opw w1 (.slice a0 n0 c0) L l wr) := by have h := HXi.out; rw [List.take_of_length_le (by omega)] at h; exact h
        clear HXi HF
        go_wp2_with fail
        refine (opened_any wr _ l (HX2.out.tsl (by omega))).mono ?_
        rintro e w4 ⟨B, rfl, hP⟩
        have HM := hide hP.out.2.1
        have HB4 := hide hP.out.2.2
        have HBN := hide hP.out.1
        clear hP
        have HBW : Hid (Below w.heap.size w w4) := (HB1.out.trans (HX2.out.b.mono HB1.out.size)).trans (HB4.out.mono (Nat.le_trans HB1.out.size HX2.out.b.size))
        have HOK : Hid (∀ wy, Kp (fun q => q < w.heap.size ∨ q = w4.heap.size) w4 wy → Sbok wy (.slice a0 n0 c0) B l) := fun wy hk => by
          have hk2 : Kp (fun q => q < w.heap.size ∨ q = w4.heap.size) wr wy := (Kp.mono (Kp.of_below (S := fun _ => False) HB4.out) (fun _ _ e => e.elim)).trans hk (fun _ _ e => e)
          have hz1 := HB1.out.size
          have hz2 := HB4.out.size
          have hz3 := HX2.out.b.size
          have hbn := HBN.out
          obtain ⟨n, hm⟩ := HM.out
          have hml := hm.lt
          refine ⟨own_gsl (hk2.owns HX2.out.o (fun q e hs => ?_)) HX2.out.z HX2.out.n (by omega) (fun i t c h1 h2 => HX2.out.k i t c h1 h2 wy (hk2.mono (fun q hq e => ?_))), ⟨n, hm.kp hk (fun e => ?_)⟩⟩
          · have h1 := HX2.out.o.lt q e
            have hs' : q < w.heap.size ∨ q = w4.heap.size := hs
            omega
          · have e' : q < w.heap.size ∨ q = w4.heap.size := e
            exact .inl (by omega)
          · have e' : B < w.heap.size ∨ B = w4.heap.size := e
            omega
        clear HM HB4 HX2 HBN
        go_wp2_with fail
        go_ret2
        have hb5 := below_alloc4 w4 (.cells #[.slice a0 n0 c0, .map (some B), .int .u32 0, .int .i32 0, .int .u32 0, .map none] 92)
        refine ⟨⟨_, by rw [← HE.out, HE0.out]; rfl, fun h => absurd (HE.out.symm.trans HE0.out) h, fun _ => ⟨w4.heap.size, rfl, HBW.out.size, ⟨⟨_, _, heap_alloc_new w4 _, fun wy hk => HOK.out wy ((Kp.mono (Kp.of_below (S := fun _ => False) hb5) (fun _ _ e => e.elim)).trans hk (fun _ _ e => e))⟩⟩⟩⟩, HBW.out.trans (hb5.mono HBW.out.size)⟩
theorem open_any (w : World) (hT : Tabs w) (hO : Otb w) (v : Value) (l : List Tp) (hv : TSl w v l) (hS : Shrt l) : Calls Tryz.prog 7 #[v] w fun e w' => (∃ vp, e = .returned (.tuple #[vp, .int .i64 ((chk11 l).1 : Nat)]) ∧ ((chk11 l).1 ≠ 0 → vp = .pointer none) ∧ ((chk11 l).1 = 0 → ∃ g, vp = .pointer (some ⟨g, 0, none⟩) ∧ w.heap.size ≤ g ∧ Tbm w' w.heap.size g l 0 (.map none))) ∧ Below w.heap.size w w' := open_wid w hT hO v l hv (shrt_wid hS)
end
section
open Go.RowKit Go
theorem shrt_fnd {l : List Tp} (h : Shrt l) (s : ByteArray) : (fnd l s).1.fs.length ≤ 1000 ∧ (fnd l s).1.cs.length ≤ 1000 ∧ (fnd l s).1.ws.length ≤ 1000 := by
  unfold fnd
  cases hp : plc l s with
  | some i =>
    obtain ⟨t, ht, _⟩ := plc_lt hp
    simp only [List.getD, ht]
    exact h t (List.mem_of_getElem? ht)
  | none =>
    simp only
    split
    · exact ⟨Nat.zero_le _, Nat.zero_le _, Nat.zero_le _⟩
    · exact ⟨Nat.zero_le _, Nat.zero_le _, Nat.zero_le _⟩
set_option maxRecDepth 1000000 in
set_option maxHeartbeats 1000000 in
theorem tfind_any (w : World) (hO : Otb w) (g : Nat) (l : List Tp) (d : Int) (m : Value) (hTb : Tbl w g l d m) (hS : Shrt l) (s : ByteArray) (hs : s.size ≤ 140737488351232) : Calls Tryz.prog 16 #[.pointer (some ⟨g, 0, none⟩), .string s] w fun e w' => ∃ c, e = .returned (.tuple #[.agg c, .bool (fnd l s).2]) ∧ Hid (Tpi w' (fnd l s).1 c ∧ Below w.heap.size w w') := by
  have HO := hide hO
  have HS := hide hs
  have HSF := hide (shrt_fnd hS s)
  obtain ⟨vt, B, hg, hB, _⟩ := hTb.e
  have HB := hide hB
  obtain ⟨⟨⟨a, cap, rfl, _, _⟩, _⟩, _⟩ := hB
  have hb0 := below_alloc4 w (.cells #[.string ⟨#[]⟩, .int .i64 0, .int .i64 0, .int .i64 0, .string ⟨#[]⟩, .bool false, .slice none 0 0, .slice none 0 0, .slice none 0 0] 69)
  have HB0 := hide hb0
  have hg1 := (hb0.block _ (blk_lt hg)).trans hg
  have HCB : Hid (∀ j u, (#[.slice a l.length cap, .map (some B)] : Array Value)[j]? = some u → (w.alloc (.cells #[.string ⟨#[]⟩, .int .i64 0, .int .i64 0, .int .i64 0, .string ⟨#[]⟩, .bool false, .slice none 0 0, .slice none 0 0, .slice none 0 0] 69)).cell? ⟨g, 0 + j, none⟩ = some u) := sub_cell (o := 0) hg1 (fun j u hj => by
    rcases j with _ | _ | j
    · exact hj
    · exact hj
    · simp at hj)
  have HR0 := hide (heap_alloc_new w (.cells #[.string ⟨#[]⟩, .int .i64 0, .int .i64 0, .int .i64 0, .string ⟨#[]⟩, .bool false, .slice none 0 0, .slice none 0 0, .slice none 0 0] 69))
  have HIB := hide infoBk
  have HAB : Hid (∀ w, (isAgg 76).run Tryz.prog w = .ok true w) := aggBk
  have HIT := hide infoTp
  have HAT : Hid (∀ w, (isAgg 69).run Tryz.prog w = .ok true w) := aggTp
  clear hO hs hTb hS hb0 hg hg1
  go_enter Tryz.func16, Tryz.ntmps16
  go_wp2_with (refine wpList_aggAt rfl rfl HIB.out HAB.out g 0 #[.slice a l.length cap, .map (some B)] rfl rfl HCB.out ?_)
  generalize w.alloc (.cells #[.string ⟨#[]⟩, .int .i64 0, .int .i64 0, .int .i64 0, .string ⟨#[]⟩, .bool false, .slice none 0 0, .slice none 0 0, .slice none 0 0] 69) = w1 at *
  refine (find_any w1 (HO.out.next (keep_below HB0.out)) _ B l (HB.out.next HB0.out) s HS.out).mono ?_
  rintro e w2 ⟨c, rfl, hc, hb⟩
  obtain ⟨t, ht⟩ : ∃ t, t = (fnd l s).1 := ⟨_, rfl⟩
  have HTE := hide ht
  rw [← ht] at hc HSF
  clear ht
  have HC := hide hc
  obtain ⟨⟨vf, vc, vw, rfl, ⟨⟨af, cf, rfl, -, -⟩, -⟩, ⟨⟨ac, cc, rfl, -, -⟩, -⟩, ⟨⟨aw, cw, rfl, -, -⟩, -, -⟩⟩, -⟩ := hc
  unfold tpc at HC
  unfold tpc
  have hb3 := below_alloc4 w2 (.cells #[.string t.n, .int .i64 t.k, .int .i64 t.lo, .int .i64 t.hi, .string t.r.n, .bool t.r.z, .slice af t.fs.length cf, .slice ac t.cs.length cc, .slice aw t.ws.length cw] 69)
  have hr2 := (hb.block _ (blk_lt HR0.out)).trans HR0.out
  have HR3 := hide ((hb3.block _ (blk_lt hr2)).trans hr2)
  have HB3 : Hid (Below w.heap.size w (w2.alloc (.cells #[.string t.n, .int .i64 t.k, .int .i64 t.lo, .int .i64 t.hi, .string t.r.n, .bool t.r.z, .slice af t.fs.length cf, .slice ac t.cs.length cc, .slice aw t.ws.length cw] 69))) := (HB0.out.trans (hb.mono HB0.out.size)).trans (hb3.mono (Nat.le_trans HB0.out.size hb.size))
  have HC3 := hide (HC.out.move (keep_below hb3))
  have HTC : Hid (∀ j u, (#[.string t.n, .int .i64 t.k, .int .i64 t.lo, .int .i64 t.hi, .string t.r.n, .bool t.r.z, .slice af t.fs.length cf, .slice ac t.cs.length cc, .slice aw t.ws.length cw] : Array Value)[j]? = some u → (w2.alloc (.cells #[.string t.n, .int .i64 t.k, .int .i64 t.lo, .int .i64 t.hi, .string t.r.n, .bool t.r.z, .slice af t.fs.length cf, .slice ac t.cs.length cc, .slice aw t.ws.length cw] 69)).cell? ⟨w2.heap.size, 0 + j, none⟩ = some u) := fun j u hu => by rw [Nat.zero_add]; exact blk_cell (heap_alloc_new w2 _) hu
  clear hb hb3 hr2 HC HCB HR0
  go_wp2_with (refine wpList_aggAt rfl rfl HIT.out HAT.out w2.heap.size 0 #[.string t.n, .int .i64 t.k, .int .i64 t.lo, .int .i64 t.hi, .string t.r.n, .bool t.r.z, .slice af t.fs.length cf, .slice ac t.cs.length cc, .slice aw t.ws.length cw] rfl rfl HTC.out ?_)
  generalize w2.alloc (.cells #[.string t.n, .int .i64 t.k, .int .i64 t.lo, .int .i64 t.hi, .string t.r.n, .bool t.r.z, .slice af t.fs.length cf, .slice ac t.cs.length cc, .slice aw t.ws.length cw] 69) = w3 at *
  refine (fresh_any w3 t _ HC3.out HSF.out.1 HSF.out.2.1 HSF.out.2.2).mono ?_
  rintro e w4 ⟨c', rfl, hP⟩
  have hb4 := hP.out.2.1
  have HR4 := hide ((hb4.block _ (blk_lt HR3.out)).trans HR3.out)
  have HB4 : Hid (Below w.heap.size w w4) := HB3.out.trans (hb4.mono HB3.out.size)
  have HK4 : Hid (∀ wy, Kp (fun q => q = w.heap.size) w4 wy → Tpi wy t c') := fun wy hk => hP.out.2.2 _ wy (fun q e => by rw [e]; exact blk_lt HR3.out) hk
  have HZ9 := hide hP.out.1.size9
  have HA1 := hide hP.out.1.all1
  have HI2 : Hid ((Tryz.prog.info? 69).map (·.size) = some c'.size) := by show _ = _; rw [HZ9.out]; exact infoTp
  have HZ2 : Hid ((#[.string ⟨#[]⟩, .int .i64 0, .int .i64 0, .int .i64 0, .string ⟨#[]⟩, .bool false, .slice none 0 0, .slice none 0 0, .slice none 0 0] : Array Value).size = c'.size) := by show _ = _; rw [HZ9.out]; rfl
  clear hP hb4 HR3 HB3 HC3 HTC
  go_wp2_with (refine wpList_storeRow rfl rfl w.heap.size #[.string ⟨#[]⟩, .int .i64 0, .int .i64 0, .int .i64 0, .string ⟨#[]⟩, .bool false, .slice none 0 0, .slice none 0 0, .slice none 0 0] c' 69 rfl rfl HR4.out HI2.out HZ2.out HA1.out ?_)
  have hkr := row_kp w4 w.heap.size c'
  exact bodyPost_ret (end_ct rfl (row_same HR4.out) rfl rfl Tryz.underlying69 HI2.out) rfl ⟨_, rfl, HTE.out ▸ HK4.out _ hkr, HB4.out.trans (hkr.below HB4.out.size (fun q e => by omega))⟩
end
section
open Go.RowKit Go
structure Nmd (p q B n : Nat) (L : List ByteArray) (w : World) : Prop where
  p : w.heap[p]? = some (.cells #[.func (.func 107) #[] #[.pointer (some ⟨q, 0, none⟩)]] 72 (0, 0))
  s : Str q B n L w
theorem Nmd.next {p q B n : Nat} {L : List ByteArray} {w w' : World} (h : Nmd p q B n L w) (hb : Below w.heap.size w w') : Nmd p q B n L w' := ⟨(hb.block _ (blk_lt h.p)).trans h.p, h.s.next hb⟩
structure Lck (v p q B n : Nat) (L : List ByteArray) (w : World) : Prop where
  v : w.heap[v]? = some (.cells #[.func (.func 150) #[] #[.pointer (some ⟨p, 0, none⟩)]] 136 (0, 0))
  d : Nmd p q B n L w
theorem Lck.next {v p q B n : Nat} {L : List ByteArray} {w w' : World} (h : Lck v p q B n L w) (hb : Below w.heap.size w w') : Lck v p q B n L w' := ⟨(hb.block _ (blk_lt h.v)).trans h.v, h.d.next hb⟩
def lck (L : List ByteArray) (r : Rf) : Bool := !r.z && !memb L r.n
set_option maxRecDepth 1000000 in
set_option maxHeartbeats 1000000 in
theorem filled1_any (s : ByteArray) (hs : s.size ≤ 140737488351232) (q B n : Nat) (L : List ByteArray) (w : World) (h : Str q B n L w) : Calls Tryz.prog 107 #[.string s, .pointer (some ⟨q, 0, none⟩)] w fun e w' => e = .returned (.bool (memb L s)) ∧ Below w.heap.size w w' := by
  have HS := hide hs
  have HM := hide h.m
  have HB := hide (below_alloc4 w (.cells #[] 78))
  have q0 : w.cell? ⟨q, 0, none⟩ = some (.map (some B)) := blk_cell (j := 0) h.q rfl
  clear hs h
  go_enter Tryz.func107, Tryz.ntmps107
  go_wp2_with (refine wpList_lookS rfl rfl rfl rfl HM.out HS.out ?_)
  go_ret
  exact ⟨rfl, HB.out⟩
set_option maxRecDepth 1000000 in
set_option maxHeartbeats 1000000 in
theorem rule1_any (r : Rf) (hs : r.n.size ≤ 140737488351232) (p q B n : Nat) (L : List ByteArray) (w : World) (h : Nmd p q B n L w) : Calls Tryz.prog 150 #[.agg #[.string r.n, .bool r.z], .pointer (some ⟨p, 0, none⟩)] w fun e w' => e = .returned (.bool (lck L r)) ∧ Below w.heap.size w w' := by
  have hb0 := below_alloc4 w (.cells #[.string r.n, .bool r.z] 65)
  have HB := hide hb0
  have HN := hide (h.next hb0)
  have q0 : (w.alloc (.cells #[.string r.n, .bool r.z] 65)).cell? ⟨p, 0, none⟩ = some (.func (.func 107) #[] #[.pointer (some ⟨q, 0, none⟩)]) := keep_below hb0 _ _ (blk_cell (j := 0) h.p rfl)
  have HS := hide hs
  clear hb0 h hs
  obtain ⟨rn, rz⟩ := r
  simp only at HS HB HN q0 ⊢
  cases rz with
  | true =>
    go_enter Tryz.func150, Tryz.ntmps150
    go_wp2_with fail
    go_ret
    exact ⟨rfl, HB.out⟩
  | false =>
    go_enter Tryz.func150, Tryz.ntmps150
    go_wp2_with fail
    refine (filled1_any rn HS.out q B n L _ HN.out.s).mono ?_
    rintro e w1 ⟨rfl, hb⟩
    have HB1 : Hid (Below w.heap.size w w1) := HB.out.trans (hb.mono HB.out.size)
    clear hb
    go_wp2_with fail
    go_ret
    refine ⟨?_, HB1.out⟩
    unfold lck
    simp
set_option maxRecDepth 1000000 in
set_option maxHeartbeats 1000000 in
theorem rule2_any (v p q B n tb : Nat) (L : List ByteArray) (t : Tp) (vf vc vw : Value) (w : World) (hr : t.r.n.size ≤ 140737488351232) (h : Lck v p q B n L w) (ht : w.heap[tb]? = some (.cells #[.string t.n, .int .i64 t.k, .int .i64 t.lo, .int .i64 t.hi, .string t.r.n, .bool t.r.z, vf, vc, vw] 69 (0, 0))) : Calls Tryz.prog 151 #[.pointer (some ⟨v, 0, none⟩), .pointer (some ⟨tb, 0, none⟩)] w fun e w' => e = .returned (.bool (!lck L t.r)) ∧ Below w.heap.size w w' := by
  have HC := hide (rule1_any t.r hr p q B n L w h.d)
  have q0 : w.cell? ⟨v, 0, none⟩ = some (.func (.func 150) #[] #[.pointer (some ⟨p, 0, none⟩)]) := blk_cell (j := 0) h.v rfl
  have HIT := hide infoRf
  have HAT : Hid (∀ w, (isAgg 65).run Tryz.prog w = .ok true w) := aggRf
  have HTC : Hid (∀ j u, (#[.string t.r.n, .bool t.r.z] : Array Value)[j]? = some u → w.cell? ⟨tb, 4 + j, none⟩ = some u) := sub_cell (o := 4) ht (fun j u hj => by
    rcases j with _ | _ | j
    · exact hj
    · exact hj
    · simp at hj)
  clear hr h ht
  go_enter Tryz.func151, Tryz.ntmps151
  go_wp2_with (refine wpList_aggAt rfl rfl HIT.out HAT.out tb 4 #[.string t.r.n, .bool t.r.z] rfl rfl HTC.out ?_)
  refine HC.out.mono ?_
  rintro e w1 ⟨rfl, hb⟩
  have HB := hide hb
  clear hb HC
  go_wp2_with fail
  go_ret
  exact ⟨rfl, HB.out⟩
set_option maxRecDepth 1000000 in
set_option maxHeartbeats 1000000 in
theorem rule3_any (v p q B n tb : Nat) (L : List ByteArray) (t : Tp) (vf vc vw : Value) (w : World) (hr : t.r.n.size ≤ 140737488351232) (h : Lck v p q B n L w) (ht : w.heap[tb]? = some (.cells #[.string t.n, .int .i64 t.k, .int .i64 t.lo, .int .i64 t.hi, .string t.r.n, .bool t.r.z, vf, vc, vw] 69 (0, 0))) : Calls Tryz.prog 152 #[.pointer (some ⟨tb, 0, none⟩), .pointer (some ⟨v, 0, none⟩)] w fun e w' => e = .returned (.bool (decide (t.lo = 0) || !lck L t.r)) ∧ Below w.heap.size w w' := by
  have HC := hide (rule1_any t.r hr p q B n L w h.d)
  have q0 : w.cell? ⟨v, 0, none⟩ = some (.func (.func 150) #[] #[.pointer (some ⟨p, 0, none⟩)]) := blk_cell (j := 0) h.v rfl
  have q2 : w.cell? ⟨tb, 2, none⟩ = some (.int .i64 t.lo) := blk_cell (j := 2) ht rfl
  have HIT := hide infoRf
  have HAT : Hid (∀ w, (isAgg 65).run Tryz.prog w = .ok true w) := aggRf
  have HTC : Hid (∀ j u, (#[.string t.r.n, .bool t.r.z] : Array Value)[j]? = some u → w.cell? ⟨tb, 4 + j, none⟩ = some u) := sub_cell (o := 4) ht (fun j u hj => by
    rcases j with _ | _ | j
    · exact hj
    · exact hj
    · simp at hj)
  clear hr h ht
  by_cases h0 : t.lo = 0
  · have HR : Hid ((decide (t.lo = 0) || !lck L t.r) = true) := by show _ = _; rw [decide_eq_true h0]; rfl
    have g : (t.lo == 0) = true := by rw [h0]; rfl
    clear h0 HC HTC
    go_enter Tryz.func152, Tryz.ntmps152
    go_wp2_with fail
    go_ret
    exact ⟨by rw [HR.out]; rfl, Below.refl _ _⟩
  · have HR : Hid ((decide (t.lo = 0) || !lck L t.r) = !lck L t.r) := by show _ = _; rw [decide_eq_false h0]; rfl
    have g : (t.lo == 0) = false := by rw [beq_eq_false_iff_ne]; exact h0
    clear h0
    go_enter Tryz.func152, Tryz.ntmps152
    go_wp2_with (refine wpList_aggAt rfl rfl HIT.out HAT.out tb 4 #[.string t.r.n, .bool t.r.z] rfl rfl HTC.out ?_)
    refine HC.out.mono ?_
    rintro e w1 ⟨rfl, hb⟩
    have HB := hide hb
    clear hb HC
    go_wp2_with fail
    go_ret
    exact ⟨by rw [HR.out]; rfl, HB.out⟩
set_option maxRecDepth 1000000 in
set_option maxHeartbeats 1000000 in
theorem rule6_any (w : World) : Calls Tryz.prog 158 #[] w fun e w' => e = .returned (.bool true) ∧ w' = w := by
  go_enter Tryz.func158, Tryz.ntmps158
  go_wp2_with fail
  go_ret
  exact ⟨rfl, rfl⟩
set_option maxRecDepth 1000000 in
set_option maxHeartbeats 1000000 in
theorem rule41_any (x : Fd) (hs : x.r.n.size ≤ 140737488351232) (v p q B n : Nat) (L : List ByteArray) (w : World) (h : Lck v p q B n L w) : Calls Tryz.prog 155 #[.agg #[.string x.n, .string x.k, .string x.r.n, .bool x.r.z, .bool x.m], .pointer (some ⟨v, 0, none⟩)] w fun e w' => e = .returned (.bool (!x.m && lck L x.r)) ∧ Below w.heap.size w w' := by
  have hb0 := below_alloc4 w (.cells #[.string x.n, .string x.k, .string x.r.n, .bool x.r.z, .bool x.m] 104)
  have HB := hide hb0
  have HN := hide (h.next hb0)
  have q0 : (w.alloc (.cells #[.string x.n, .string x.k, .string x.r.n, .bool x.r.z, .bool x.m] 104)).cell? ⟨v, 0, none⟩ = some (.func (.func 150) #[] #[.pointer (some ⟨p, 0, none⟩)]) := keep_below hb0 _ _ (blk_cell (j := 0) h.v rfl)
  have HIT := hide infoRf
  have HAT : Hid (∀ w, (isAgg 65).run Tryz.prog w = .ok true w) := aggRf
  have HTC : Hid (∀ j u, (#[.string x.r.n, .bool x.r.z] : Array Value)[j]? = some u → (w.alloc (.cells #[.string x.n, .string x.k, .string x.r.n, .bool x.r.z, .bool x.m] 104)).cell? ⟨w.heap.size, 2 + j, none⟩ = some u) := sub_cell (o := 2) (heap_alloc_new w _) (fun j u hj => by
    rcases j with _ | _ | j
    · exact hj
    · exact hj
    · simp at hj)
  have HC := hide (rule1_any x.r hs p q B n L _ HN.out.d)
  clear hb0 h hs
  obtain ⟨xn, xk, xr, xm⟩ := x
  simp only at HB HN q0 HTC HC ⊢
  cases xm with
  | true =>
    clear HC HTC
    go_enter Tryz.func155, Tryz.ntmps155
    go_wp2_with fail
    go_ret
    exact ⟨rfl, HB.out⟩
  | false =>
    go_enter Tryz.func155, Tryz.ntmps155
    go_wp2_with (refine wpList_aggAt rfl rfl HIT.out HAT.out w.heap.size 2 #[.string xr.n, .bool xr.z] rfl rfl HTC.out ?_)
    refine HC.out.mono ?_
    rintro e w1 ⟨rfl, hb⟩
    have HB1 : Hid (Below w.heap.size w w1) := HB.out.trans (hb.mono HB.out.size)
    clear hb HC
    go_wp2_with fail
    go_ret
    exact ⟨by simp, HB1.out⟩
set_option maxRecDepth 1000000 in
set_option maxHeartbeats 1000000 in
theorem rule51_any (x : Cz) (hs : x.n.size ≤ 140737488351232) (p q B n : Nat) (L : List ByteArray) (w : World) (h : Nmd p q B n L w) : Calls Tryz.prog 157 #[.agg #[.string x.k, .string x.n], .pointer (some ⟨p, 0, none⟩)] w fun e w' => e = .returned (.bool (memb L x.n)) ∧ Below w.heap.size w w' := by
  have hb0 := below_alloc4 w (.cells #[.string x.k, .string x.n] 114)
  have HB := hide hb0
  have HN := hide (h.next hb0)
  have HS := hide hs
  have q0 : (w.alloc (.cells #[.string x.k, .string x.n] 114)).cell? ⟨p, 0, none⟩ = some (.func (.func 107) #[] #[.pointer (some ⟨q, 0, none⟩)]) := keep_below hb0 _ _ (blk_cell (j := 0) h.p rfl)
  clear hb0 h hs
  go_enter Tryz.func157, Tryz.ntmps157
  go_wp2_with fail
  refine (filled1_any x.n HS.out q B n L _ HN.out.s).mono ?_
  rintro e w1 ⟨rfl, hb⟩
  have HB1 : Hid (Below w.heap.size w w1) := HB.out.trans (hb.mono HB.out.size)
  clear hb
  go_wp2_with fail
  go_ret
  exact ⟨rfl, HB1.out⟩
end
section
open Go.RowKit Go
set_option maxRecDepth 1000000 in
set_option maxHeartbeats 1000000 in
theorem indexLacks_any (w : World) (v : Value) (xs : List Fd) (hv : FSl w v xs) (q : Nat) (p : Nat → Bool) (I : Nat → World → Prop) (h0 : I 0 w) (hB : ∀ i wx, I i wx → FSl wx v xs) (hC : ∀ i x wx, xs[i]? = some x → I i wx → Calls Tryz.prog 155 #[.agg #[.string x.n, .string x.k, .string x.r.n, .bool x.r.z, .bool x.m], .pointer (some ⟨q, 0, none⟩)] wx fun e w' => e = .returned (.bool (p i)) ∧ I (i + 1) w') : Calls Tryz.prog 179 #[v, .func (.func 155) #[] #[.pointer (some ⟨q, 0, none⟩)]] w fun e w' => ∃ r : Int, e = .returned (.int .i64 r) ∧ Hid (decide (0 ≤ r) = (List.range xs.length).any p ∧ ∃ i, I i w') := by
  have HH0 := hide h0
  have HB := hide hB
  have HC := hide hC
  have hmax := hv.max
  obtain ⟨⟨a, cap, rfl, _, hform⟩, _⟩ := hv
  clear h0 hB hC hform
  have HIT := hide infoFd
  have HAT : Hid (∀ w, (isAgg 104).run Tryz.prog w = .ok true w) := aggFd
  go_enter Tryz.func179, Tryz.ntmps179
  go_wp2_with fail
  go_loopw [8] (fun ii wx => ∃ i : Nat, i ≤ xs.length ∧ ii = .int .i64 (i : Nat) ∧ Hid (∀ j, j < i → p j = false) ∧ Hid (I i wx)) (fun ii _ => xs.length - (intOf ii).toNat)
  case atStart => exact ⟨0, by omega, rfl, fun j hj => absurd hj (by omega), HH0⟩
  case round =>
    obtain ⟨i, hi, rfl, HN, HI⟩ := hrel
    by_cases hlt : i < xs.length
    · as_aux_lemma =>
      have g1 : (i : Int) < (xs.length : Int) := by omega
      obtain ⟨x, hx⟩ : ∃ x, xs[i]? = some x := ⟨xs[i], List.getElem?_eq_getElem hlt⟩
      have hsl := HB.out i wr HI.out
      obtain ⟨⟨a', cap', hv', _, hf'⟩, _⟩ := hsl
      injection hv' with e1 _ e3
      subst e1
      obtain ⟨b, off, rfl, hcc⟩ := hf'.resolve_left (fun h => by rw [h] at hlt; simp at hlt)
      clear e3
      obtain ⟨c, ⟨rfl, _⟩, hcell⟩ := hcc i x hx
      unfold fdc at hcell
      have HCL : Hid (∀ j u, (#[.string x.n, .string x.k, .string x.r.n, .bool x.r.z, .bool x.m] : Array Value)[j]? = some u → wr.cell? ⟨b, off + i * 5 + j, none⟩ = some u) := hcell
      clear hcell
      have HCA := hide (HC.out i x wr hx HI.out)
      clear hcc hx HC
      go_wp2_with (refine wpList_aggAt rfl rfl HIT.out HAT.out b (off + i * 5) #[.string x.n, .string x.k, .string x.r.n, .bool x.r.z, .bool x.m] rfl rfl HCL.out ?_)
      refine HCA.out.mono ?_
      rintro e w1 ⟨rfl, hb1⟩
      have HI1 := hide hb1
      clear hb1 HCA
      rcases Bool.eq_false_or_eq_true (p i) with hr | hr
      · have HA : Hid ((List.range xs.length).any p = true) := List.any_eq_true.2 ⟨i, List.mem_range.2 hlt, hr⟩
        rw [hr]
        go_wp2_with fail
        go_ret
        exact ⟨_, rfl, by rw [HA.out, decide_eq_true (by omega)], _, HI1.out⟩
      · have HN2 : Hid (∀ j, j < i + 1 → p j = false) := fun j hj => by
          by_cases hji : j = i
          · rw [hji]; exact hr
          · exact HN.out j (by omega)
        rw [hr]
        clear hr HN
        go_wp2_with fail
        go_roundw
        case rel => exact ⟨i + 1, by omega, by go_num, HN2, HI1⟩
        case measure => simp [intOf]; omega
    · as_aux_lemma =>
      have g1 : ¬ (i : Int) < (xs.length : Int) := by omega
      have HA : Hid ((List.range xs.length).any p = false) := by
        show _ = _
        rw [List.any_eq_false]
        intro j hj
        rw [HN.out j (by have := List.mem_range.1 hj; omega)]
        simp
      go_wp2_with fail
      go_ret
      exact ⟨_, rfl, by rw [HA.out]; rfl, _, HI.out⟩
set_option maxRecDepth 1000000 in
theorem containsLacks_any (w : World) (v : Value) (xs : List Fd) (hv : FSl w v xs) (q : Nat) (p : Nat → Bool) (I : Nat → World → Prop) (h0 : I 0 w) (hB : ∀ i wx, I i wx → FSl wx v xs) (hC : ∀ i x wx, xs[i]? = some x → I i wx → Calls Tryz.prog 155 #[.agg #[.string x.n, .string x.k, .string x.r.n, .bool x.r.z, .bool x.m], .pointer (some ⟨q, 0, none⟩)] wx fun e w' => e = .returned (.bool (p i)) ∧ I (i + 1) w') : Calls Tryz.prog 154 #[v, .func (.func 155) #[] #[.pointer (some ⟨q, 0, none⟩)]] w fun e w' => e = .returned (.bool ((List.range xs.length).any p)) ∧ Hid (∃ i, I i w') := by
  have HCA := hide (indexLacks_any w v xs hv q p I h0 hB hC)
  obtain ⟨⟨a, cap, rfl, _, _⟩, _⟩ := hv
  clear h0 hB hC
  go_enter Tryz.func154, Tryz.ntmps154
  go_wp2_with fail
  refine HCA.out.mono ?_
  rintro e w1 ⟨r, rfl, h⟩
  have HR := hide h.out.1
  have HI := hide h.out.2
  clear h HCA
  go_wp2_with fail
  go_ret
  exact ⟨by rw [← HR.out]; rfl, HI⟩
set_option maxRecDepth 1000000 in
set_option maxHeartbeats 1000000 in
theorem indexNamed_any (w : World) (v : Value) (xs : List Cz) (hv : CSl w v xs) (q : Nat) (p : Nat → Bool) (I : Nat → World → Prop) (h0 : I 0 w) (hB : ∀ i wx, I i wx → CSl wx v xs) (hC : ∀ i x wx, xs[i]? = some x → I i wx → Calls Tryz.prog 157 #[.agg #[.string x.k, .string x.n], .pointer (some ⟨q, 0, none⟩)] wx fun e w' => e = .returned (.bool (p i)) ∧ I (i + 1) w') : Calls Tryz.prog 173 #[v, .func (.func 157) #[] #[.pointer (some ⟨q, 0, none⟩)]] w fun e w' => ∃ r : Int, e = .returned (.int .i64 r) ∧ Hid (decide (0 ≤ r) = (List.range xs.length).any p ∧ ∃ i, I i w') := by
  have HH0 := hide h0
  have HB := hide hB
  have HC := hide hC
  have hmax := hv.max
  obtain ⟨⟨a, cap, rfl, _, hform⟩, _⟩ := hv
  clear h0 hB hC hform
  have HIT := hide infoCz
  have HAT : Hid (∀ w, (isAgg 114).run Tryz.prog w = .ok true w) := aggCz
  go_enter Tryz.func173, Tryz.ntmps173
  go_wp2_with fail
  go_loopw [8] (fun ii wx => ∃ i : Nat, i ≤ xs.length ∧ ii = .int .i64 (i : Nat) ∧ Hid (∀ j, j < i → p j = false) ∧ Hid (I i wx)) (fun ii _ => xs.length - (intOf ii).toNat)
  case atStart => exact ⟨0, by omega, rfl, fun j hj => absurd hj (by omega), HH0⟩
  case round =>
    obtain ⟨i, hi, rfl, HN, HI⟩ := hrel
    by_cases hlt : i < xs.length
    · as_aux_lemma =>
      have g1 : (i : Int) < (xs.length : Int) := by omega
      obtain ⟨x, hx⟩ : ∃ x, xs[i]? = some x := ⟨xs[i], List.getElem?_eq_getElem hlt⟩
      have hsl := HB.out i wr HI.out
      obtain ⟨⟨a', cap', hv', _, hf'⟩, _⟩ := hsl
      injection hv' with e1 _ e3
      subst e1
      obtain ⟨b, off, rfl, hcc⟩ := hf'.resolve_left (fun h => by rw [h] at hlt; simp at hlt)
      clear e3
      obtain ⟨c, ⟨rfl, _⟩, hcell⟩ := hcc i x hx
      unfold czc at hcell
      have HCL : Hid (∀ j u, (#[.string x.k, .string x.n] : Array Value)[j]? = some u → wr.cell? ⟨b, off + i * 2 + j, none⟩ = some u) := hcell
      clear hcell
      have HCA := hide (HC.out i x wr hx HI.out)
      clear hcc hx HC
      go_wp2_with (refine wpList_aggAt rfl rfl HIT.out HAT.out b (off + i * 2) #[.string x.k, .string x.n] rfl rfl HCL.out ?_)
      refine HCA.out.mono ?_
      rintro e w1 ⟨rfl, hb1⟩
      have HI1 := hide hb1
      clear hb1 HCA
      rcases Bool.eq_false_or_eq_true (p i) with hr | hr
      · have HA : Hid ((List.range xs.length).any p = true) := List.any_eq_true.2 ⟨i, List.mem_range.2 hlt, hr⟩
        rw [hr]
        go_wp2_with fail
        go_ret
        exact ⟨_, rfl, by rw [HA.out, decide_eq_true (by omega)], _, HI1.out⟩
      · have HN2 : Hid (∀ j, j < i + 1 → p j = false) := fun j hj => by
          by_cases hji : j = i
          · rw [hji]; exact hr
          · exact HN.out j (by omega)
        rw [hr]
        clear hr HN
        go_wp2_with fail
        go_roundw
        case rel => exact ⟨i + 1, by omega, by go_num, HN2, HI1⟩
        case measure => simp [intOf]; omega
    · as_aux_lemma =>
      have g1 : ¬ (i : Int) < (xs.length : Int) := by omega
      have HA : Hid ((List.range xs.length).any p = false) := by
        show _ = _
        rw [List.any_eq_false]
        intro j hj
        rw [HN.out j (by have := List.mem_range.1 hj; omega)]
        simp
      go_wp2_with fail
      go_ret
      exact ⟨_, rfl, by rw [HA.out]; rfl, _, HI.out⟩
set_option maxRecDepth 1000000 in
theorem containsNamed_any (w : World) (v : Value) (xs : List Cz) (hv : CSl w v xs) (q : Nat) (p : Nat → Bool) (I : Nat → World → Prop) (h0 : I 0 w) (hB : ∀ i wx, I i wx → CSl wx v xs) (hC : ∀ i x wx, xs[i]? = some x → I i wx → Calls Tryz.prog 157 #[.agg #[.string x.k, .string x.n], .pointer (some ⟨q, 0, none⟩)] wx fun e w' => e = .returned (.bool (p i)) ∧ I (i + 1) w') : Calls Tryz.prog 140 #[v, .func (.func 157) #[] #[.pointer (some ⟨q, 0, none⟩)]] w fun e w' => e = .returned (.bool ((List.range xs.length).any p)) ∧ Hid (∃ i, I i w') := by
  have HCA := hide (indexNamed_any w v xs hv q p I h0 hB hC)
  obtain ⟨⟨a, cap, rfl, _, _⟩, _⟩ := hv
  clear h0 hB hC
  go_enter Tryz.func140, Tryz.ntmps140
  go_wp2_with fail
  refine HCA.out.mono ?_
  rintro e w1 ⟨r, rfl, h⟩
  have HR := hide h.out.1
  have HI := hide h.out.2
  clear h HCA
  go_wp2_with fail
  go_ret
  exact ⟨by rw [← HR.out]; rfl, HI⟩
theorem any_getD {α : Type} (z : α) (f : α → Bool) (l : List α) : ((List.range l.length).any fun i => f (l.getD i z)) = l.any f := by
  induction l with
  | nil => rfl
  | cons x r ih =>
    rw [List.length_cons, any_range, List.any_cons]
    have e : (fun i => f ((x :: r).getD (i + 1) z)) = fun i => f (r.getD i z) := by
      funext i
      rw [List.getD_cons_succ]
    rw [e, ih]
    rfl
def zfd : Fd := ⟨⟨#[]⟩, ⟨#[]⟩, ⟨⟨#[]⟩, false⟩, false⟩
def zcz : Cz := ⟨⟨#[]⟩, ⟨#[]⟩⟩
theorem FSl.szs {w : World} {v : Value} {fs : List Fd} (h : FSl w v fs) {i : Nat} {x : Fd} (hx : fs[i]? = some x) : x.r.n.size ≤ 140737488351232 := by
  obtain ⟨⟨a, cap, rfl, _, hc⟩, _⟩ := h
  rcases hc with rfl | ⟨b, off, _, hc⟩
  · simp at hx
  · obtain ⟨c, h1, _⟩ := hc i x hx
    exact h1.2.2.2
theorem CSl.szs {w : World} {v : Value} {cs : List Cz} (h : CSl w v cs) {i : Nat} {x : Cz} (hx : cs[i]? = some x) : x.n.size ≤ 140737488351232 := by
  obtain ⟨⟨a, cap, rfl, _, hc⟩, _⟩ := h
  rcases hc with rfl | ⟨b, off, _, hc⟩
  · simp at hx
  · obtain ⟨c, h1, _⟩ := hc i x hx
    exact h1.2.2
set_option maxRecDepth 1000000 in
set_option maxHeartbeats 1000000 in
theorem rule4_any (v p q B n tb : Nat) (L : List ByteArray) (t : Tp) (vf vc vw : Value) (w : World) (hf : FSl w vf t.fs) (h : Lck v p q B n L w) (ht : w.heap[tb]? = some (.cells #[.string t.n, .int .i64 t.k, .int .i64 t.lo, .int .i64 t.hi, .string t.r.n, .bool t.r.z, vf, vc, vw] 69 (0, 0))) : Calls Tryz.prog 153 #[.pointer (some ⟨tb, 0, none⟩), .pointer (some ⟨v, 0, none⟩)] w fun e w' => e = .returned (.bool (!t.fs.any fun f => !f.m && lck L f.r)) ∧ Below w.heap.size w w' := by
  have q6 : w.cell? ⟨tb, 6, none⟩ = some vf := blk_cell (j := 6) ht rfl
  have HC := hide (containsLacks_any w vf t.fs hf v (fun i => !(t.fs.getD i zfd).m && lck L (t.fs.getD i zfd).r) (fun _ wx => Below w.heap.size w wx) (Below.refl _ _) (fun i wx hI => hf.mv (keep_below hI)) (fun i x wx hx hI => by
    refine (rule41_any x (hf.szs hx) v p q B n L wx (h.next hI)).mono ?_
    rintro e w' ⟨rfl, hb⟩
    exact ⟨by simp only [List.getD, hx]; rfl, hI.trans (hb.mono hI.size)⟩))
  have HG : Hid (((List.range t.fs.length).any fun i => !(t.fs.getD i zfd).m && lck L (t.fs.getD i zfd).r) = t.fs.any fun f => !f.m && lck L f.r) := any_getD zfd (fun f => !f.m && lck L f.r) t.fs
  obtain ⟨⟨af, cf, rfl, _, _⟩, _⟩ := hf
  clear h ht
  go_enter Tryz.func153, Tryz.ntmps153
  go_wp2_with fail
  refine HC.out.mono ?_
  rintro e w5 ⟨rfl, hI⟩
  have HB5 : Hid (Below w.heap.size w w5) := by
    obtain ⟨i, hI⟩ := hI.out
    exact hI
  clear hI HC
  go_wp2_with fail
  go_ret
  exact ⟨by rw [← HG.out]; rfl, HB5.out⟩
set_option maxRecDepth 1000000 in
set_option maxHeartbeats 1000000 in
theorem rule5_any (p q B n tb : Nat) (L : List ByteArray) (t : Tp) (vf vc vw : Value) (w : World) (hf : CSl w vc t.cs) (h : Nmd p q B n L w) (ht : w.heap[tb]? = some (.cells #[.string t.n, .int .i64 t.k, .int .i64 t.lo, .int .i64 t.hi, .string t.r.n, .bool t.r.z, vf, vc, vw] 69 (0, 0))) : Calls Tryz.prog 156 #[.pointer (some ⟨tb, 0, none⟩), .pointer (some ⟨p, 0, none⟩)] w fun e w' => e = .returned (.bool (t.cs.any fun c => memb L c.n)) ∧ Below w.heap.size w w' := by
  have q7 : w.cell? ⟨tb, 7, none⟩ = some vc := blk_cell (j := 7) ht rfl
  have HC := hide (containsNamed_any w vc t.cs hf p (fun i => memb L (t.cs.getD i zcz).n) (fun _ wx => Below w.heap.size w wx) (Below.refl _ _) (fun i wx hI => hf.mv (keep_below hI)) (fun i x wx hx hI => by
    refine (rule51_any x (hf.szs hx) p q B n L wx (h.next hI)).mono ?_
    rintro e w' ⟨rfl, hb⟩
    exact ⟨by simp only [List.getD, hx]; rfl, hI.trans (hb.mono hI.size)⟩))
  have HG : Hid (((List.range t.cs.length).any fun i => memb L (t.cs.getD i zcz).n) = t.cs.any fun c => memb L c.n) := any_getD zcz (fun c => memb L c.n) t.cs
  obtain ⟨⟨af, cf, rfl, _, _⟩, _⟩ := hf
  clear h ht
  go_enter Tryz.func156, Tryz.ntmps156
  go_wp2_with fail
  refine HC.out.mono ?_
  rintro e w5 ⟨rfl, hI⟩
  have HB5 : Hid (Below w.heap.size w w5) := by
    obtain ⟨i, hI⟩ := hI.out
    exact hI
  clear hI HC
  go_wp2_with fail
  go_ret
  exact ⟨by rw [← HG.out]; rfl, HB5.out⟩
def rlv (k : Int) (tb p v : Nat) : Value :=
  if k = 1 then .func (.func 151) #[] #[.pointer (some ⟨v, 0, none⟩), .pointer (some ⟨tb, 0, none⟩)]
  else if k = 3 ∨ k = 4 then .func (.func 152) #[] #[.pointer (some ⟨tb, 0, none⟩), .pointer (some ⟨v, 0, none⟩)]
  else if k = 5 ∨ k = 6 then .func (.func 153) #[] #[.pointer (some ⟨tb, 0, none⟩), .pointer (some ⟨v, 0, none⟩)]
  else if k = 7 ∨ k = 8 then .func (.func 156) #[] #[.pointer (some ⟨tb, 0, none⟩), .pointer (some ⟨p, 0, none⟩)]
  else .func (.func 158) #[] #[]
def rulb (L : List ByteArray) (t : Tp) : Bool :=
  if t.k = 1 then !lck L t.r
  else if t.k = 3 ∨ t.k = 4 then decide (t.lo = 0) || !lck L t.r
  else if t.k = 5 ∨ t.k = 6 then !t.fs.any fun f => !f.m && lck L f.r
  else if t.k = 7 ∨ t.k = 8 then t.cs.any fun c => memb L c.n
  else true
structure Rlb (t : Tp) (c : Array Value) (q tb p v : Nat) (w : World) : Prop where
  ht : w.heap[tb]? = some (.cells c 69 (0, 0))
  hc : Tpi w t c
  hp : w.heap[p]? = some (.cells #[.func (.func 107) #[] #[.pointer (some ⟨q, 0, none⟩)]] 72 (0, 0))
  hv : w.heap[v]? = some (.cells #[.func (.func 150) #[] #[.pointer (some ⟨p, 0, none⟩)]] 136 (0, 0))
theorem rlb_new (w : World) (t : Tp) (c : Array Value) (q : Nat) (hc : Tpi w t c) : Rlb t c q w.heap.size (w.heap.size + 1) (w.heap.size + 1 + 1) (((w.alloc (.cells c 69)).alloc (.cells #[.func (.func 107) #[] #[.pointer (some ⟨q, 0, none⟩)]] 72)).alloc (.cells #[.func (.func 150) #[] #[.pointer (some ⟨w.heap.size + 1, 0, none⟩)]] 136)) ∧ Below w.heap.size w (((w.alloc (.cells c 69)).alloc (.cells #[.func (.func 107) #[] #[.pointer (some ⟨q, 0, none⟩)]] 72)).alloc (.cells #[.func (.func 150) #[] #[.pointer (some ⟨w.heap.size + 1, 0, none⟩)]] 136)) := by
  have h1 := heap_alloc_new w (.cells c 69)
  have b1 := below_alloc4 w (.cells c 69)
  have e1 : (w.alloc (.cells c 69)).heap.size = w.heap.size + 1 := by simp
  generalize w.alloc (.cells c 69) = w1 at *
  have h2 := heap_alloc_new w1 (.cells #[.func (.func 107) #[] #[.pointer (some ⟨q, 0, none⟩)]] 72)
  have b2 := below_alloc4 w1 (.cells #[.func (.func 107) #[] #[.pointer (some ⟨q, 0, none⟩)]] 72)
  have e2 : (w1.alloc (.cells #[.func (.func 107) #[] #[.pointer (some ⟨q, 0, none⟩)]] 72)).heap.size = w1.heap.size + 1 := by simp
  generalize w1.alloc (.cells #[.func (.func 107) #[] #[.pointer (some ⟨q, 0, none⟩)]] 72) = w2 at *
  have h3 := heap_alloc_new w2 (.cells #[.func (.func 150) #[] #[.pointer (some ⟨w.heap.size + 1, 0, none⟩)]] 136)
  have b3 := below_alloc4 w2 (.cells #[.func (.func 150) #[] #[.pointer (some ⟨w.heap.size + 1, 0, none⟩)]] 136)
  generalize w2.alloc (.cells #[.func (.func 150) #[] #[.pointer (some ⟨w.heap.size + 1, 0, none⟩)]] 136) = w3 at *
  rw [e1] at h2 e2
  rw [e2] at h3
  have hb : Below w.heap.size w w3 := (b1.trans (b2.mono (by omega))).trans (b3.mono (by omega))
  exact ⟨⟨(b3.block _ (by omega)).trans ((b2.block _ (by omega)).trans h1), hc.move (keep_below hb), (b3.block _ (by omega)).trans h2, h3⟩, hb⟩
theorem Rlb.lck {t : Tp} {c : Array Value} {q tb p v B n : Nat} {L : List ByteArray} {w : World} (h : Rlb t c q tb p v w) (hs : Str q B n L w) : Lck v p q B n L w := ⟨h.hv, h.hp, hs⟩
theorem run_enter {f : FuncId} {fn : Func} (hf : Tryz.prog.funcs[f]? = some fn) (hn : (fn.name == "runtime.NumGoroutine") = false) (hb : fn.body.isNone = false) (args : Array Value) (w : World) : (callFunc f args).run Tryz.prog w = .ok (.enter f args) w := by
  have h1 : fn.name ≠ "runtime.NumGoroutine" := by simpa using hn
  cases hc : fn.body with
  | none => rw [hc] at hb; cases hb
  | some c => simp [callFunc, hf, h1, hc]
theorem rlv_calls {t : Tp} {c : Array Value} {q tb p v B n : Nat} {L : List ByteArray} {w : World} (h : Rlb t c q tb p v w) (hs : Str q B n L w) : ∃ fn caps, rlv t.k tb p v = .func (.func fn) #[] caps ∧ (∀ wx, (callFunc fn caps).run Tryz.prog wx = .ok (.enter fn caps) wx) ∧ Calls Tryz.prog fn caps w fun e w' => e = .returned (.bool (rulb L t)) ∧ Below w.heap.size w w' := by
  have hc := h.ht
  have hl := h.lck hs
  obtain ⟨⟨vf, vc, vw, rfl, hf, hcs, hw⟩, hb⟩ := h.hc
  unfold tpc at hc
  unfold rlv rulb
  by_cases k1 : t.k = 1
  · rw [if_pos k1, if_pos k1]
    exact ⟨_, _, rfl, run_enter Tryz.func151 (by kernel_rfl) rfl _, rule2_any v p q B n tb L t vf vc vw w hb.r hl hc⟩
  rw [if_neg k1, if_neg k1]
  by_cases k3 : t.k = 3 ∨ t.k = 4
  · rw [if_pos k3, if_pos k3]
    exact ⟨_, _, rfl, run_enter Tryz.func152 (by kernel_rfl) rfl _, rule3_any v p q B n tb L t vf vc vw w hb.r hl hc⟩
  rw [if_neg k3, if_neg k3]
  by_cases k5 : t.k = 5 ∨ t.k = 6
  · rw [if_pos k5, if_pos k5]
    exact ⟨_, _, rfl, run_enter Tryz.func153 (by kernel_rfl) rfl _, rule4_any v p q B n tb L t vf vc vw w hf hl hc⟩
  rw [if_neg k5, if_neg k5]
  by_cases k7 : t.k = 7 ∨ t.k = 8
  · rw [if_pos k7, if_pos k7]
    exact ⟨_, _, rfl, run_enter Tryz.func156 (by kernel_rfl) rfl _, rule5_any p q B n tb L t vf vc vw w hcs hl.d hc⟩
  rw [if_neg k7, if_neg k7]
  refine ⟨_, _, rfl, run_enter Tryz.func158 (by kernel_rfl) rfl _, (rule6_any w).mono ?_⟩
  rintro e w' ⟨rfl, rfl⟩
  exact ⟨rfl, Below.refl _ _⟩
set_option maxRecDepth 1000000 in
set_option maxHeartbeats 1000000 in
theorem rule_1 (q : Nat) (t : Tp) (c : Array Value) (w : World) (hc : Tpi w t c) (hk : t.k = 1) : Calls Tryz.prog 108 #[.agg c, .func (.func 107) #[] #[.pointer (some ⟨q, 0, none⟩)]] w fun e w' => e = .returned (rlv t.k w.heap.size (w.heap.size + 1) (w.heap.size + 1 + 1)) ∧ Hid (Rlb t c q w.heap.size (w.heap.size + 1) (w.heap.size + 1 + 1) w' ∧ Below w.heap.size w w') := by
  have HN := hide (rlb_new w t c q hc)
  obtain ⟨⟨vf, vc, vw, rfl, ⟨⟨af, cf, rfl, -, -⟩, -⟩, ⟨⟨ac, cc, rfl, -, -⟩, -⟩, ⟨⟨aw, cw, rfl, -, -⟩, -, -⟩⟩, -⟩ := hc
  unfold tpc at HN
  unfold tpc
  have HR : Hid (∀ a b c, rlv t.k a b c = rlv 1 a b c) := fun a b c => by rw [hk]
  rw [hk] at HN
  rw [hk]
  go_enter Tryz.func108, Tryz.ntmps108
  go_wp2_with fail
  go_ret
  exact ⟨rfl, HN.out⟩
set_option maxRecDepth 1000000 in
set_option maxHeartbeats 1000000 in
theorem rule_3 (q : Nat) (t : Tp) (c : Array Value) (w : World) (hc : Tpi w t c) (hk : t.k = 3) : Calls Tryz.prog 108 #[.agg c, .func (.func 107) #[] #[.pointer (some ⟨q, 0, none⟩)]] w fun e w' => e = .returned (rlv t.k w.heap.size (w.heap.size + 1) (w.heap.size + 1 + 1)) ∧ Hid (Rlb t c q w.heap.size (w.heap.size + 1) (w.heap.size + 1 + 1) w' ∧ Below w.heap.size w w') := by
  have HN := hide (rlb_new w t c q hc)
  obtain ⟨⟨vf, vc, vw, rfl, ⟨⟨af, cf, rfl, -, -⟩, -⟩, ⟨⟨ac, cc, rfl, -, -⟩, -⟩, ⟨⟨aw, cw, rfl, -, -⟩, -, -⟩⟩, -⟩ := hc
  unfold tpc at HN
  unfold tpc
  have HR : Hid (∀ a b c, rlv t.k a b c = rlv 3 a b c) := fun a b c => by rw [hk]
  rw [hk] at HN
  rw [hk]
  go_enter Tryz.func108, Tryz.ntmps108
  go_wp2_with fail
  go_ret
  exact ⟨rfl, HN.out⟩
set_option maxRecDepth 1000000 in
set_option maxHeartbeats 1000000 in
theorem rule_4 (q : Nat) (t : Tp) (c : Array Value) (w : World) (hc : Tpi w t c) (hk : t.k = 4) : Calls Tryz.prog 108 #[.agg c, .func (.func 107) #[] #[.pointer (some ⟨q, 0, none⟩)]] w fun e w' => e = .returned (rlv t.k w.heap.size (w.heap.size + 1) (w.heap.size + 1 + 1)) ∧ Hid (Rlb t c q w.heap.size (w.heap.size + 1) (w.heap.size + 1 + 1) w' ∧ Below w.heap.size w w') := by
  have HN := hide (rlb_new w t c q hc)
  obtain ⟨⟨vf, vc, vw, rfl, ⟨⟨af, cf, rfl, -, -⟩, -⟩, ⟨⟨ac, cc, rfl, -, -⟩, -⟩, ⟨⟨aw, cw, rfl, -, -⟩, -, -⟩⟩, -⟩ := hc
  unfold tpc at HN
  unfold tpc
  have HR : Hid (∀ a b c, rlv t.k a b c = rlv 4 a b c) := fun a b c => by rw [hk]
  rw [hk] at HN
  rw [hk]
  go_enter Tryz.func108, Tryz.ntmps108
  go_wp2_with fail
  go_ret
  exact ⟨rfl, HN.out⟩
set_option maxRecDepth 1000000 in
set_option maxHeartbeats 1000000 in
theorem rule_5 (q : Nat) (t : Tp) (c : Array Value) (w : World) (hc : Tpi w t c) (hk : t.k = 5) : Calls Tryz.prog 108 #[.agg c, .func (.func 107) #[] #[.pointer (some ⟨q, 0, none⟩)]] w fun e w' => e = .returned (rlv t.k w.heap.size (w.heap.size + 1) (w.heap.size + 1 + 1)) ∧ Hid (Rlb t c q w.heap.size (w.heap.size + 1) (w.heap.size + 1 + 1) w' ∧ Below w.heap.size w w') := by
  have HN := hide (rlb_new w t c q hc)
  obtain ⟨⟨vf, vc, vw, rfl, ⟨⟨af, cf, rfl, -, -⟩, -⟩, ⟨⟨ac, cc, rfl, -, -⟩, -⟩, ⟨⟨aw, cw, rfl, -, -⟩, -, -⟩⟩, -⟩ := hc
  unfold tpc at HN
  unfold tpc
  have HR : Hid (∀ a b c, rlv t.k a b c = rlv 5 a b c) := fun a b c => by rw [hk]
  rw [hk] at HN
  rw [hk]
  go_enter Tryz.func108, Tryz.ntmps108
  go_wp2_with fail
  go_ret
  exact ⟨rfl, HN.out⟩
set_option maxRecDepth 1000000 in
set_option maxHeartbeats 1000000 in
theorem rule_6 (q : Nat) (t : Tp) (c : Array Value) (w : World) (hc : Tpi w t c) (hk : t.k = 6) : Calls Tryz.prog 108 #[.agg c, .func (.func 107) #[] #[.pointer (some ⟨q, 0, none⟩)]] w fun e w' => e = .returned (rlv t.k w.heap.size (w.heap.size + 1) (w.heap.size + 1 + 1)) ∧ Hid (Rlb t c q w.heap.size (w.heap.size + 1) (w.heap.size + 1 + 1) w' ∧ Below w.heap.size w w') := by
  have HN := hide (rlb_new w t c q hc)
  obtain ⟨⟨vf, vc, vw, rfl, ⟨⟨af, cf, rfl, -, -⟩, -⟩, ⟨⟨ac, cc, rfl, -, -⟩, -⟩, ⟨⟨aw, cw, rfl, -, -⟩, -, -⟩⟩, -⟩ := hc
  unfold tpc at HN
  unfold tpc
  have HR : Hid (∀ a b c, rlv t.k a b c = rlv 6 a b c) := fun a b c => by rw [hk]
  rw [hk] at HN
  rw [hk]
  go_enter Tryz.func108, Tryz.ntmps108
  go_wp2_with fail
  go_ret
  exact ⟨rfl, HN.out⟩
set_option maxRecDepth 1000000 in
set_option maxHeartbeats 1000000 in
theorem rule_7 (q : Nat) (t : Tp) (c : Array Value) (w : World) (hc : Tpi w t c) (hk : t.k = 7) : Calls Tryz.prog 108 #[.agg c, .func (.func 107) #[] #[.pointer (some ⟨q, 0, none⟩)]] w fun e w' => e = .returned (rlv t.k w.heap.size (w.heap.size + 1) (w.heap.size + 1 + 1)) ∧ Hid (Rlb t c q w.heap.size (w.heap.size + 1) (w.heap.size + 1 + 1) w' ∧ Below w.heap.size w w') := by
  have HN := hide (rlb_new w t c q hc)
  obtain ⟨⟨vf, vc, vw, rfl, ⟨⟨af, cf, rfl, -, -⟩, -⟩, ⟨⟨ac, cc, rfl, -, -⟩, -⟩, ⟨⟨aw, cw, rfl, -, -⟩, -, -⟩⟩, -⟩ := hc
  unfold tpc at HN
  unfold tpc
  have HR : Hid (∀ a b c, rlv t.k a b c = rlv 7 a b c) := fun a b c => by rw [hk]
  rw [hk] at HN
  rw [hk]
  go_enter Tryz.func108, Tryz.ntmps108
  go_wp2_with fail
  go_ret
  exact ⟨rfl, HN.out⟩
set_option maxRecDepth 1000000 in
set_option maxHeartbeats 1000000 in
theorem rule_8 (q : Nat) (t : Tp) (c : Array Value) (w : World) (hc : Tpi w t c) (hk : t.k = 8) : Calls Tryz.prog 108 #[.agg c, .func (.func 107) #[] #[.pointer (some ⟨q, 0, none⟩)]] w fun e w' => e = .returned (rlv t.k w.heap.size (w.heap.size + 1) (w.heap.size + 1 + 1)) ∧ Hid (Rlb t c q w.heap.size (w.heap.size + 1) (w.heap.size + 1 + 1) w' ∧ Below w.heap.size w w') := by
  have HN := hide (rlb_new w t c q hc)
  obtain ⟨⟨vf, vc, vw, rfl, ⟨⟨af, cf, rfl, -, -⟩, -⟩, ⟨⟨ac, cc, rfl, -, -⟩, -⟩, ⟨⟨aw, cw, rfl, -, -⟩, -, -⟩⟩, -⟩ := hc
  unfold tpc at HN
  unfold tpc
  have HR : Hid (∀ a b c, rlv t.k a b c = rlv 8 a b c) := fun a b c => by rw [hk]
  rw [hk] at HN
  rw [hk]
  go_enter Tryz.func108, Tryz.ntmps108
  go_wp2_with fail
  go_ret
  exact ⟨rfl, HN.out⟩
set_option maxRecDepth 1000000 in
set_option maxHeartbeats 1000000 in
theorem rule_no (q : Nat) (t : Tp) (c : Array Value) (w : World) (hc : Tpi w t c) (k1 : t.k ≠ 1) (k3 : t.k ≠ 3) (k4 : t.k ≠ 4) (k5 : t.k ≠ 5) (k6 : t.k ≠ 6) (k7 : t.k ≠ 7) (k8 : t.k ≠ 8) : Calls Tryz.prog 108 #[.agg c, .func (.func 107) #[] #[.pointer (some ⟨q, 0, none⟩)]] w fun e w' => e = .returned (rlv t.k w.heap.size (w.heap.size + 1) (w.heap.size + 1 + 1)) ∧ Hid (Rlb t c q w.heap.size (w.heap.size + 1) (w.heap.size + 1 + 1) w' ∧ Below w.heap.size w w') := by
  have HN := hide (rlb_new w t c q hc)
  obtain ⟨⟨vf, vc, vw, rfl, ⟨⟨af, cf, rfl, -, -⟩, -⟩, ⟨⟨ac, cc, rfl, -, -⟩, -⟩, ⟨⟨aw, cw, rfl, -, -⟩, -, -⟩⟩, -⟩ := hc
  unfold tpc at HN
  unfold tpc
  have HR : Hid (∀ a b c, rlv t.k a b c = .func (.func 158) #[] #[]) := fun a b c => by
    unfold rlv
    rw [if_neg k1, if_neg (fun h => h.elim k3 k4), if_neg (fun h => h.elim k5 k6), if_neg (fun h => h.elim k7 k8)]
  have g1 : (t.k == 1) = false := beq_eq_false_iff_ne.2 k1
  have g3 : (t.k == 3) = false := beq_eq_false_iff_ne.2 k3
  have g4 : (t.k == 4) = false := beq_eq_false_iff_ne.2 k4
  have g5 : (t.k == 5) = false := beq_eq_false_iff_ne.2 k5
  have g6 : (t.k == 6) = false := beq_eq_false_iff_ne.2 k6
  have g7 : (t.k == 7) = false := beq_eq_false_iff_ne.2 k7
  have g8 : (t.k == 8) = false := beq_eq_false_iff_ne.2 k8
  clear k1 k3 k4 k5 k6 k7 k8
  go_enter Tryz.func108, Tryz.ntmps108
  go_wp2_with fail
  go_ret
  exact ⟨by rw [HR.out]; rfl, HN.out⟩
theorem rule_any (q : Nat) (t : Tp) (c : Array Value) (w : World) (hc : Tpi w t c) : Calls Tryz.prog 108 #[.agg c, .func (.func 107) #[] #[.pointer (some ⟨q, 0, none⟩)]] w fun e w' => e = .returned (rlv t.k w.heap.size (w.heap.size + 1) (w.heap.size + 1 + 1)) ∧ Hid (Rlb t c q w.heap.size (w.heap.size + 1) (w.heap.size + 1 + 1) w' ∧ Below w.heap.size w w') := by
  by_cases k1 : t.k = 1
  · exact rule_1 q t c w hc k1
  by_cases k3 : t.k = 3
  · exact rule_3 q t c w hc k3
  by_cases k4 : t.k = 4
  · exact rule_4 q t c w hc k4
  by_cases k5 : t.k = 5
  · exact rule_5 q t c w hc k5
  by_cases k6 : t.k = 6
  · exact rule_6 q t c w hc k6
  by_cases k7 : t.k = 7
  · exact rule_7 q t c w hc k7
  by_cases k8 : t.k = 8
  · exact rule_8 q t c w hc k8
  exact rule_no q t c w hc k1 k3 k4 k5 k6 k7 k8
end
section
open Go.RowKit Go
theorem infoFb : (Tryz.prog.info? 26).map (fun i => (i.zero, i.size, i.bytes)) = some (some .nilFunc, 1, 8) := by kernel_rfl
structure Rlc (w0 : World) (t : Tp) (q tb p v : Nat) (wx : World) : Prop where
  ht : ∃ c, wx.heap[tb]? = some (.cells c 69 (0, 0)) ∧ Tpi w0 t c
  hp : wx.heap[p]? = some (.cells #[.func (.func 107) #[] #[.pointer (some ⟨q, 0, none⟩)]] 72 (0, 0))
  hv : wx.heap[v]? = some (.cells #[.func (.func 150) #[] #[.pointer (some ⟨p, 0, none⟩)]] 136 (0, 0))
theorem Rlc.rlb {w0 : World} {t : Tp} {q tb p v : Nat} {wx : World} (h : Rlc w0 t q tb p v wx) (hb : Below w0.heap.size w0 wx) : ∃ c, Rlb t c q tb p v wx := by
  obtain ⟨c, h1, h2⟩ := h.ht
  exact ⟨c, h1, h2.move (keep_below hb), h.hp, h.hv⟩
theorem Rlb.rlc {w0 : World} {t : Tp} {c : Array Value} {q tb p v : Nat} {wx : World} (h : Rlb t c q tb p v wx) (hc : Tpi w0 t c) : Rlc w0 t q tb p v wx := ⟨⟨c, h.ht, hc⟩, h.hp, h.hv⟩
theorem Rlc.kp {w0 : World} {t : Tp} {q tb p v : Nat} {wx wy : World} {S : Nat → Prop} (h : Rlc w0 t q tb p v wx) (hk : Kp S wx wy) (hS : ∀ g c T, wx.heap[g]? = some (.cells c T (0, 0)) → (T = 69 ∨ T = 72 ∨ T = 136) → ¬ S g) : Rlc w0 t q tb p v wy := by
  obtain ⟨c, h1, h2⟩ := h.ht
  exact ⟨⟨c, (hk.block _ (blk_lt h1) (hS _ _ _ h1 (.inl rfl))).trans h1, h2⟩, (hk.block _ (blk_lt h.hp) (hS _ _ _ h.hp (.inr (.inl rfl)))).trans h.hp, (hk.block _ (blk_lt h.hv) (hS _ _ _ h.hv (.inr (.inr rfl)))).trans h.hv⟩
theorem Rlc.next {w0 : World} {t : Tp} {q tb p v : Nat} {wx wy : World} (h : Rlc w0 t q tb p v wx) (hb : Below wx.heap.size wx wy) : Rlc w0 t q tb p v wy := h.kp (Kp.of_below (S := fun _ => False) hb) (fun _ _ _ _ _ e => e)
theorem Mst.nocells {w : World} {B n : Nat} {L : List ByteArray} (h : Mst w B n L) {g : Nat} {c : Array Value} {T : Nat} {f : Nat × Nat} (hg : w.heap[g]? = some (.cells c T f)) : g ≠ B := fun e => by
  obtain ⟨_, D, ⟨es, clock, h2, _⟩, _⟩ := h
  rw [e, h2] at hg
  cases hg
structure Flr (w0 : World) (q B n : Nat) (L : List ByteArray) (v : Value) (R : List (Array Value)) (ts : List Tp) (wx : World) : Prop where
  o : wx.ownsRow w0.heap.size 26 1 v R.length (gfl R)
  nn : R.length = ts.length
  k : ∀ (i : Nat) (t : Tp) (c : Array Value), ts[i]? = some t → R[i]? = some c → ∃ tb p v, c = #[rlv t.k tb p v] ∧ Rlc w0 t q tb p v wx
  s : Str q B n L wx
  b : Below w0.heap.size w0 wx
  hB : w0.heap.size ≤ B
theorem Flr.next {w0 : World} {q B n : Nat} {L : List ByteArray} {v : Value} {R : List (Array Value)} {ts : List Tp} {wx wy : World} (h : Flr w0 q B n L v R ts wx) (hb : Below wx.heap.size wx wy) : Flr w0 q B n L v R ts wy :=
  ⟨(Kp.of_below (S := fun _ => False) hb).owns h.o (fun _ _ e => e), h.nn, fun i t c h1 h2 => by
    obtain ⟨tb, p, v, e, h3⟩ := h.k i t c h1 h2
    exact ⟨tb, p, v, e, h3.next hb⟩, h.s.next hb, h.b.trans (hb.mono h.b.size), h.hB⟩
theorem own_type {w : World} {B e k n : Nat} {v : Value} {xs : List Value} (h : w.ownsRow B e k v n xs) {g : Nat} (hg : v.ownBlock = some g) : ∃ cur, w.heap[g]? = some (.cells cur e (0, 0)) := by
  rcases h.2 with ⟨rfl, _⟩ | ⟨g', cap, cur, rfl, _, h1, _⟩
  · cases hg
  · injection hg with hg
    subst hg
    exact ⟨cur, h1⟩
theorem Flr.put {w0 : World} {q B n : Nat} {L L' : List ByteArray} {v : Value} {R : List (Array Value)} {ts : List Tp} {wx wy : World} (h : Flr w0 q B n L v R ts wx) (hk : Kp (fun x => x = B) wx wy) (hm : Mst wy B (n + 1) L') : Flr w0 q B (n + 1) L' v R ts wy := by
  refine ⟨hk.owns h.o (fun g hg => ?_), h.nn, fun i t c h1 h2 => ?_, ⟨(hk.block _ (blk_lt h.s.q) h.s.ne).trans h.s.q, hm⟩, h.b.trans (hk.below h.b.size (fun g e => by have e' : g = B := e; rw [e']; exact h.hB)), h.hB⟩
  · obtain ⟨cur, hc⟩ := own_type h.o hg
    exact h.s.m.nocells hc
  · obtain ⟨tb, p, v, e, h3⟩ := h.k i t c h1 h2
    exact ⟨tb, p, v, e, h3.kp hk (fun g c T hg _ => h.s.m.nocells hg)⟩
theorem Flr.app {w0 : World} {q B n : Nat} {L : List ByteArray} {v v' : Value} {R : List (Array Value)} {ts : List Tp} {wx wy : World} {t : Tp} {tb p lv : Nat} (h : Flr w0 q B n L v R ts wx) (hg : wx.grownBy wy v.ownBlock) (ho : wy.ownsRow w0.heap.size 26 1 v' (R.length + 1) (gfl (R ++ [#[rlv t.k tb p lv]]))) (hr : Rlc w0 t q tb p lv wx) : Flr w0 q B n L v' (R ++ [#[rlv t.k tb p lv]]) (ts ++ [t]) wy := by
  have hk := kp_grown hg
  have hone : ∀ g c T, wx.heap[g]? = some (.cells c T (0, 0)) → (T = 69 ∨ T = 72 ∨ T = 136) → ¬ v.ownBlock = some g := fun g c T h1 h2 h3 => by
    obtain ⟨cur, hc⟩ := own_type h.o h3
    rw [h1] at hc
    injection hc with hc
    injection hc with _ hc
    rw [hc] at h2
    revert h2
    decide
  refine ⟨by rw [List.length_append]; exact ho, by rw [List.length_append, List.length_append, h.nn]; rfl, fun i u d h1 h2 => ?_, h.s.kp hk (fun e => ?_) (fun e => ?_), h.b.trans (hk.below h.b.size (fun g e => (h.o.lt g e).1)), h.hB⟩
  · by_cases hi : i < ts.length
    · rw [List.getElem?_append_left hi] at h1
      rw [List.getElem?_append_left (by rw [h.nn]; exact hi)] at h2
      obtain ⟨tb, p, v, e, h3⟩ := h.k i u d h1 h2
      exact ⟨tb, p, v, e, h3.kp hk hone⟩
    · have e : i = ts.length := by
        have := (List.getElem?_eq_some_iff.1 h1).1
        rw [List.length_append, List.length_singleton] at this
        omega
      subst e
      rw [List.getElem?_append_right (Nat.le_refl _), Nat.sub_self] at h1
      rw [← h.nn, List.getElem?_append_right (Nat.le_refl _), Nat.sub_self] at h2
      have e1 : t = u := by simpa using h1
      have e2 : #[rlv t.k tb p lv] = d := by simpa using h2
      subst e1
      subst e2
      exact ⟨tb, p, lv, rfl, hr.kp hk hone⟩
  · obtain ⟨cur, hc⟩ := own_type h.o e
    rw [h.s.q] at hc
    injection hc with hc
    injection hc with _ hc
    revert hc
    decide
  · obtain ⟨cur, hc⟩ := own_type h.o e
    exact h.s.m.nocells hc rfl
theorem rlv_one (k : Int) (tb p v : Nat) : (rlv k tb p v).oneCell' = true := by
  unfold rlv
  repeat (first | rfl | split)
def pas1 (L : List ByteArray) (t : Tp) : List ByteArray := if rulb L t = true then putL L t.n else L
def pas (L : List ByteArray) (ts : List Tp) : List ByteArray := ts.foldl pas1 L
theorem pas_succ (L : List ByteArray) (ts : List Tp) (i : Nat) (t : Tp) (h : ts[i]? = some t) : pas L (ts.take (i + 1)) = pas1 (pas L (ts.take i)) t := by
  unfold pas
  rw [takeP ts i t h, List.foldl_append]
  rfl
def onm : List ByteArray := snf [] (owns.map (·.1))
end
end Go.Proofs.YtbbalhfjgpaabaaGreatDoor

import Derived.Test.YtidglddjinfncaaDoorJi
import Derived.Deep.QuietTactic
import Derived.Laws.StructEq
import Derived.Laws.ResultCell
namespace Go.Proofs.YtidglddjinfncaaDoor
section
open Go.RowKit Go
/-- Which stands ahead, where they differ. -/
def blt : List Nat → List Nat → Bool
  | x :: r, y :: q => if x = y then blt r q else decide (x < y)
  | _, _ => false
theorem blt_drop {x y : List Nat} {i : Nat} (hx : i < x.length) (hy : i < y.length) : blt (x.drop i) (y.drop i) = if x.getD i 0 = y.getD i 0 then blt (x.drop (i + 1)) (y.drop (i + 1)) else decide (x.getD i 0 < y.getD i 0) := by
  rw [List.drop_eq_getElem_cons hx, List.drop_eq_getElem_cons hy]
  simp [blt, List.getD, hx, hy]
theorem blt_end {x y : List Nat} {i : Nat} (h : ¬ i < x.length ∨ ¬ i < y.length) : blt (x.drop i) (y.drop i) = false := by
  rcases h with h | h
  · rw [List.drop_of_length_le (by omega)]
    rfl
  · rw [List.drop_of_length_le (l := y) (by omega)]
    cases x.drop i <;> rfl
theorem bsl_cell {w : World} {a : Option Addr} {n cap : Nat} {xs : List Nat} (h : BSl w (.slice a n cap) xs) {i : Nat} (hi : i < xs.length) : ∃ b off, a = some ⟨b, off, none⟩ ∧ w.cell? ⟨b, off + i, none⟩ = some (.int .u8 ((xs.getD i 0 : Nat) : Int)) := by
  obtain ⟨⟨a', cap', e, _, hc⟩, _, _⟩ := h
  injection e with e1 e2 e3
  subst e1
  rcases hc with hc | ⟨b, off, ha, hc⟩
  · rw [hc] at hi
    simp at hi
  · exact ⟨b, off, ha, hc i hi⟩
/-- The bytes that Bytes tells. -/
def lb (v : Int) (c h : Nat) (s : ByteArray) : List Nat := if lok ⟨v, c, h, sl s⟩ then lbytes ⟨v, c, h, sl s⟩ else []
theorem lb_byte (v : Int) (c h : Nat) (s : ByteArray) : ∀ x ∈ lb v c h s, x < 256 := by
  unfold lb
  split
  · rename_i hl
    exact lbytes_byte hl (sl_byte s)
  · simp
theorem lb_len (v : Int) (c h : Nat) (s : ByteArray) : (lb v c h s).length ≤ 76 := by
  unfold lb
  split
  · rename_i hl
    exact lbytes_len hl
  · simp

set_option maxRecDepth 1000000 in
set_option maxHeartbeats 1000000 in
theorem lLess_any (w : World) (v : Int) (c h : Nat) (s : ByteArray) (v' : Int) (c' h' : Nat) (s' : ByteArray) (hh : h < 18446744073709551616) (hs : s.size ≤ 9223372036854775807) (hh' : h' < 18446744073709551616) (hs' : s'.size ≤ 9223372036854775807) :
    Calls Tryd.prog 24 #[.agg #[.int .i64 v, .int .u64 (c : Nat), .int .u64 (h : Nat), .string s], .agg #[.int .i64 v', .int .u64 (c' : Nat), .int .u64 (h' : Nat), .string s']] w fun e w' => e = .returned (.bool (decide (lok ⟨v, c, h, sl s⟩) && decide (lok ⟨v', c', h', sl s'⟩) && blt (lb v c h s) (lb v' c' h' s'))) ∧ Below w.heap.size w w' := by
  have HH := hide hh
  have HH' := hide hh'
  go_enter Tryd.func24, Tryd.ntmps24
  go_wp2_with fail
  have HT : Hid (((w.alloc (.cells #[.int .i64 v, .int .u64 (c : Nat), .int .u64 (h : Nat), .string s] 35)).alloc (.cells #[.int .i64 v', .int .u64 (c' : Nat), .int .u64 (h' : Nat), .string s'] 35)).heap[w.heap.size + 1]? = some (.cells #[.int .i64 v', .int .u64 (c' : Nat), .int .u64 (h' : Nat), .string s'] 35 (0, 0))) := alloc2_new _ _ _
  have HB0 : Hid (Below w.heap.size w ((w.alloc (.cells #[.int .i64 v, .int .u64 (c : Nat), .int .u64 (h : Nat), .string s] 35)).alloc (.cells #[.int .i64 v', .int .u64 (c' : Nat), .int .u64 (h' : Nat), .string s'] 35))) := (below_alloc4 w _).trans ((below_alloc4 _ _).mono (by simp))
  generalize (w.alloc (.cells #[.int .i64 v, .int .u64 (c : Nat), .int .u64 (h : Nat), .string s] 35)).alloc (.cells #[.int .i64 v', .int .u64 (c' : Nat), .int .u64 (h' : Nat), .string s'] 35) = w0 at *
  refine (refBytes_any w0 v c h s HH.out hs).mono ?_
  rintro e w1 ⟨vx, rfl, ho1, hb1⟩
  have HX1 : Hid (BSl w1 vx (lb v c h s)) := BSl.own ho1 (lb_byte v c h s)
  obtain ⟨ax, cx, hvx, _⟩ := own_form ho1
  have hlx : (if lok ⟨v, c, h, sl s⟩ then lbytes ⟨v, c, h, sl s⟩ else []).length = (lb v c h s).length := rfl
  rw [hlx] at hvx
  subst hvx
  have q0 : w1.heap[w.heap.size + 1]? = some (.cells #[.int .i64 v', .int .u64 (c' : Nat), .int .u64 (h' : Nat), .string s'] 35 (0, 0)) := (hb1.block _ (blk_lt HT.out)).trans HT.out
  have c0 : w1.cell? ⟨w.heap.size + 1, 0, none⟩ = some (.int .i64 v') := blk_cell q0 rfl
  have c1 : w1.cell? ⟨w.heap.size + 1, 1, none⟩ = some (.int .u64 (c' : Nat)) := blk_cell q0 rfl
  have c2 : w1.cell? ⟨w.heap.size + 1, 2, none⟩ = some (.int .u64 (h' : Nat)) := blk_cell q0 rfl
  have c3 : w1.cell? ⟨w.heap.size + 1, 3, none⟩ = some (.string s') := blk_cell q0 rfl
  have HB1 : Hid (Below w.heap.size w w1) := HB0.out.trans (hb1.mono HB0.out.size)
  have hxl := lb_len v c h s
  clear ho1 hb1 q0 hlx
  generalize hR1 : (if lok ⟨v, c, h, sl s⟩ then (0 : Int) else 40) = r1
  have HR1 := hide hR1
  clear hR1
  go_wp2_with fail
  refine (refBytes_any w1 v' c' h' s' HH'.out hs').mono ?_
  rintro e w2 ⟨vy, rfl, ho2, hb2⟩
  have HY2 : Hid (BSl w2 vy (lb v' c' h' s')) := BSl.own ho2 (lb_byte v' c' h' s')
  obtain ⟨ay, cy, hvy, _⟩ := own_form ho2
  have hly : (if lok ⟨v', c', h', sl s'⟩ then lbytes ⟨v', c', h', sl s'⟩ else []).length = (lb v' c' h' s').length := rfl
  rw [hly] at hvy
  subst hvy
  have HX2 := hide (HX1.out.move (keep_below hb2))
  have HB2 : Hid (Below w.heap.size w w2) := HB1.out.trans (hb2.mono HB1.out.size)
  have hyl := lb_len v' c' h' s'
  clear ho2 hb2 hly c0 c1 c2 c3 HX1 HB1
  generalize hR2 : (if lok ⟨v', c', h', sl s'⟩ then (0 : Int) else 40) = r2
  have HR2 := hide hR2
  clear hR2
  by_cases hl : lok ⟨v, c, h, sl s⟩
  · by_cases hl' : lok ⟨v', c', h', sl s'⟩
    · have HLL : Hid ((decide (lok ⟨v, c, h, sl s⟩) && decide (lok ⟨v', c', h', sl s'⟩) && blt (lb v c h s) (lb v' c' h' s')) = blt (lb v c h s) (lb v' c' h' s')) := by show _ = _; simp [hl, hl']
      have e1 : r1 = 0 := by rw [← HR1.out, if_pos hl]
      have e2 : r2 = 0 := by rw [← HR2.out, if_pos hl']
      subst e1
      subst e2
      clear HR1 HR2 hl hl'
      generalize hx : lb v c h s = x at HX2 hxl ⊢
      generalize hy : lb v' c' h' s' = y at HY2 hyl ⊢
      have HXE := hide hx
      have HYE := hide hy
      clear hx hy
      go_wp2_with fail
      go_loopw [9] (fun ii wx => ∃ i : Nat, i ≤ x.length ∧ ii = .int .i64 (i : Nat) ∧ Hid (blt x y = blt (x.drop i) (y.drop i)) ∧ Hid (Below w2.heap.size w2 wx)) (fun ii _ => x.length - (intOf ii).toNat)
      case atStart => exact ⟨0, by omega, rfl, rfl, Below.refl _ _⟩
      case round =>
        obtain ⟨i, hi, rfl, HI, HL⟩ := hrel
        by_cases hin : i < x.length ∧ i < y.length
        · obtain ⟨hix, hiy⟩ := hin
          have g1 : (i : Int) < (x.length : Int) := by omega
          have g2 : (i : Int) < (y.length : Int) := by omega
          have HD := hide (blt_drop hix hiy)
          obtain ⟨b1, o1, hax, hc1⟩ := bsl_cell HX2.out hix
          obtain ⟨b2, o2, hay, hc2⟩ := bsl_cell HY2.out hiy
          subst hax
          subst hay
          have cc1 : wr.cell? ⟨b1, o1 + i, none⟩ = some (.int .u8 ((x.getD i 0 : Nat) : Int)) := keep_below HL.out _ _ hc1
          have cc2 : wr.cell? ⟨b2, o2 + i, none⟩ = some (.int .u8 ((y.getD i 0 : Nat) : Int)) := keep_below HL.out _ _ hc2
          clear hc1 hc2
          generalize x.getD i 0 = p at *
          generalize y.getD i 0 = q at *
          by_cases hpq : p = q
          · subst hpq
            have HI2 : Hid (blt x y = blt (x.drop (i + 1)) (y.drop (i + 1))) := by show _ = _; rw [HI.out, HD.out, if_pos rfl]
            go_wp2_with fail
            go_quiet (fail)
            go_wp2_with fail
            go_roundw
            case rel => exact ⟨i + 1, by omega, by go_num, HI2, (((Kp.of_below (S := fun _ => False) HL.out).drewN _).below (Nat.le_refl _) (fun _ h => h.elim))⟩
            case measure => simp [intOf]; omega
          · have g3 : (((p : Nat) : Int) == ((q : Nat) : Int)) = false := beq_eq_false_iff_ne.2 (by omega)
            have HI2 : Hid (blt x y = decide (p < q)) := by show _ = _; rw [HI.out, HD.out, if_neg hpq]
            have HBF : Hid (Below w.heap.size w wr) := HB2.out.trans (HL.out.mono HB2.out.size)
            by_cases hlt : p < q
            · have g4 : ((p : Nat) : Int) < ((q : Nat) : Int) := by omega
              have HI3 : Hid (blt x y = true) := by show _ = _; rw [HI2.out]; simp [hlt]
              go_wp2_with fail
              go_quiet (fail)
              go_wp2_with fail
              go_quiet (fail)
              go_wp2_with fail
              go_ret
              exact ⟨by rw [HLL.out, HXE.out, HYE.out, HI3.out]; rfl, ⟨HBF.out.os, HBF.out.tape, HBF.out.output, HBF.out.size, HBF.out.block⟩⟩
            · have g4 : ¬ ((p : Nat) : Int) < ((q : Nat) : Int) := by omega
              have HI3 : Hid (blt x y = false) := by show _ = _; rw [HI2.out]; simp [hlt]
              go_wp2_with fail
              go_quiet (fail)
              go_wp2_with fail
              go_quiet (fail)
              go_wp2_with fail
              go_ret
              exact ⟨by rw [HLL.out, HXE.out, HYE.out, HI3.out]; rfl, ⟨HBF.out.os, HBF.out.tape, HBF.out.output, HBF.out.size, HBF.out.block⟩⟩
        · have g0 : ¬ (i : Int) < (x.length : Int) ∨ ((i : Int) < (x.length : Int) ∧ ¬ (i : Int) < (y.length : Int)) := by omega
          have HZ : Hid (blt x y = false) := by show _ = _; rw [HI.out]; exact blt_end (by omega)
          have HBF : Hid (Below w.heap.size w wr) := HB2.out.trans (HL.out.mono HB2.out.size)
          rcases g0 with g1 | ⟨g1, g2⟩
          all_goals
            go_wp2_with fail
            go_ret
            exact ⟨by rw [HLL.out, HXE.out, HYE.out, HZ.out]; rfl, HBF.out⟩
    · as_aux_lemma =>
      have e2 : r2 = 40 := by rw [← HR2.out, if_neg hl']
      have e1 : r1 = 0 := by rw [← HR1.out, if_pos hl]
      have HZ : Hid ((decide (lok ⟨v, c, h, sl s⟩) && decide (lok ⟨v', c', h', sl s'⟩) && blt (lb v c h s) (lb v' c' h' s')) = false) := by show _ = _; simp [hl']
      subst e1
      subst e2
      clear HR1 HR2 hl hl'
      go_wp2_with fail
      go_ret
      exact ⟨by rw [HZ.out]; rfl, HB2.out⟩
  · as_aux_lemma =>
    have e1 : r1 = 40 := by rw [← HR1.out, if_neg hl]
    have HZ : Hid ((decide (lok ⟨v, c, h, sl s⟩) && decide (lok ⟨v', c', h', sl s'⟩) && blt (lb v c h s) (lb v' c' h' s')) = false) := by show _ = _; simp [hl]
    subst e1
    clear HR1 HR2 hl
    go_wp2_with fail
    go_ret
    exact ⟨by rw [HZ.out]; rfl, HB2.out⟩
end
section
open Go.RowKit Go
theorem sl_nstr {xs : List Nat} (h : ∀ x ∈ xs, x < 256) : sl (nstr xs) = xs := by
  have key : ∀ l : List Nat, (∀ x ∈ l, x < 256) → (nstr l).data.toList.map UInt8.toNat = l := by
    intro l hl
    simp only [nstr, strOfNums_data, List.map_map]
    conv => rhs; rw [← List.map_id l]
    apply List.map_congr_left
    intro x hx
    have := hl x hx
    simp; omega
  exact key xs h
/-- The link of a block (P4.2). -/
def lof (c : Nat) (b : List Nat) : Lk × Nat := if c < 9223372036854775808 then (⟨1, c, 18, sha b⟩, 0) else (Lk.none, 40)
theorem of_end {wx : World} {R : Nat} {cs : Array Value} {x : Value} {tmps : Array Value} (hr : wx.heap[R]? = some (.cells cs 35 (0, 0))) (hs : cs.size = 4) (hp : tmps.getD 4 undef = .pointer (some ⟨R, 0, none⟩)) (hx : tmps.getD 5 undef = x) :
    (results Tryd.f19 tmps).run Tryd.prog wx = .ok (.tuple #[.agg cs, x]) wx := by
  refine (results_cell_tmp rfl _ _ _).trans ?_
  rw [hp, hx]
  have h1 := run_loadVar_row (P := Tryd.prog) wx R 35 35 cs (0, 0) _ hr Tryd.underlying35 rfl (by rw [hs]; exact info61)
  simp [asAddr, h1, Result.andThen]

set_option maxRecDepth 1000000 in
set_option maxHeartbeats 1000000 in
theorem lOf_any (w : World) (c : Nat) (vb : Value) (b : List Nat) (hb : BSl w vb b) (hbl : b.length ≤ 140737488351232) :
    Calls Tryd.prog 19 #[.int .u64 (c : Nat), vb] w fun e w' => e = .returned (.tuple #[lkv (lof c b).1, .int .i64 ((lof c b).2 : Nat)]) ∧ Below w.heap.size w w' := by
  have HB := hide hb
  have HBL := hide hbl
  obtain ⟨⟨a, cap, rfl, hn, hc⟩, hmax, hby⟩ := hb
  clear hn hc hby
  go_enter Tryd.func19, Tryd.ntmps19
  have HR0 : Hid ((w.alloc (.cells #[.int .i64 0, .int .u64 0, .int .u64 0, .string ⟨#[]⟩] 35)).heap[w.heap.size]? = some (.cells zlk 35 (0, 0))) := heap_alloc_new w _
  have HB0 := hide (below_alloc4 w (.cells #[.int .i64 0, .int .u64 0, .int .u64 0, .string ⟨#[]⟩] 35))
  go_wp2_with fail
  generalize w.alloc (.cells #[.int .i64 0, .int .u64 0, .int .u64 0, .string ⟨#[]⟩] 35) = w0 at *
  refine (refSum_any w0 _ b (HB.out.move (keep_below HB0.out)) HBL.out).mono ?_
  rintro e w1 ⟨rfl, hb1⟩
  have HI := hide (info32d b)
  have HON := hide (one32 b)
  have HSL := hide (sha_len b)
  have HSB := hide (sha_byte b)
  have hb2 := hb1.trans ((below_alloc4 w1 (.cells (bv (sha b)).toArray 76)).mono hb1.size)
  have HR2 : Hid ((w1.alloc (.cells (bv (sha b)).toArray 76)).heap[w.heap.size]? = some (.cells zlk 35 (0, 0))) := (hb2.block _ (blk_lt HR0.out)).trans HR0.out
  have HB2 : Hid (Below w.heap.size w (w1.alloc (.cells (bv (sha b)).toArray 76))) := HB0.out.trans (hb2.mono HB0.out.size)
  have HBD := hide (bsl_block (heap_alloc_new w1 (.cells (bv (sha b)).toArray 76)) HSB.out (by rw [HSL.out]; decide))
  rw [HSL.out] at HBD
  have hDE : sha b = sha b := rfl
  clear hb1 hb2 HR0 HB0
  generalize hD : sha b = D at HI HON HSL HSB HR2 HB2 HBD ⊢
  have HDE := hide hD
  clear hD hDE
  have cv := HBD.out.text
  go_wp2_with (refine wpList_storeRow rfl rfl w1.heap.size _ (bv D).toArray 76 rfl rfl (heap_alloc_new w1 _) HI.out (by simp [bv_len, HSL.out]) HON.out ?_; rw [World.setRow_alloc_new])
  clear cv
  have HNS : Hid (sl (nstr D) = D) := sl_nstr HSB.out
  have HSZ : Hid ((nstr D).size ≤ 9223372036854775807) := by show _ ≤ _; rw [← sl_len, HNS.out, HSL.out]; decide
  have HOK : Hid (lok ⟨1, c, 18, sl (nstr D)⟩ ↔ c < 9223372036854775808) := by
    show _ ↔ _
    rw [HNS.out]
    unfold lok okd
    simp [HSL.out]
  have hz2 : (w1.alloc (.cells (bv D).toArray 76)).heap.size = w1.heap.size + 1 := by simp
  generalize w1.alloc (.cells (bv D).toArray 76) = w2 at *
  have HL3 : Hid ((w2.alloc (.cells #[.int .i64 1, .int .u64 (c : Nat), .int .u64 18, .string (nstr D)] 35)).heap[w1.heap.size + 1]? = some (.cells #[.int .i64 1, .int .u64 (c : Nat), .int .u64 18, .string (nstr D)] 35 (0, 0))) := by
    have e := heap_alloc_new w2 (.cells #[.int .i64 1, .int .u64 (c : Nat), .int .u64 18, .string (nstr D)] 35)
    rw [hz2] at e
    exact e
  have HR3 : Hid ((w2.alloc (.cells #[.int .i64 1, .int .u64 (c : Nat), .int .u64 18, .string (nstr D)] 35)).heap[w.heap.size]? = some (.cells zlk 35 (0, 0))) := blk_alloc _ HR2.out
  have HB3 : Hid (Below w.heap.size w (w2.alloc (.cells #[.int .i64 1, .int .u64 (c : Nat), .int .u64 18, .string (nstr D)] 35))) := HB2.out.trans ((below_alloc4 w2 _).mono HB2.out.size)
  clear hz2 HR2 HB2 HBD HI HON
  generalize w2.alloc (.cells #[.int .i64 1, .int .u64 (c : Nat), .int .u64 18, .string (nstr D)] 35) = w3 at *
  have HCK : Calls Tryd.prog 46 #[.agg #[.int .i64 1, .int .u64 (c : Nat), .int .u64 18, .string (nstr D)]] w3 _ := refCheck_any w3 1 c 18 (nstr D) (by decide) HSZ.out
  refine HCK.mono ?_
  rintro e w4 ⟨rfl, hb4⟩
  have HL4 : Hid (w4.heap[w1.heap.size + 1]? = some (.cells #[.int .i64 1, .int .u64 (c : Nat), .int .u64 18, .string (nstr D)] 35 (0, 0))) := (hb4.block _ (blk_lt HL3.out)).trans HL3.out
  have HR4 : Hid (w4.heap[w.heap.size]? = some (.cells zlk 35 (0, 0))) := (hb4.block _ (blk_lt HR3.out)).trans HR3.out
  have HB4 : Hid (Below w.heap.size w w4) := HB3.out.trans (hb4.mono HB3.out.size)
  clear hb4 HL3 HR3 HB3
  by_cases hc63 : c < 9223372036854775808
  · as_aux_lemma =>
    have HP : Hid (lof c b = (⟨1, c, 18, D⟩, 0)) := by show _ = _; unfold lof; rw [HDE.out, if_pos hc63]
    rw [if_pos (HOK.out.2 hc63)]
    clear HOK hc63
    go_wp2_with (first
      | (refine wpList_loadAll rfl rfl (w1.heap.size + 1) #[.int .i64 1, .int .u64 (c : Nat), .int .u64 18, .string (nstr D)] 35 rfl HL4.out Tryd.underlying35 info61 ?_)
      | (refine wpList_storeRow rfl rfl w.heap.size zlk #[.int .i64 1, .int .u64 (c : Nat), .int .u64 18, .string (nstr D)] 35 rfl rfl HR4.out info61 rfl (by kernel_rfl) ?_))
    exact bodyPost_ret (of_end (row_same HR4.out) rfl rfl rfl) rfl ⟨by rw [HP.out]; rfl, HB4.out.trans ((row_kp _ _ _).below HB4.out.size (fun q e => by omega))⟩
  · as_aux_lemma =>
    have HP : Hid (lof c b = (Lk.none, 40)) := by show _ = _; unfold lof; rw [if_neg hc63]
    rw [if_neg (fun e => hc63 (HOK.out.1 e))]
    clear HOK hc63
    go_wp2_with (refine wpList_zero rfl rfl w.heap.size rfl rfl HR4.out ?_)
    exact bodyPost_ret (of_end HR4.out rfl rfl rfl) rfl ⟨by rw [HP.out]; rfl, HB4.out⟩
end
section
open Go.RowKit Go
/-- The number that digits make, the first one the lowest. -/
def valL (b : Nat) : List Nat → Nat
  | [] => 0
  | d :: l => d + b * valL b l
theorem valL_rev (b : Nat) : ∀ l, valL b l = valB b l.reverse
  | [] => rfl
  | d :: l => by
    rw [valL, valL_rev b l, List.reverse_cons, valB_snoc, Nat.mul_comm]
    omega
theorem valL_app (b : Nat) : ∀ l m, valL b (l ++ m) = valL b l + b ^ l.length * valL b m
  | [], m => by simp [valL]
  | d :: l, m => by
    rw [List.cons_append, valL, valL_app b l m, valL, List.length_cons, Nat.pow_succ, Nat.mul_add, Nat.mul_comm (b ^ l.length) b, Nat.mul_assoc]
    omega
theorem valL_lt {b : Nat} (hb : 0 < b) {l : List Nat} (h : ∀ d ∈ l, d < b) : valL b l < b ^ l.length := by
  rw [valL_rev, ← List.length_reverse]
  exact valB_lt hb (fun d hd => h d (List.mem_reverse.1 hd))
theorem valL_digB {b : Nat} (hb : 2 ≤ b) {l : List Nat} (h : ∀ d ∈ l, d < b) (h0 : l = [] ∨ b ^ (l.length - 1) ≤ valL b l) : l.reverse = digB b (valL b l) := by
  rw [valL_rev]
  symm
  refine digB_valB hb _ _ rfl (fun d hd => h d (List.mem_reverse.1 hd)) ?_
  rcases h0 with rfl | h0
  · simp
  · intro e
    cases hl : l with
    | nil => rw [hl] at e; simp at e
    | cons x m =>
      obtain ⟨l0, d, hld⟩ : ∃ l0 d, l = l0 ++ [d] := ⟨l.dropLast, l.getLast (by rw [hl]; simp), (List.dropLast_concat_getLast (by rw [hl]; simp)).symm⟩
      rw [hld] at e h0 h
      rw [List.reverse_append] at e
      simp at e
      subst e
      rw [valL_app] at h0
      have := valL_lt (b := b) (by omega) (l := l0) (fun d hd => h d (by simp [hd]))
      simp [valL] at h0
      omega
theorem valB_zeros (b : Nat) (d : List Nat) : ∀ z, valB b (List.replicate z 0 ++ d) = valB b d
  | 0 => by simp
  | z + 1 => by rw [List.replicate_succ, List.cons_append, valB_cons, Nat.zero_mul, Nat.zero_add, valB_zeros b d z]
theorem conv_val (a b : Nat) (l : List Nat) : conv a b l = List.replicate (l.takeWhile (· == 0)).length 0 ++ digB b (valB a l) := by
  unfold conv
  congr 2
  have h := valB_zeros a (l.dropWhile (· == 0)) (l.takeWhile (· == 0)).length
  rw [← zeros_take, List.takeWhile_append_dropWhile] at h
  exact h.symm
theorem tw_snoc {b : Nat} (hb : 0 < b) (n : Nat) : ∀ p : List Nat, ((p ++ [n]).takeWhile (· == 0)).length = if valB b (p ++ [n]) = 0 then (p.takeWhile (· == 0)).length + 1 else (p.takeWhile (· == 0)).length
  | [] => by
    have e : valB b [n] = n := by rw [valB_cons]; simp [valB]
    rw [List.nil_append, e]
    by_cases h : n = 0
    · subst h
      simp
    · simp [h]
  | x :: p => by
    rw [List.cons_append, valB_cons]
    by_cases h : x = 0
    · subst h
      have ih := tw_snoc hb n p
      rw [Nat.zero_mul, Nat.zero_add]
      simp only [List.takeWhile_cons, beq_self_eq_true, if_true, List.length_cons, ih]
      split <;> rfl
    · have hp : 0 < x * b ^ (p ++ [n]).length := Nat.mul_pos (by omega) (Nat.pow_pos hb)
      rw [if_neg (by omega)]
      simp [h]

/-- What regroup has in hand: the digits told, the bits that wait. -/
structure Rg (tt : Nat) (B out R : List Nat) : Prop where
  e : B = out.flatMap (bitsW tt) ++ R
  o : ∀ x ∈ out, x < 2 ^ tt
  r : ∀ x ∈ R, x < 2
theorem Rg.start (tt : Nat) : Rg tt [] [] [] := ⟨rfl, by simp, by simp⟩
theorem Rg.more {tt f n : Nat} {B out R : List Nat} (h : Rg tt B out R) : Rg tt (B ++ bitsW f n) out (R ++ bitsW f n) :=
  ⟨by rw [h.e, List.append_assoc], h.o, fun x hx => by
    rcases List.mem_append.1 hx with hx | hx
    · exact h.r x hx
    · exact bitsW_lt f n x hx⟩
theorem Rg.take {tt : Nat} {B out R : List Nat} (h : Rg tt B out R) (hl : tt ≤ R.length) : Rg tt B (out ++ [valB 2 (R.take tt)]) (R.drop tt) := by
  have hl2 : (R.take tt).length = tt := by rw [List.length_take]; omega
  have hb : ∀ x ∈ R.take tt, x < 2 := fun x hx => h.r x (List.mem_of_mem_take hx)
  refine ⟨?_, ?_, fun x hx => h.r x (List.mem_of_mem_drop hx)⟩
  · have e := bitsW_valB (R.take tt) hb
    rw [hl2] at e
    rw [List.flatMap_append, List.flatMap_singleton, e, List.append_assoc, List.take_append_drop]
    exact h.e
  · intro x hx
    rcases List.mem_append.1 hx with hx | hx
    · exact h.o x hx
    · simp only [List.mem_singleton] at hx
      subst hx
      have := valB_lt (b := 2) (by decide) hb
      rwa [hl2] at this
theorem Rg.grp {tt : Nat} {B out R : List Nat} (h : Rg tt B out R) (hw : 0 < tt) (hl : R.length < tt) : out = grp tt B := by
  rw [h.e]
  exact (grp_bits hw hl h.o).symm
theorem rest_shift {R : List Nat} {tt : Nat} (h : ∀ x ∈ R, x < 2) : valB 2 R / 2 ^ (R.length - tt) = valB 2 (R.take tt) ∧ valB 2 R % 2 ^ (R.length - tt) = valB 2 (R.drop tt) := by
  have hd : (R.drop tt).length = R.length - tt := List.length_drop
  have hv := valB_lt (b := 2) (by decide) (l := R.drop tt) (fun x hx => h x (List.mem_of_mem_drop hx))
  have e := valB_app 2 (R.take tt) (R.drop tt)
  rw [List.take_append_drop] at e
  rw [hd] at hv e
  rw [e, Nat.mul_comm]
  exact ⟨by rw [Nat.mul_add_div (Nat.pow_pos (by decide)), Nat.div_eq_of_lt hv, Nat.add_zero], by rw [Nat.mul_add_mod, Nat.mod_eq_of_lt hv]⟩
theorem rest_more {R : List Nat} {f n : Nat} (hn : n < 2 ^ f) : valB 2 (R ++ bitsW f n) = valB 2 R * 2 ^ f + n := by
  rw [valB_app, bitsW_len, valB_bitsW, Nat.mod_eq_of_lt hn]
/-- The last digit, filled. -/
theorem encW_rg {w : Nat} (hw : 0 < w) {b out R : List Nat} (h : Rg w (b.flatMap (bitsW 8)) out R) (hl : R.length < w) : encW w b = out ++ (if R = [] then [] else [valB 2 R * 2 ^ (w - R.length)]) := by
  have hlen := congrArg List.length h.e
  rw [flat_len, List.length_append, flat_len] at hlen
  have hm : b.length * 8 % w = R.length := by rw [hlen, Nat.mul_comm, Nat.mul_add_mod, Nat.mod_eq_of_lt hl]
  have hfl : ∀ (o : List Nat) (z : List Nat), (∀ x ∈ o, x < 2 ^ w) → grp w (o.flatMap (bitsW w) ++ z) = o ++ grp w z := by
    intro o
    induction o with
    | nil => intro z _; rfl
    | cons x o ih => intro z ho; rw [List.flatMap_cons, List.append_assoc, grp_app hw (bitsW_len w x), valB_bitsW, Nat.mod_eq_of_lt (ho x (by simp)), ih z (fun y hy => ho y (List.mem_cons_of_mem _ hy)), List.cons_append]
  unfold encW
  rw [hm, h.e, List.append_assoc, hfl _ _ h.o]
  congr 1
  by_cases h0 : R = []
  · subst h0
    rw [if_pos rfl, List.length_nil, Nat.sub_zero, Nat.mod_self]
    exact grp_short (by simpa using hw)
  · have hp : 0 < R.length := List.length_pos_iff.2 h0
    rw [if_neg h0, Nat.mod_eq_of_lt (by omega)]
    have hr : (R ++ List.replicate (w - R.length) 0).length = w := by rw [List.length_append, List.length_replicate]; omega
    have e := grp_app hw hr []
    rw [List.append_nil] at e
    rw [e, grp_short (by simpa using hw), valB_app, List.length_replicate]
    congr 1
    have hz := valB_zeros 2 [] (w - R.length)
    rw [List.append_nil] at hz
    rw [hz]
    rfl
theorem valB2_zero : ∀ {R : List Nat}, (∀ x ∈ R, x < 2) → valB 2 R = 0 → R = List.replicate R.length 0
  | [], _, _ => rfl
  | x :: R, h, h0 => by
    rw [valB_cons] at h0
    have hx : x = 0 := by
      rcases Nat.eq_zero_or_pos x with e | e
      · exact e
      · have := Nat.mul_pos e (Nat.pow_pos (n := R.length) (show 0 < 2 by decide))
        omega
    subst hx
    rw [List.length_cons, List.replicate_succ, ← valB2_zero (fun y hy => h y (List.mem_cons_of_mem _ hy)) (by omega)]
/-- Digits are the digits of the bytes that they make just if no whole one is left and the bits that are left are 0. -/
theorem enc_dec {w : Nat} (hw : 0 < w) {l out R : List Nat} (hd : ∀ x ∈ l, x < 2 ^ w) (h : Rg 8 (l.flatMap (bitsW w)) out R) (hl : R.length < 8) : encW w out = l ↔ R.length < w ∧ valB 2 R = 0 := by
  have hlen := congrArg List.length h.e
  rw [flat_len, List.length_append, flat_len] at hlen
  have hp : (w - out.length * 8 % w) % w < w := Nat.mod_lt _ hw
  constructor
  · intro e
    have hd2 := congrArg (List.flatMap (bitsW w)) e
    unfold encW at hd2
    have hdiv : (out.length * 8 + (w - out.length * 8 % w) % w) % w = 0 := by
      have h1 := Nat.mod_lt (out.length * 8) hw
      by_cases h0 : out.length * 8 % w = 0
      · rw [h0, Nat.sub_zero, Nat.mod_self, Nat.add_zero]
        exact h0
      · rw [Nat.mod_eq_of_lt (a := w - out.length * 8 % w) (by omega)]
        have h2 := Nat.div_add_mod (out.length * 8) w
        have e : out.length * 8 + (w - out.length * 8 % w) = w * (out.length * 8 / w + 1) := by rw [Nat.mul_add, Nat.mul_one]; omega
        rw [e]
        exact Nat.mul_mod_right _ _
    obtain ⟨k, hk⟩ := Nat.dvd_of_mod_eq_zero hdiv
    rw [bits_grp hw k _ (by rw [List.length_append, flat_len, List.length_replicate, hk, Nat.mul_comm]) (fun d hd => by
      rcases List.mem_append.1 hd with h | h
      · exact flat_lt 8 out d h
      · have := List.eq_of_mem_replicate h
        omega), h.e] at hd2
    have hR := List.append_cancel_left hd2
    rw [← hR, List.length_replicate]
    have hz := valB_zeros 2 [] ((w - out.length * 8 % w) % w)
    rw [List.append_nil] at hz
    exact ⟨hp, hz⟩
  · rintro ⟨h1, h2⟩
    have hR := valB2_zero h.r h2
    have hpad : (w - out.length * 8 % w) % w = R.length := by
      have h3 := Nat.mod_lt (out.length * 8) hw
      have h4 := Nat.div_add_mod (out.length * 8) w
      have h5 : (out.length * 8 % w + R.length) % w = 0 := by
        have : (out.length * 8 + R.length) % w = 0 := by rw [← hlen]; exact Nat.mul_mod_left _ _
        rw [← h4, Nat.add_assoc, Nat.mul_add_mod] at this
        exact this
      generalize out.length * 8 % w = m at *
      rcases Nat.eq_zero_or_pos m with e | e
      · subst e
        rw [Nat.zero_add, Nat.mod_eq_of_lt h1] at h5
        rw [Nat.sub_zero, Nat.mod_self, h5]
      · have h6 : m + R.length < 2 * w := by omega
        have h7 : m + R.length = w := by
          rcases Nat.lt_or_ge (m + R.length) w with h | h
          · rw [Nat.mod_eq_of_lt h] at h5
            omega
          · rw [Nat.mod_eq_sub_mod h, Nat.mod_eq_of_lt (by omega)] at h5
            omega
        rw [Nat.mod_eq_of_lt (by omega)]
        omega
    unfold encW
    rw [hpad, ← hR, ← h.e]
    have := grp_bits hw (z := []) (by simpa using hw) hd
    rwa [List.append_nil] at this
end
section
open Go.RowKit Go
theorem nstr_sl (s : ByteArray) : nstr (sl s) = s := by
  obtain ⟨⟨l⟩⟩ := s
  have e : nstr (sl ⟨⟨l⟩⟩) = ⟨(nstr (sl ⟨⟨l⟩⟩)).data⟩ := rfl
  rw [e]
  congr 1
  apply Array.ext'
  simp only [nstr, sl, strOfNums_data, List.map_map]
  conv => rhs; rw [← List.map_id l]
  apply List.map_congr_left
  intro x _
  simp
theorem nstr_size {xs : List Nat} (h : ∀ x ∈ xs, x < 256) : (nstr xs).size = xs.length := by rw [← sl_len, sl_nstr h]
/-- A link's cells. -/
def lcs (l : Lk) : Array Value := #[.int .i64 l.v, .int .u64 (l.c : Nat), .int .u64 (l.h : Nat), .string (nstr l.d)]
theorem lkv_lcs (l : Lk) : lkv l = .agg (lcs l) := rfl
/-- A link that the program can hold. -/
structure Lkb (l : Lk) : Prop where
  c : l.c < 18446744073709551616
  h : l.h < 18446744073709551616
  d : ∀ x ∈ l.d, x < 256
  n : l.d.length ≤ 9223372036854775807
theorem Lkb.size {l : Lk} (h : Lkb l) : (nstr l.d).size = l.d.length := nstr_size h.d
theorem lk_ext {a b : Lk} : a = b ↔ a.v = b.v ∧ a.c = b.c ∧ a.h = b.h ∧ a.d = b.d := by
  constructor
  · rintro rfl
    exact ⟨rfl, rfl, rfl, rfl⟩
  · obtain ⟨_, _, _, _⟩ := a
    obtain ⟨_, _, _, _⟩ := b
    rintro ⟨h1, h2, h3, h4⟩
    simp only at h1 h2 h3 h4
    subst h1 h2 h3 h4
    rfl
instance : DecidableEq Lk := fun a b => decidable_of_iff _ (lk_ext (a := a) (b := b)).symm
theorem eqlk (w : World) {a b : Lk} (ha : ∀ x ∈ a.d, x < 256) (hb : ∀ x ∈ b.d, x < 256) : (Op.equalIn 10000 35 (.agg (lcs a)) (.agg (lcs b))).run Tryd.prog w = .ok (decide (a = b)) w := by
  have u3 := Tryd.underlying3
  have u9 := Tryd.underlying9
  have u33 := Tryd.underlying33
  have a3 := Tryd.isAgg3
  have a9 := Tryd.isAgg9
  have a33 := Tryd.isAgg33
  have z3 := Tryd.sizeOf3
  have z9 := Tryd.sizeOf9
  have z33 := Tryd.sizeOf33
  have hS : Tryd.prog.underlying 35 = some (.struct (Tryd.prog.fieldsOf 35)) := by kernel_rfl
  have hp : Tryd.prog.stoodInHeld 35 = false := by kernel_rfl
  have hs : ((nstr a.d).toList == (nstr b.d).toList) = decide (a.d = b.d) := by
    by_cases h : a.d = b.d
    · rw [h]; simp
    · rw [beq_eq_false_iff_ne.2 (fun e => h (nstr_inj ha hb e))]; simp [h]
  have hr : decide (a = b) = (decide (a.v = b.v) && (decide (a.c = b.c) && (decide (a.h = b.h) && decide (a.d = b.d)))) := by
    rw [Bool.eq_iff_iff]
    simp [lk_ext]
  rw [hr]
  unfold lcs
  rw [show (10000 : Nat) = 9999 + 1 from rfl, run_equalIn_agg w 9999 35 _ _ hS hp]
  simp only [Program.fieldsOf, Tryd.underlying35]
  go_simp
  by_cases h1 : a.v = b.v <;> by_cases h2 : a.c = b.c <;> by_cases h3 : a.h = b.h <;> by_cases h4 : a.d = b.d <;> first | (simp [h1, h2, h3, h4]; done) | (simp [h1, h2, h3, h4]; omega)

theorem eqg : Tryd.prog.eqGuardType Tryd.prog.depth 35 = false := by kernel_rfl
/-- A whole struct by value, as a step of a region that draws. -/
theorem qstep_link {C : World → Prop} {ops : Array Oper} {o : Oper} {a : Act} {K : Act → Prop} {p : Operand} (hgd : Region.wanted o (yielded ops a.tmps) = true) (ho : o.op = .load 35 p) (g : Nat) (cs : Array Value)
    (hp : a.eval p = .pointer (some ⟨g, 0, none⟩)) (hn : cs.size = 4) (hc : ∀ w, C w → w.heap[g]? = some (.cells cs 35 (0, 0)))
    (h : K (a.put o.dst (.agg cs))) : if Region.wanted o (yielded ops a.tmps) = true then o.quiet Tryd.prog a C K else K (a.put o.dst undef) := by
  rw [if_pos hgd]
  refine ⟨.agg cs, fun w hC => ?_, h⟩
  have hr : (Instr.loadAt 35 (.pointer (some ⟨g, 0, none⟩))).run Tryd.prog w = .ok (.agg cs) w := by
    simp only [Instr.loadAt, Instr.sureAddr, Sem.run_bind, Sem.run_pure, Result.andThen]
    exact run_loadVar_row (P := Tryd.prog) w g 35 35 cs (0, 0) _ (hc w hC) Tryd.underlying35 rfl (by rw [hn]; exact info61)
  unfold Oper.quietAt execOp
  simp only [ho, Sem.run_bind, hp, hr, Result.andThen_ok]
  exact ⟨rfl, rfl⟩

theorem wpList_wanted {P : Program} {ops : Array Oper} {Q : Exit → Act → World → Prop} {a : Act} {w : World} {rest : List Oper} {o : Oper} (hw : Region.wanted o (yielded ops a.tmps) = true)
    (h : ∀ K : Act → World → Prop, (∀ a w, wpList P ops Q rest a w → K a w) → o.wp P a w K Q) : wpList P ops Q (o :: rest) a w := wpList_step fun K hK => by rw [if_pos hw]; exact h K hK
/-- Two links held against each other. -/
theorem exec_eqlk {o : Oper} {a : Act} {x y : Operand} {T2 : TypeId} {A B : Array Value} {r : Bool} {w : World} (ho : o.op = .binOp .eql 35 x y T2) (hx : a.eval x = .agg A) (hy : a.eval y = .agg B) (he : (Op.equalIn 10000 35 (.agg A) (.agg B)).run Tryd.prog w = .ok r w) : (execOp a.eval o).run Tryd.prog w = .ok (.value (.bool r)) w := by
  unfold execOp
  simp only [ho, Sem.run_bind, hx, hy, run_eqGuard_agg w _ 35 x y A B eqg, run_eql_struct, he, Result.andThen_ok]
  rfl
theorem exec_nelk {o : Oper} {a : Act} {x y : Operand} {T2 : TypeId} {A B : Array Value} {r : Bool} {w : World} (ho : o.op = .binOp .neq 35 x y T2) (hx : a.eval x = .agg A) (hy : a.eval y = .agg B) (he : (Op.equalIn 10000 35 (.agg A) (.agg B)).run Tryd.prog w = .ok r w) : (execOp a.eval o).run Tryd.prog w = .ok (.value (.bool (!r))) w := by
  unfold execOp
  simp only [ho, Sem.run_bind, hx, hy, run_eqGuard_agg w _ 35 x y A B eqg, run_neq_struct, he, Result.andThen_ok]
  rfl
theorem qstep_eqlk {C : World → Prop} {ops : Array Oper} {o : Oper} {a : Act} {K : Act → Prop} {x y : Operand} {T2 : TypeId} (hgd : Region.wanted o (yielded ops a.tmps) = true) (ho : o.op = .binOp .eql 35 x y T2) (A B : Array Value) (r : Bool)
    (hx : a.eval x = .agg A) (hy : a.eval y = .agg B) (he : ∀ w, C w → (Op.equalIn 10000 35 (.agg A) (.agg B)).run Tryd.prog w = .ok r w)
    (h : K (a.put o.dst (.bool r))) : if Region.wanted o (yielded ops a.tmps) = true then o.quiet Tryd.prog a C K else K (a.put o.dst undef) := by
  rw [if_pos hgd]
  refine ⟨.bool r, fun w hC => ?_, h⟩
  unfold Oper.quietAt
  rw [exec_eqlk ho hx hy (he w hC)]
  exact ⟨rfl, rfl⟩
theorem wpList_eqlk {ops : Array Oper} {rest : List Oper} {o : Oper} {a : Act} {Q : Exit → Act → World → Prop} {w : World} {x y : Operand} {T2 : TypeId} (hgd : Region.wanted o (yielded ops a.tmps) = true) (ho : o.op = .binOp .eql 35 x y T2) (A B : Array Value) (r : Bool)
    (hx : a.eval x = .agg A) (hy : a.eval y = .agg B) (he : (Op.equalIn 10000 35 (.agg A) (.agg B)).run Tryd.prog w = .ok r w) (h : wpList Tryd.prog ops Q rest (a.put o.dst (.bool r)) w) : wpList Tryd.prog ops Q (o :: rest) a w := by
  refine wpList_wanted hgd fun K hK => ?_
  unfold Oper.wp
  rw [exec_eqlk ho hx hy he]
  exact hK _ _ h
theorem wpList_nelk {ops : Array Oper} {rest : List Oper} {o : Oper} {a : Act} {Q : Exit → Act → World → Prop} {w : World} {x y : Operand} {T2 : TypeId} (hgd : Region.wanted o (yielded ops a.tmps) = true) (ho : o.op = .binOp .neq 35 x y T2) (A B : Array Value) (r : Bool)
    (hx : a.eval x = .agg A) (hy : a.eval y = .agg B) (he : (Op.equalIn 10000 35 (.agg A) (.agg B)).run Tryd.prog w = .ok r w) (h : wpList Tryd.prog ops Q rest (a.put o.dst (.bool (!r))) w) : wpList Tryd.prog ops Q (o :: rest) a w := by
  refine wpList_wanted hgd fun K hK => ?_
  unfold Oper.wp
  rw [exec_nelk ho hx hy he]
  exact hK _ _ h
theorem wpList_loadLk {ops : Array Oper} {rest : List Oper} {o : Oper} {a : Act} {Q : Exit → Act → World → Prop} {w : World} {p : Operand} (hgd : Region.wanted o (yielded ops a.tmps) = true) (ho : o.op = .load 35 p) (g : Nat) (cs : Array Value)
    (hp : a.eval p = .pointer (some ⟨g, 0, none⟩)) (hn : cs.size = 4) (hg : w.heap[g]? = some (.cells cs 35 (0, 0))) (h : wpList Tryd.prog ops Q rest (a.put o.dst (.agg cs)) w) : wpList Tryd.prog ops Q (o :: rest) a w := by
  refine wpList_wanted hgd fun K hK => ?_
  unfold Oper.wp execOp
  have hr : (Instr.loadAt 35 (.pointer (some ⟨g, 0, none⟩))).run Tryd.prog w = .ok (.agg cs) w := by
    simp only [Instr.loadAt, Instr.sureAddr, Sem.run_bind, Sem.run_pure, Result.andThen]
    exact run_loadVar_row (P := Tryd.prog) w g 35 35 cs (0, 0) _ hg Tryd.underlying35 rfl (by rw [hn]; exact info61)
  simp only [ho, Sem.run_bind, hp, hr, Result.andThen_ok]
  exact hK _ _ h

set_option maxRecDepth 1000000 in
theorem old_any (w : World) (s : ByteArray) : Calls Tryd.prog 53 #[.string s] w fun e w' => e = .returned (.agg #[.int .i64 0, .int .u64 112, .int .u64 18, .string s]) ∧ Below w.heap.size w w' := by
  go_enter Tryd.func53, Tryd.ntmps53
  go_wp2_with fail
  exact bodyPost_ret (v := .agg #[.int .i64 0, .int .u64 112, .int .u64 18, .string s]) ((results_one (p := 2) (ty := 35) rfl _ _ _).trans (by go_simp; first | done | rfl)) rfl ⟨rfl, below_alloc4 w _⟩
set_option maxRecDepth 1000000 in
theorem fits4_any (w : World) (l : Lk) (hl : Lkb l) : Calls Tryd.prog 54 #[lkv l] w fun e w' => e = .returned (.bool (decide (okd l.h l.d))) ∧ Below w.heap.size w w' := by
  have hs := hl.size
  have hn := hl.n
  obtain ⟨v, c, h, d⟩ := l
  simp only at hs hn
  simp only [lkv]
  have HE : Hid (okd h d ↔ (h = 18 ∧ d.length = 32) ∨ (h = 0 ∧ d.length ≤ 64)) := Iff.rfl
  generalize hS : nstr d = S at *
  clear hS hl
  by_cases h1 : h = 18
  · subst h1
    have HR : Hid (decide (okd 18 d) = ((d.length : Int) == 32)) := by
      show _ = _
      rw [Bool.eq_iff_iff, decide_eq_true_iff, HE.out, beq_iff_eq]
      omega
    rw [HR.out]
    clear HE HR
    go_enter Tryd.func54, Tryd.ntmps54
    go_wp2_with fail
    go_ret
    exact ⟨rfl, below_alloc4 w _⟩
  · have g1 : ((h : Int) == 18) = false := beq_eq_false_iff_ne.2 (by omega)
    by_cases h2 : h = 0
    · subst h2
      have HR : Hid (decide (okd 0 d) = decide ((d.length : Int) ≤ 64)) := by
        show _ = _
        rw [Bool.eq_iff_iff, decide_eq_true_iff, HE.out, decide_eq_true_iff]
        omega
      rw [HR.out]
      clear HE HR
      go_enter Tryd.func54, Tryd.ntmps54
      go_wp2_with fail
      go_ret
      exact ⟨rfl, below_alloc4 w _⟩
    · have g2 : ((h : Int) == 0) = false := beq_eq_false_iff_ne.2 (by omega)
      have HR : Hid (decide (okd h d) = false) := by
        show _ = _
        rw [decide_eq_false_iff_not, HE.out]
        omega
      rw [HR.out]
      clear HE HR
      go_enter Tryd.func54, Tryd.ntmps54
      go_wp2_with fail
      go_ret
      exact ⟨rfl, below_alloc4 w _⟩
end
section
open Go.RowKit Go
set_option maxRecDepth 1000000 in
set_option maxHeartbeats 1000000 in
theorem check_any (w : World) (l : Lk) (hl : Lkb l) : Calls Tryd.prog 26 #[lkv l] w fun e w' => e = .returned (.int .i64 (if lok l then 0 else 40)) ∧ Below w.heap.size w w' := by
  generalize hR : (if lok l then (0 : Int) else 40) = R
  have HR := hide hR
  clear hR
  have HL := hide hl
  have HLO : Hid (∀ x ∈ (⟨0, 112, 18, l.d⟩ : Lk).d, x < 256) := hl.d
  have HOL : Hid (lcs ⟨0, 112, 18, l.d⟩ = #[.int .i64 0, .int .u64 112, .int .u64 18, .string (nstr l.d)]) := rfl
  have HT : Hid ((w.alloc (.cells #[.int .i64 l.v, .int .u64 (l.c : Nat), .int .u64 (l.h : Nat), .string (nstr l.d)] 35)).heap[w.heap.size]? = some (.cells (lcs l) 35 (0, 0))) := heap_alloc_new w _
  have HB := hide (below_alloc4 w (.cells #[.int .i64 l.v, .int .u64 (l.c : Nat), .int .u64 (l.h : Nat), .string (nstr l.d)] 35))
  simp only [lkv]
  go_enter Tryd.func26, Tryd.ntmps26
  go_wp2_with fail
  generalize w.alloc (.cells #[.int .i64 l.v, .int .u64 (l.c : Nat), .int .u64 (l.h : Nat), .string (nstr l.d)] 35) = w0 at *
  go_cut [3] (fun c wx => c = .bool (decide (l = ⟨0, 112, 18, l.d⟩) && decide (okd l.h l.d)) ∧ Hid (Below w0.heap.size w0 wx))
  case first => as_aux_lemma =>
    have q3 : ∀ t : Ext w0, t.w'.cell? ⟨w.heap.size, 3, none⟩ = some (.string (nstr l.d)) := fun t => Ext.cell (blk_cell HT.out rfl) t
    have HQ : Hid (∀ wx, (∃ t : Ext w0, wx = t.w') → wx.heap[w.heap.size]? = some (.cells (lcs l) 35 (0, 0))) := by
      rintro _ ⟨t, rfl⟩
      exact (t.h.block _ (blk_lt HT.out)).trans HT.out
    have HCO : Hid (∀ t : Ext w0, Calls Tryd.prog 53 #[.string (nstr l.d)] t.w' fun e w'' => e = .returned (.agg (lcs ⟨0, 112, 18, l.d⟩)) ∧ ∃ t' : Ext w0, w'' = t'.w') := fun t => Calls.ext_below (old_any t.w' (nstr l.d))
    have HCF : Hid (∀ t : Ext w0, Calls Tryd.prog 54 #[.agg (lcs l)] t.w' fun e w'' => e = .returned (.bool (decide (okd l.h l.d))) ∧ ∃ t' : Ext w0, w'' = t'.w') := fun t => Calls.ext_below (fits4_any t.w' l HL.out)
    have HEQ : Hid (∀ wx, (∃ t : Ext w0, wx = t.w') → (Op.equalIn 10000 35 (.agg (lcs l)) (.agg (lcs ⟨0, 112, 18, l.d⟩))).run Tryd.prog wx = .ok (decide (l = ⟨0, 112, 18, l.d⟩)) wx) := fun wx _ => eqlk wx HL.out.d HLO.out
    generalize hbb : decide (l = ⟨0, 112, 18, l.d⟩) = bb at *
    generalize lcs ⟨0, 112, 18, l.d⟩ = ol at *
    have HCN : Hid ((lcs l).size = 4) := rfl
    generalize lcs l = cl at *
    clear hbb
    cases bb
    · refine region_ext (by kernel_rfl) (by kernel_rfl) ?_
      repeat (
        refine wpQuiet_step (fun K hK => ?_)
        first
          | (refine qstep_link rfl rfl w.heap.size cl rfl HCN.out HQ.out (hK _ ?_); clear hK K)
          | (refine qstep_eqlk rfl rfl cl ol false rfl rfl HEQ.out (hK _ ?_); clear hK K)
          | (go_simp
             first
               | (refine hK _ ?_; clear hK K)
               | (apply Exists.intro
                  refine ⟨fun _ => ?_, hK _ ?_⟩
                  (first
                    | (go_at_call 53; exact HCO.out _)
                    | (go_at_call 54; exact HCF.out _))
                  clear hK K)))
      refine wpQuiet_nil ?_
      rintro _ ⟨tq, rfl⟩
      go_wp2_with fail
      go_meet
      case rel => exact ⟨rfl, tq.h⟩
    · refine region_ext (by kernel_rfl) (by kernel_rfl) ?_
      repeat (
        refine wpQuiet_step (fun K hK => ?_)
        first
          | (refine qstep_link rfl rfl w.heap.size cl rfl HCN.out HQ.out (hK _ ?_); clear hK K)
          | (refine qstep_eqlk rfl rfl cl ol true rfl rfl HEQ.out (hK _ ?_); clear hK K)
          | (go_simp
             first
               | (refine hK _ ?_; clear hK K)
               | (apply Exists.intro
                  refine ⟨fun _ => ?_, hK _ ?_⟩
                  (first
                    | (go_at_call 53; exact HCO.out _)
                    | (go_at_call 54; exact HCF.out _))
                  clear hK K)))
      refine wpQuiet_nil ?_
      rintro _ ⟨tq, rfl⟩
      go_wp2_with fail
      go_meet
      case rel => exact ⟨rfl, tq.h⟩
  case rest => as_aux_lemma =>
    obtain ⟨rfl, hb1⟩ := hcut
    have HT1 : Hid (wc.heap[w.heap.size]? = some (.cells (lcs l) 35 (0, 0))) := (hb1.out.block _ (blk_lt HT.out)).trans HT.out
    have HB1 : Hid (Below w.heap.size w wc) := HB.out.trans (hb1.out.mono HB.out.size)
    have HK : Hid (lok l ↔ (l = ⟨0, 112, 18, l.d⟩ ∧ okd l.h l.d) ∨ (l.v = 1 ∧ l.c < 9223372036854775808 ∧ okd l.h l.d)) := by
      show _ ↔ _
      unfold lok
      rw [lk_ext]
      constructor
      · rintro (⟨h1, h2, h3, h4⟩ | h)
        · exact .inl ⟨⟨h1, h2, h3, rfl⟩, .inl ⟨h3, h4⟩⟩
        · exact .inr h
      · rintro (⟨⟨h1, h2, h3, _⟩, h | h⟩ | h)
        · exact .inl ⟨h1, h2, h3, h.2⟩
        · simp only at h1 h2 h3
          omega
        · exact .inr h
    clear hb1 HT HB HOL HLO
    by_cases hc1 : l = ⟨0, 112, 18, l.d⟩ ∧ okd l.h l.d
    · as_aux_lemma =>
      have e1 : (decide (l = ⟨0, 112, 18, l.d⟩) && decide (okd l.h l.d)) = true := by rw [decide_eq_true hc1.1, decide_eq_true hc1.2]; rfl
      have HZ : Hid (R = 0) := by show _ = _; rw [← HR.out, if_pos (HK.out.2 (.inl hc1))]
      rw [e1]
      clear e1 hc1 HR HK
      go_wp2_with fail
      go_ret
      exact ⟨by rw [HZ.out]; rfl, HB1.out⟩
    · have e1 : (decide (l = ⟨0, 112, 18, l.d⟩) && decide (okd l.h l.d)) = false := by
        rw [Bool.and_eq_false_iff, decide_eq_false_iff_not, decide_eq_false_iff_not]
        exact Decidable.not_and_iff_or_not.1 hc1
      rw [e1]
      have HE : Hid (lok l ↔ (l.v = 1 ∧ l.c < 9223372036854775808 ∧ okd l.h l.d)) := HK.out.trans ⟨fun h => h.resolve_left hc1, .inr⟩
      have q0 : wc.cell? ⟨w.heap.size, 0, none⟩ = some (.int .i64 l.v) := blk_cell HT1.out rfl
      have q1 : wc.cell? ⟨w.heap.size, 1, none⟩ = some (.int .u64 (l.c : Nat)) := blk_cell HT1.out rfl
      have q2 : wc.cell? ⟨w.heap.size, 2, none⟩ = some (.int .u64 (l.h : Nat)) := blk_cell HT1.out rfl
      have q3 : wc.cell? ⟨w.heap.size, 3, none⟩ = some (.string (nstr l.d)) := blk_cell HT1.out rfl
      have HF := hide (fits4_any wc l HL.out)
      simp only [lkv] at HF
      have HCL := hide HL.out.c
      clear e1 hc1 HK HL hl HT1
      generalize nstr l.d = S at *
      obtain ⟨v, c, h, d⟩ := l
      simp only at *
      by_cases hv : v = 1
      · subst hv
        generalize hn : (c : Int) = n at *
        have HN := hide hn
        clear hn
        by_cases hc63 : n < 9223372036854775808
        · as_aux_lemma =>
          have HZ : Hid (R = if okd h d then 0 else 40) := by
            show _ = _
            rw [← HR.out]
            have := HN.out
            by_cases hk : okd h d
            · rw [if_pos hk, if_pos (HE.out.2 ⟨rfl, by omega, hk⟩)]
            · rw [if_neg hk, if_neg (fun e => hk (HE.out.1 e).2.2)]
          clear HE HR HN
          go_wp2_with fail
          refine HF.out.mono ?_
          rintro e w2 ⟨rfl, hb2⟩
          have HB2 : Hid (Below w.heap.size w w2) := HB1.out.trans (hb2.mono HB1.out.size)
          clear hb2 HF
          by_cases hk : okd h d
          · rw [decide_eq_true hk]
            rw [if_pos hk] at HZ
            go_wp2_with fail
            go_ret
            exact ⟨by rw [HZ.out]; rfl, HB2.out⟩
          · rw [decide_eq_false hk]
            rw [if_neg hk] at HZ
            go_wp2_with fail
            go_ret
            exact ⟨by rw [HZ.out]; rfl, HB2.out⟩
        · as_aux_lemma =>
          have g2' : (9223372036854775808 : Int) ≤ n := by omega
          have HZ : Hid (R = 40) := by show _ = _; rw [← HR.out, if_neg (fun e => hc63 (by have := (HE.out.1 e).2.1; have := HN.out; omega))]
          clear HE HR HN hc63
          go_wp2_with fail
          go_ret
          exact ⟨by rw [HZ.out]; rfl, HB1.out⟩
      · as_aux_lemma =>
        have g1 : (v == 1) = false := beq_eq_false_iff_ne.2 hv
        have HZ : Hid (R = 40) := by show _ = _; rw [← HR.out, if_neg (fun e => hv (HE.out.1 e).1)]
        clear HE HR hv
        go_wp2_with fail
        go_ret
        exact ⟨by rw [HZ.out]; rfl, HB1.out⟩
end
section
open Go.RowKit Go
/-- How a function ends whose first result is a struct. -/
theorem end_c2 {fn : Func} {p q : Tmp} {T : TypeId} {fs : Array Field} {wx : World} {R : Nat} {cs : Array Value} {x : Value} {tmps : Array Value} (hf : fn.results = #[.cell p T, .tmp q]) (hu : Tryd.prog.underlying T = some (.struct fs)) {n : Nat} (hi : (Tryd.prog.info? T).map (·.size) = some n) (hn : cs.size = n)
    (hr : wx.heap[R]? = some (.cells cs T (0, 0))) (hp : tmps.getD p undef = .pointer (some ⟨R, 0, none⟩)) (hx : tmps.getD q undef = x) : (results fn tmps).run Tryd.prog wx = .ok (.tuple #[.agg cs, x]) wx := by
  refine (results_cell_tmp hf _ _ _).trans ?_
  rw [hp, hx]
  have h1 := run_loadVar_row (P := Tryd.prog) wx R T T cs (0, 0) _ hr hu rfl (by rw [hn]; exact hi)
  simp [asAddr, h1, Result.andThen]
theorem end_c3 {fn : Func} {p q s : Tmp} {T : TypeId} {fs : Array Field} {wx : World} {R : Nat} {cs : Array Value} {x y : Value} {tmps : Array Value} (hf : fn.results = #[.cell p T, .tmp q, .tmp s]) (hu : Tryd.prog.underlying T = some (.struct fs)) {n : Nat} (hi : (Tryd.prog.info? T).map (·.size) = some n) (hn : cs.size = n)
    (hr : wx.heap[R]? = some (.cells cs T (0, 0))) (hp : tmps.getD p undef = .pointer (some ⟨R, 0, none⟩)) (hx : tmps.getD q undef = x) (hy : tmps.getD s undef = y) : (results fn tmps).run Tryd.prog wx = .ok (.tuple #[.agg cs, x, y]) wx := by
  refine (results_c3 hf _ _ _).trans ?_
  rw [hp, hx, hy]
  have h1 := run_loadVar_row (P := Tryd.prog) wx R T T cs (0, 0) _ hr hu rfl (by rw [hn]; exact hi)
  simp [asAddr, h1, Result.andThen]
/-- A whole link is laid. -/
theorem wpList_storeLk {ops : Array Oper} {rest : List Oper} {o : Oper} {a : Act} {Q : Exit → Act → World → Prop} {w : World} {p x : Operand} (hgd : o.guard = none) (ho : o.op = .store 35 p x) (g : Nat) (old : Array Value) (l : Lk)
    (hp : a.eval p = .pointer (some ⟨g, 0, none⟩)) (hx : a.eval x = .agg (lcs l)) (hn : old.size = 4) (hg : w.heap[g]? = some (.cells old 35 (0, 0))) (h : wpList Tryd.prog ops Q rest (a.put o.dst undef) (w.setRow g (lcs l))) : wpList Tryd.prog ops Q (o :: rest) a w :=
  wpList_storeRow hgd ho g old (lcs l) 35 hp hx hg info61 (by rw [hn]; rfl) (by kernel_rfl) h
end
section
open Go.RowKit Go
/-- The digits as a string. -/
def s16 : ByteArray := ⟨#[48, 49, 50, 51, 52, 53, 54, 55, 56, 57, 97, 98, 99, 100, 101, 102]⟩
def s32 : ByteArray := ⟨#[97, 98, 99, 100, 101, 102, 103, 104, 105, 106, 107, 108, 109, 110, 111, 112, 113, 114, 115, 116, 117, 118, 119, 120, 121, 122, 50, 51, 52, 53, 54, 55]⟩
def s58 : ByteArray := ⟨#[49, 50, 51, 52, 53, 54, 55, 56, 57, 65, 66, 67, 68, 69, 70, 71, 72, 74, 75, 76, 77, 78, 80, 81, 82, 83, 84, 85, 86, 87, 88, 89, 90, 97, 98, 99, 100, 101, 102, 103, 104, 105, 106, 107, 109, 110, 111, 112, 113, 114, 115, 116, 117, 118, 119, 120, 121, 122]⟩
theorem sl16 : sl s16 = d16 := by decide
theorem sl32 : sl s32 = d32 := by decide
theorem sl58 : sl s58 = d58 := by decide
/-- A base of the landed code. -/
structure Bs where
  l : ByteArray
  t : ByteArray
  n : Nat
def Bs.cs (b : Bs) : Array Value := #[.string b.l, .string b.t, .int .i64 (b.n : Nat)]
def b16 : Bs := ⟨⟨#[102]⟩, s16, 4⟩
def b32 : Bs := ⟨⟨#[98]⟩, s32, 5⟩
def b58 : Bs := ⟨⟨#[122]⟩, s58, 0⟩
def b0 : Bs := ⟨⟨#[]⟩, ⟨#[]⟩, 0⟩
def bof (n : Int) : Bs := if n = 1 then b16 else if n = 2 then b32 else if n = 3 then b58 else b0
theorem infoB : (Tryd.prog.info? 62).map (·.size) = some 3 := by kernel_rfl
theorem wpList_storeB {ops : Array Oper} {rest : List Oper} {o : Oper} {a : Act} {Q : Exit → Act → World → Prop} {w : World} {p x : Operand} (hgd : o.guard = none) (ho : o.op = .store 62 p x) (g : Nat) (old : Array Value) (b : Bs)
    (hp : a.eval p = .pointer (some ⟨g, 0, none⟩)) (hx : a.eval x = .agg b.cs) (hn : old.size = 3) (hg : w.heap[g]? = some (.cells old 62 (0, 0))) (h : wpList Tryd.prog ops Q rest (a.put o.dst undef) (w.setRow g b.cs)) : wpList Tryd.prog ops Q (o :: rest) a w :=
  wpList_storeRow hgd ho g old b.cs 62 hp hx hg infoB (by rw [hn]; rfl) (by kernel_rfl) h
theorem wpList_loadB {ops : Array Oper} {rest : List Oper} {o : Oper} {a : Act} {Q : Exit → Act → World → Prop} {w : World} {p : Operand} (hgd : Region.wanted o (yielded ops a.tmps) = true) (ho : o.op = .load 62 p) (g : Nat) (cs : Array Value)
    (hp : a.eval p = .pointer (some ⟨g, 0, none⟩)) (hn : cs.size = 3) (hg : w.heap[g]? = some (.cells cs 62 (0, 0))) (h : wpList Tryd.prog ops Q rest (a.put o.dst (.agg cs)) w) : wpList Tryd.prog ops Q (o :: rest) a w := by
  refine wpList_wanted hgd fun K hK => ?_
  unfold Oper.wp execOp
  have hr : (Instr.loadAt 62 (.pointer (some ⟨g, 0, none⟩))).run Tryd.prog w = .ok (.agg cs) w := by
    simp only [Instr.loadAt, Instr.sureAddr, Sem.run_bind, Sem.run_pure, Result.andThen]
    exact run_loadVar_row (P := Tryd.prog) w g 62 62 cs (0, 0) _ hg Tryd.underlying62 rfl (by rw [hn]; exact infoB)
  simp only [ho, Sem.run_bind, hp, hr, Result.andThen_ok]
  exact hK _ _ h
set_option maxRecDepth 1000000 in
set_option maxHeartbeats 1000000 in
theorem baseOf_any (w : World) (n : Int) : Calls Tryd.prog 33 #[.int .i64 n] w fun e w' => e = .returned (.tuple #[.agg (bof n).cs, .bool (decide (n = 1 ∨ n = 2 ∨ n = 3))]) ∧ Below w.heap.size w w' := by
  have HR0 : Hid ((w.alloc (.cells #[.string ⟨#[]⟩, .string ⟨#[]⟩, .int .i64 0] 62)).heap[w.heap.size]? = some (.cells b0.cs 62 (0, 0))) := heap_alloc_new w _
  have HB0 := hide (below_alloc4 w (.cells #[.string ⟨#[]⟩, .string ⟨#[]⟩, .int .i64 0] 62))
  have HBW : Hid (∀ cs, Below w.heap.size w ((w.alloc (.cells #[.string ⟨#[]⟩, .string ⟨#[]⟩, .int .i64 0] 62)).setRow w.heap.size cs)) := fun cs => HB0.out.trans ((row_kp _ _ _).below HB0.out.size (fun q e => by omega))
  by_cases h1 : n = 1
  · subst h1
    go_enter Tryd.func33, Tryd.ntmps33
    go_wp2_with (refine wpList_storeB rfl rfl w.heap.size b0.cs b16 rfl rfl rfl HR0.out ?_)
    exact bodyPost_ret (end_c2 rfl Tryd.underlying62 infoB rfl (row_same HR0.out) rfl rfl) rfl ⟨rfl, HBW.out _⟩
  · have g1 : (n == 1) = false := beq_eq_false_iff_ne.2 h1
    by_cases h2 : n = 2
    · subst h2
      go_enter Tryd.func33, Tryd.ntmps33
      go_wp2_with (refine wpList_storeB rfl rfl w.heap.size b0.cs b32 rfl rfl rfl HR0.out ?_)
      exact bodyPost_ret (end_c2 rfl Tryd.underlying62 infoB rfl (row_same HR0.out) rfl rfl) rfl ⟨rfl, HBW.out _⟩
    · have g2 : (n == 2) = false := beq_eq_false_iff_ne.2 h2
      by_cases h3 : n = 3
      · subst h3
        go_enter Tryd.func33, Tryd.ntmps33
        go_wp2_with (refine wpList_storeB rfl rfl w.heap.size b0.cs b58 rfl rfl rfl HR0.out ?_)
        exact bodyPost_ret (end_c2 rfl Tryd.underlying62 infoB rfl (row_same HR0.out) rfl rfl) rfl ⟨rfl, HBW.out _⟩
      · have g3 : (n == 3) = false := beq_eq_false_iff_ne.2 h3
        have HE : Hid (bof n = b0 ∧ decide (n = 1 ∨ n = 2 ∨ n = 3) = false) := by
          refine ⟨?_, decide_eq_false (by omega)⟩
          unfold bof
          rw [if_neg h1, if_neg h2, if_neg h3]
        rw [HE.out.1, HE.out.2]
        clear h1 h2 h3
        go_enter Tryd.func33, Tryd.ntmps33
        go_wp2_with (refine wpList_storeB rfl rfl w.heap.size b0.cs b0 rfl rfl rfl HR0.out ?_)
        exact bodyPost_ret (end_c2 rfl Tryd.underlying62 infoB rfl (row_same HR0.out) rfl rfl) rfl ⟨rfl, HBW.out _⟩
end
section
open Go.RowKit Go
/-- Which digit each byte is, counted from 1, by the first k digits. -/
def plt (t : List Nat) : Nat → List Nat
  | 0 => List.replicate 256 0
  | k + 1 => (plt t k).set (t.getD k 0) (k + 1)
theorem plt_len (t : List Nat) : ∀ k, (plt t k).length = 256
  | 0 => List.length_replicate
  | k + 1 => by rw [plt, List.length_set, plt_len t k]
theorem bv_set (l : List Nat) (i x : Nat) : (bv l).toArray.setIfInBounds i (.int .u8 ((x : Nat) : Int)) = (bv (l.set i x)).toArray := by
  simp [bv, List.map_set]
theorem zero256 : Tryd.zeroCells110 = (bv (List.replicate 256 0)).toArray := by kernel_rfl
theorem info256 : (Tryd.prog.info? 110).map (·.size) = some 256 := by kernel_rfl
/-- How a function ends whose result is an array. -/
theorem end_a1 {fn : Func} {p : Tmp} {T e : TypeId} {m n : Nat} {wx : World} {R : Nat} {cs : Array Value} {tmps : Array Value} (hf : fn.results = #[.cell p T]) (hu : Tryd.prog.underlying T = some (.array m e)) (hi : (Tryd.prog.info? T).map (·.size) = some n) (hn : cs.size = n)
    (hr : wx.heap[R]? = some (.cells cs T (0, 0))) (hp : tmps.getD p undef = .pointer (some ⟨R, 0, none⟩)) : (results fn tmps).run Tryd.prog wx = .ok (.agg cs) wx := by
  refine (results_one hf _ _ _).trans ?_
  rw [hp]
  have h1 := run_loadVar_row (P := Tryd.prog) wx R T T cs (0, 0) _ hr hu rfl (by rw [hn]; exact hi)
  simp [asAddr, h1, Result.andThen]
theorem sl_at (D : ByteArray) (k : Nat) (h : k < D.size) : (sl D).getD k 0 = D[k].toNat := by
  rw [sl_get]
  congr 1
  have h2 : k < D.data.toList.length := by rw [Array.length_toList]; exact h
  rw [List.getD_eq_getElem?_getD, List.getElem?_eq_getElem h2]
  rfl
/-- What places has in hand. -/
structure Plw (w wx : World) (L D : ByteArray) (n : Int) (k : Nat) : Prop where
  r : wx.heap[w.heap.size]? = some (.cells #[.string L, .string D, .int .i64 n] 62 (0, 0))
  z : wx.heap[w.heap.size + 1]? = some (.cells (bv (List.replicate 256 0)).toArray 110 (0, 0))
  o : wx.heap[w.heap.size + 1 + 1]? = some (.cells (bv (plt (sl D) k)).toArray 110 (0, 0))
  b : Below w.heap.size w wx
set_option maxRecDepth 1000000 in
set_option maxHeartbeats 1000000 in
theorem places_any (w : World) (L D : ByteArray) (n : Int) (hD : D.size ≤ 58) :
    Calls Tryd.prog 79 #[.agg #[.string L, .string D, .int .i64 n]] w fun e w' => e = .returned (.agg (bv (plt (sl D) D.size)).toArray) ∧ Below w.heap.size w w' := by
  have HP : Hid (Plw w (((w.alloc (.cells #[.string L, .string D, .int .i64 n] 62)).alloc (.cells Tryd.zeroCells110 110)).alloc (.cells Tryd.zeroCells110 110)) L D n 0) := by
    rw [zero256]
    refine ⟨blk_alloc _ (blk_alloc _ (heap_alloc_new w _)), blk_alloc _ (alloc2_new w _ _), ?_, (below_alloc4 w _).trans (((below_alloc4 _ _).trans ((below_alloc4 _ _).mono (by simp))).mono (by simp))⟩
    have h := heap_alloc_new ((w.alloc (.cells #[.string L, .string D, .int .i64 n] 62)).alloc (.cells (bv (List.replicate 256 0)).toArray 110)) (.cells (bv (List.replicate 256 0)).toArray 110)
    have e : ((w.alloc (.cells #[.string L, .string D, .int .i64 n] 62)).alloc (.cells (bv (List.replicate 256 0)).toArray 110)).heap.size = w.heap.size + 1 + 1 := by simp
    rw [e] at h
    exact h
  go_enter Tryd.func79, Tryd.ntmps79
  go_wp2_with fail
  generalize ((w.alloc (.cells #[.string L, .string D, .int .i64 n] 62)).alloc (.cells Tryd.zeroCells110 110)).alloc (.cells Tryd.zeroCells110 110) = w0 at *
  go_loopw [8] (fun ii wx => ∃ k : Nat, k ≤ D.size ∧ ii = .int .i64 (k : Nat) ∧ Hid (Plw w wx L D n k)) (fun ii _ => D.size - (intOf ii).toNat)
  case atStart => exact ⟨0, by omega, rfl, HP⟩
  case round =>
    obtain ⟨k, hk, rfl, HI⟩ := hrel
    clear HP
    by_cases hlt : k < D.size
    · have g1 : (k : Int) < (D.size : Int) := by omega
      have q1 : wr.cell? ⟨w.heap.size, 1, none⟩ = some (.string D) := blk_cell HI.out.r rfl
      have HK := hide hk
      have HX := hide (sl_at D k hlt)
      have hx256 : (D[k].toNat : Int) < 256 := by have := (D[k]).toNat_lt; omega
      have HX2 : Hid (D[k].toNat < 256) := (D[k]).toNat_lt
      have q2 : wr.cell? ⟨w.heap.size + 1 + 1, D[k].toNat, none⟩ = some (.int .u8 (((plt (sl D) k).getD D[k].toNat 0 : Nat) : Int)) := blk_cell HI.out.o (by rw [List.getElem?_toArray]; exact bv_get (by rw [plt_len]; exact HX2.out))
      have f2 : wr.frozen? ⟨w.heap.size + 1 + 1, D[k].toNat, none⟩ = false := blk_frozen _ HI.out.o
      have HS : Hid (Plw w (wr.setCell ⟨w.heap.size + 1 + 1, D[k].toNat, none⟩ (.int .u8 ((k + 1 : Nat) : Int))) L D n (k + 1)) := by
        have hk2 : Kp (fun q => q = w.heap.size + 1 + 1) wr (wr.setCell ⟨w.heap.size + 1 + 1, D[k].toNat, none⟩ (.int .u8 ((k + 1 : Nat) : Int))) := (Kp.refl _ _).setCell _ _ (fun _ => rfl)
        refine ⟨(hk2.block _ (blk_lt HI.out.r) (by omega)).trans HI.out.r, (hk2.block _ (blk_lt HI.out.z) (by omega)).trans HI.out.z, ?_, HI.out.b.trans (hk2.below HI.out.b.size (fun q e => by omega))⟩
        rw [plt, HX.out, ← bv_set]
        exact blk_set _ _ HI.out.o
      have hk58 : (k : Int) + 1 < 256 := by omega
      have HKE : Hid (((k + 1 : Nat) : Int) = (k : Int) + 1) := by show _ = _; omega
      rw [HKE.out] at HS
      clear hk HI HX HX2 hD
      go_wp2_with fail
      go_roundw
      case rel => exact ⟨k + 1, by omega, by go_num, HS⟩
      case measure => simp [intOf]; omega
    · have hkd : k = D.size := by omega
      have g1 : ¬ (k : Int) < (D.size : Int) := by omega
      have HO := hide HI.out.o
      have HZ := hide HI.out.z
      have HB := hide HI.out.b
      have H56 : Hid ((bv (plt (sl D) k)).toArray.size = 256) := by show _ = _; rw [List.size_toArray, bv_len, plt_len]
      have HI6 : Hid ((Tryd.prog.info? 110).map (·.size) = some (bv (plt (sl D) k)).toArray.size) := by show _ = _; rw [H56.out]; exact info256
      have HON : Hid ((bv (plt (sl D) k)).toArray.all (·.oneCell') = true) := by
        show _ = _
        rw [List.all_toArray, List.all_eq_true]
        exact bv_one _
      have HDK : Hid (k = D.size) := hkd
      clear hk hkd HI hlt
      go_wp2_with (first
        | (refine wpList_loadRow rfl rfl (w.heap.size + 1 + 1) 256 (bv (plt (sl D) k)).toArray 110 rfl HO.out Tryd.underlying110 HI6.out ?_)
        | (refine wpList_storeRow rfl rfl (w.heap.size + 1) _ (bv (plt (sl D) k)).toArray 110 rfl rfl HZ.out HI6.out (by rw [H56.out]; simp [bv]) HON.out ?_))
      have HL := hide (row_same HZ.out (cs := (bv (plt (sl D) k)).toArray))
      have HBL := hide (HB.out.trans ((row_kp wr (w.heap.size + 1) (bv (plt (sl D) k)).toArray).below HB.out.size (fun q e => by omega)))
      exact bodyPost_ret (end_a1 rfl Tryd.underlying110 info256 H56.out HL.out rfl) rfl ⟨by rw [← HDK.out], HBL.out⟩
end
end Go.Proofs.YtidglddjinfncaaDoor

import Derived.Test.YtnpjmanagecpkaaDoorKh
import Derived.Test.YtnpjmanagecpkaaDoorKi
import Derived.Test.YtnpjmanagecpkaaDoorKa
import Derived.Test.YtnpjmanagecpkaaDoorKb
import Derived.SliceStrings
import Derived.Test.YtnpjmanagecpkaaDoorKg
import Derived.Test.YtnpjmanagecpkaaDoorRows
import Derived.Lib.LaidU8T
import Derived.Lib.LaidIn
import Derived.Test.YtnpjmanagecpkaaDoorKc
namespace Go.Proofs.YtnpjmanagecpkaaDoor
section
open Go.RowKit Go
theorem cut_shrt (l : List Tp) : Shrt (cutL l) := fun t ht => by
  unfold cutL at ht
  obtain ⟨u, _, rfl⟩ := List.mem_map.1 ht
  unfold cutT
  simp only [List.length_take]
  omega
theorem cut_len (l : List Tp) : (cutL l).length ≤ 80 := by
  unfold cutL
  rw [List.length_map, List.length_take]
  omega
theorem tsl_at {w : World} {a : Option Addr} {k : Nat} {l : List Tp} (h : TSl w (.slice a l.length k) l) {i : Nat} {t : Tp} (ht : l[i]? = some t) : ∃ b off c, a = some ⟨b, off, none⟩ ∧ Tpi w t c ∧ (∀ j u, c[j]? = some u → w.cell? ⟨b, off + i * 9 + j, none⟩ = some u) ∧ w.cell? ⟨b, off + i * 9, none⟩ = some (.string t.n) ∧ t.n.size ≤ 140737488351232 := by
  obtain ⟨a', k', e, _, hc⟩ := h.form
  injection e with e1 _ _
  subst e1
  rcases hc with hc | ⟨b, off, ha, hc⟩
  · rw [hc] at ht
    cases ht
  · obtain ⟨c, h1, h2⟩ := hc i t ht
    have h3 : c[0]? = some (.string t.n) := by
      obtain ⟨⟨_, _, _, rfl, _⟩, _⟩ := h1
      rfl
    exact ⟨b, off, c, ha, h1, h2, h2 0 _ h3, h1.b.n⟩
theorem own9_row {A : Nat} {wx : World} (h : wx.heap[A]? = some (.cells o9c 9 (0, 0))) : wx.ownsRow A 9 1 (.slice (some ⟨A, 0, none⟩) 9 9) own9.length (gst own9) :=
  ⟨rfl, .inr ⟨A, 9, o9c, rfl, Nat.le_refl _, h, Nat.le_refl _, by unfold maxLen; omega, rfl, rfl⟩⟩
theorem frd_step (all A : List ByteArray) (l : List Tp) (i : Nat) (t : Tp) (h : l[i]? = some t) : frd all A (l.take (i + 1)) = frd1 all (frd all A (l.take i)) t := by
  unfold frd
  rw [takeP l i t h, List.foldl_append]
  rfl
theorem rdi_len {F : List ByteArray} {l : List Tp} {A : List ByteArray} (h : Rdi F l A) (hl : (fll F l).length ≤ 80) : A.length ≤ 89 := by
  have h3 := nodup_lenG _ (own9 ++ fll F l) h.nd h.sub
  rw [List.length_append, own9_len] at h3
  omega
/-- append of a whole row of names. -/
theorem cat_law {B B' : Nat} {a0 a1 : Option Addr} {n0 c0 n1 c1 : Nat} {L M : List ByteArray} {wx : World} (hv : wx.ownsRow B 9 1 (.slice a0 n0 c0) L.length (gst L)) (hu : wx.ownsRow B' 9 1 (.slice a1 n1 c1) M.length (gst M)) (hB : B ≤ wx.heap.size) (hl : L.length ≤ 100000) (hm : M.length ≤ 100000) {ops : Array Oper} {rest : List Oper} {o : Oper} {ac : Act} {Q : Exit → Act → World → Prop} {s y : Operand} (h1 : o.guard = none) (h2 : o.op = .call { callee := .builtin .append, args := #[s, y], argTypes := #[27, 27] }) (h3 : ac.eval s = .slice a0 n0 c0) (h4 : ac.eval y = .slice a1 n1 c1)
    (h5 : ∀ a9 n9 c9 w', Hid (w'.ownsRow B 9 1 (.slice a9 n9 c9) (L ++ M).length (gst (L ++ M)) ∧ wx.grownBy w' (Value.slice a0 n0 c0).ownBlock) → wpList Tryd.prog ops Q rest (ac.put o.dst (.slice a9 n9 c9)) w') : wpList Tryd.prog ops Q (o :: rest) ac wx := by
  obtain ⟨i, hi, hz0, hz1, hz2⟩ := info_ex infoS3
  have hgm : (gst M).length = M.length := by
    unfold gst
    rw [gfl_len (k := 1) (fun c hc => by obtain ⟨_, _, rfl⟩ := List.mem_map.1 hc; rfl), List.length_map, Nat.mul_one]
  have hga : gst (L ++ M) = gst L ++ gst M := by unfold gst; rw [List.map_append, gfl_app]
  rcases id hu.2 with ⟨e, h0⟩ | ⟨g, cap, cur, e, _⟩
  · injection e with e1 e2 e3
    subst e1
    subst e2
    subst e3
    have hM : M = [] := List.length_eq_zero_iff.1 h0
    subst hM
    refine wpList_append_own_none h1 s y 27 h2 B 9 i 1 Tryd.underlying27 hi (.slice a0 n0 c0) L.length (gst L) h3 hv h4 (h5 _ _ _ wx ⟨by rw [List.append_nil]; exact hv, ⟨rfl, rfl, rfl, Nat.le_refl _, fun _ _ _ => rfl⟩⟩)
  · injection e with e1 e2 e3
    subst e1
    subst e2
    subst e3
    refine wpList_append_own_at wx h1 s y 27 h2 B 9 i _ 1 16 Tryd.underlying27 hi hz0 hz1 hz2 rfl (by decide) (.slice a0 n0 c0) L.length (gst L) h3 hv ⟨g, 0, none⟩ M.length c1 (gst M) h4 (by rw [hgm, Nat.mul_one]) (fun j u hj => hu.cells (g := g) rfl j u hj) (fun u hu2 => ?_) (by unfold maxLen; omega) (by omega) hB (fun v' w' h6 h7 _ _ => ?_)
    · obtain ⟨c, hc, hu3⟩ := List.mem_flatMap.1 hu2
      obtain ⟨x, _, rfl⟩ := List.mem_map.1 hc
      simp only [List.mem_cons, List.not_mem_nil, or_false] at hu3
      rw [hu3]
      rfl
    · obtain ⟨a9, c9, hv9, _⟩ := own_formG h6
      subst hv9
      exact h5 _ _ _ w' ⟨by rw [hga, List.length_append]; exact h6, h7⟩
/-- The table that has been asked. -/
structure Tdn (gt : Nat) (F : List ByteArray) (wx : World) : Prop where
  e : ∃ vt B M n, wx.heap[gt]? = some (.cells #[vt, .map (some B), .int .u32 1, .int .i32 0, .int .u32 0, .map (some M)] 75 (0, 0)) ∧ Mst wx M n F
theorem Tdn.ask {gt : Nat} {F : List ByteArray} {wx : World} (h : Tdn gt F wx) (s : ByteArray) (hs : s.size ≤ 140737488351232) : Calls Tryd.prog 10 #[.pointer (some ⟨gt, 0, none⟩), .string s] wx fun x w' => x = .returned (.bool (memb F s)) ∧ Below wx.heap.size wx w' := by
  obtain ⟨vt, B, M, n, h1, h2⟩ := h.e
  exact tfilled_again wx gt vt B M n F s hs h1 h2
theorem Tdn.next {gt : Nat} {F : List ByteArray} {wx wy : World} (h : Tdn gt F wx) (hb : Below wx.heap.size wx wy) : Tdn gt F wy := by
  obtain ⟨vt, B, M, n, h1, h2⟩ := h.e
  exact ⟨⟨vt, B, M, n, (hb.block _ (blk_lt h1)).trans h1, h2.next hb⟩⟩
set_option maxRecDepth 1000000 in
set_option maxHeartbeats 8000000 in
theorem sfilled_any (w : World) (hT : Tabs w) (hO : Otb w) (vL c1 c2 c3 c4 c5 c6 c7 c8 c9 c10 : Value) (l0 : List Tp) (hv : TSl w vL l0) : Calls Tryd.prog 3 #[.agg #[vL, c1, c2, c3, c4, c5, c6, c7, c8, c9, c10]] w fun e w' => e = .returned (.bool true) ∧ Below w.heap.size w w' := by
  have HT : Hid (∀ wy, Below w.heap.size w wy → Tabs wy) := fun wy hb => hT.next hb
  have HO : Hid (∀ wy, Below w.heap.size w wy → Otb wy) := fun wy hb => hO.next (keep_below hb)
  have HOT := hide hO
  have HNU := hide (fun n W => num11_any n W)
  have HBG : Hid (∀ wy, Below w.heap.size w wy → Calls Tryd.prog 5 #[] wy fun e w' => e = .returned (.bool true) ∧ Below wy.heap.size wy w') := fun wy hb => begun11_any wy (HT.out wy hb) (HO.out wy hb)
  have HV := hide hv
  have hb1 := below_alloc4 w (.cells #[vL, c1, c2, c3, c4, c5, c6, c7, c8, c9, c10] 31)
  have HB1 := hide hb1
  have HX1 := hide (heap_alloc_new w (.cells #[vL, c1, c2, c3, c4, c5, c6, c7, c8, c9, c10] 31))
  clear hT hO hv hb1
  go_enter Tryd.func3, Tryd.ntmps3
  go_upto_region 1 with fail
  generalize w.alloc (.cells #[vL, c1, c2, c3, c4, c5, c6, c7, c8, c9, c10] 31) = w1 at *
  go_wp2_with fail
  refine (HBG.out w1 HB1.out).mono ?_
  rintro e w2 ⟨rfl, hb2⟩
  have HB2 : Hid (Below w.heap.size w w2) := HB1.out.trans (hb2.mono HB1.out.size)
  have q0 : w2.cell? ⟨w.heap.size, 0, none⟩ = some vL := blk_cell (j := 0) ((hb2.block _ (blk_lt HX1.out)).trans HX1.out) rfl
  clear hb2 HB1 HX1
  go_wp2_with fail
  refine (cut_any w2 vL l0 (HV.out.mv (keep_below HB2.out))).mono ?_
  rintro e w3 ⟨v3, rfl, hP⟩
  have HB3 : Hid (Below w.heap.size w w3) := HB2.out.trans (hP.out.2.mono HB2.out.size)
  have HL3 := hide hP.out.1
  obtain ⟨⟨a3, k3, hv3, _, _⟩, _⟩ := hP.out.1
  subst hv3
  have HSH := hide (cut_shrt l0)
  have HCL := hide (cut_len l0)
  generalize cutL l0 = l at *
  clear hP HV q0 HB2
  go_wp2_with fail
  refine (copyTs_any w3 _ l HL3.out HSH.out (by have := HCL.out; omega)).mono ?_
  rintro e w4 ⟨v4, rfl, hP⟩
  have HB4 : Hid (Below w.heap.size w w4) := HB3.out.trans (hP.out.2.mono HB3.out.size)
  have HL4 := hide (HL3.out.mv (keep_below hP.out.2))
  have HC4 := hide (open_any w4 (HT.out w4 HB4.out) (HO.out w4 HB4.out) v4 l hP.out.1 HSH.out)
  obtain ⟨⟨a4, k4, hv4, _, _⟩, _⟩ := hP.out.1
  subst hv4
  clear hP HL3 HB3
  go_wp2_with fail
  refine HC4.out.mono ?_
  rintro e w5 ⟨⟨vp, rfl, hnil, hok⟩, hb5⟩
  have HB5 : Hid (Below w.heap.size w w5) := HB4.out.trans (hb5.mono HB4.out.size)
  have H45 := hide hb5
  have HOK := hide hok
  have HNL := hide hnil
  clear HC4 hb5 hok hnil
  obtain ⟨E, hE⟩ : ∃ E, E = (chk11 l).1 := ⟨_, rfl⟩
  rw [← hE]
  rw [← hE] at HOK HNL
  have HE := hide hE
  clear hE
  by_cases hE0 : E = 0
  rotate_left
  · have gE : ((E : Int) != 0) = true := by rw [bne_iff_ne]; omega
    have hvp := HNL.out hE0
    subst hvp
    clear hE0 HOK HNL HE
    go_wp2_with (first
      | (go_at_call 9
         refine (HNU.out _ _).mono ?_
         rintro e w6 ⟨rfl, rfl⟩)
      | (go_at_call 5
         refine (HBG.out _ HB5.out).mono ?_
         rintro e w7 ⟨rfl, hb7⟩
         have HB7 : Hid (Below w.heap.size w w7) := HB5.out.trans (hb7.mono HB5.out.size)
         clear hb7))
    go_ret
    exact ⟨rfl, HB7.out⟩
  have gE : ((E : Int) != 0) = false := by rw [hE0]; rfl
  obtain ⟨gt, hvp, hgt, htb⟩ := HOK.out hE0
  subst hvp
  have HGD := hide (chk_gdl (l := l) (by rw [← HE.out]; exact hE0))
  have HGT := hide hgt
  have HTB := hide htb
  clear hE0 HOK HNL HE hgt htb
  have hb6 := below_alloc4 w5 (.cells o9c 9)
  have HX6 := hide (heap_alloc_new w5 (.cells o9c 9))
  have HTB6 := hide (HTB.out.next hb6)
  have H46 : Hid (Below w4.heap.size w4 (w5.alloc (.cells o9c 9))) := H45.out.trans (hb6.mono H45.out.size)
  have HB6 : Hid (Below w.heap.size w (w5.alloc (.cells o9c 9))) := HB5.out.trans (hb6.mono HB5.out.size)
  have HGA : Hid (gt < w5.heap.size) := by obtain ⟨_, _, h, _⟩ := HTB.out.e; exact blk_lt h
  have HA4 : Hid (w4.heap.size ≤ w5.heap.size) := H45.out.size
  clear hb6 HTB H45 HB5
  unfold o9c at HX6 HTB6 H46 HB6
  go_wp2_with (first
    | (go_at_call 9
       refine (HNU.out _ _).mono ?_
       rintro e w6 ⟨rfl, rfl⟩))
  generalize w6.alloc (.cells #[.string ⟨#[97, 110, 121]⟩, .string ⟨#[110, 117, 108, 108]⟩, .string ⟨#[98, 111, 111, 108]⟩, .string ⟨#[105, 110, 116]⟩, .string ⟨#[102, 108, 111, 97, 116]⟩, .string ⟨#[115, 105, 110, 103, 108, 101]⟩, .string ⟨#[116, 101, 120, 116]⟩, .string ⟨#[98, 121, 116, 101, 115]⟩, .string ⟨#[108, 105, 110, 107]⟩] 9) = W at *
  generalize w6.heap.size = A at *
  have HW4 : Hid (w.heap.size ≤ w4.heap.size) := HB4.out.size
  clear gE HB4
  go_loopw [7] (fun vi wx => ∃ i : Nat, i ≤ 9 ∧ vi = .int .i64 (i : Nat) ∧ Hid ((i = 0 ∧ wx = W) ∨ (0 < i ∧ ∃ F, Fls l F ∧ Tdn gt F wx ∧ Kp (fun q => q = gt) W wx))) (fun vi _ => 9 - (intOf vi).toNat)
  case atStart => exact ⟨0, by omega, rfl, .inl ⟨rfl, rfl⟩⟩
  case round =>
    rename World => wx
    obtain ⟨i, hi, rfl, HP⟩ := hrel
    have HKW : Hid (Kp (fun q => q = gt) W wx) := by
      rcases HP.out with ⟨_, e⟩ | ⟨_, _, _, _, h⟩
      · rw [e]; exact Kp.refl _ _
      · exact h
    have HXA : Hid (wx.heap[A]? = some (.cells #[.string ⟨#[97, 110, 121]⟩, .string ⟨#[110, 117, 108, 108]⟩, .string ⟨#[98, 111, 111, 108]⟩, .string ⟨#[105, 110, 116]⟩, .string ⟨#[102, 108, 111, 97, 116]⟩, .string ⟨#[115, 105, 110, 103, 108, 101]⟩, .string ⟨#[116, 101, 120, 116]⟩, .string ⟨#[98, 121, 116, 101, 115]⟩, .string ⟨#[108, 105, 110, 107]⟩] 9 (0, 0))) := (HKW.out.block _ (blk_lt HX6.out) (fun e => by have h1 := HGA.out; have e' : A = gt := e; omega)).trans HX6.out
    by_cases hlt : i < 9
    · have g1 : (i : Int) < 9 := by omega
      obtain ⟨x, hx⟩ : ∃ x, own9[i]? = some x := ⟨own9[i]'(by rw [own9_len]; exact hlt), List.getElem?_eq_getElem _⟩
      have q1 : wx.cell? ⟨A, i, none⟩ = some (.string x) := blk_cell HXA.out (o9_at i x hx)
      have HXM := hide (List.mem_of_getElem? hx)
      have HC : Hid (Calls Tryd.prog 10 #[.pointer (some ⟨gt, 0, none⟩), .string x] wx fun e w' => e = .returned (.bool true) ∧ Hid (∃ F, Fls l F ∧ Tdn gt F w' ∧ Kp (fun q => q = gt) W w')) := by
        have hxs := own9_short x HXM.out
        rcases HP.out with ⟨_, e⟩ | ⟨_, F, hF, hd, hk⟩
        · rw [e]
          obtain ⟨vt, B, hq1, hq2⟩ := HTB6.out.e
          refine (tfilled_first W gt vt B l (.map none) x hxs hq1 (fun wy hk => (hq2 wy (hk.mono (fun _ _ e => .inr e))).t) (fun wy hk => otb_kp HOT.out HB6.out (Nat.le_trans HW4.out HGT.out) hk) HGD.out.2).mono ?_
          rintro e w8 ⟨M, k, rfl, hQ⟩
          obtain ⟨h1, ⟨n, h2⟩, h3, h4, _⟩ := hQ.out
          have hF := fls_itr h1
          exact ⟨by rw [memb_iff.2 (hF.own x HXM.out)], _, hF, ⟨⟨vt, B, M, n, h3, h2⟩⟩, h4⟩
        · refine (hd.ask x hxs).mono ?_
          rintro e w8 ⟨rfl, hb8⟩
          exact ⟨by rw [memb_iff.2 (hF.own x HXM.out)], F, hF, hd.next hb8, hk.trans (Kp.of_below (S := fun _ => False) hb8) (fun _ _ e => e.elim)⟩
      clear HP HKW HXA hx
      go_wp2_with fail
      refine HC.out.mono ?_
      rintro e w8 ⟨rfl, hP⟩
      have HP8 : Hid ((i + 1 = 0 ∧ w8 = W) ∨ (0 < i + 1 ∧ ∃ F, Fls l F ∧ Tdn gt F w8 ∧ Kp (fun q => q = gt) W w8)) := .inr ⟨by omega, hP.out⟩
      clear HC hP q1
      go_wp2_with fail
      go_roundw
      case rel => exact ⟨i + 1, by omega, by go_num, HP8⟩
      case measure => simp [intOf]; omega
    have hi9 : ¬ (i : Int) < 9 := by omega
    obtain ⟨F, hF, hd, hkw⟩ : ∃ F, Fls l F ∧ Tdn gt F wx ∧ Kp (fun q => q = gt) W wx := by
      rcases HP.out with ⟨e, _⟩ | ⟨_, h⟩
      · omega
      · exact h
    have HFL := hide hF
    have HD7 := hide hd
    have HBW : Hid (Below w.heap.size w wx) := HB6.out.trans (hkw.below HB6.out.size (fun q e => by have h1 := HW4.out; have h2 := HGT.out; have e' : q = gt := e; omega))
    have HS7 : Hid (Sfs w4 wx wx.heap.size wx) := ⟨H46.out.trans (hkw.below H46.out.size (fun q e => by have h2 := HGT.out; have e' : q = gt := e; omega)), Kp.refl _ _⟩
    have HA7 : Hid (A < wx.heap.size) := blk_lt HXA.out
    have HR8 := hide (Srw.nil wx.heap.size wx.heap.size wx)
    clear HP hF hd hkw HKW HB6 H46 HTB6 HX6 hlt hi
    go_wp2_with fail
    clear hi9
    go_loopw [8, 9] (fun va vi wy => ∃ (i : Nat) (a0 : Option Addr) (n0 c0 : Nat), i ≤ l.length ∧ va = .slice a0 n0 c0 ∧ vi = .int .i64 (i : Nat) ∧ Hid (Srw wx.heap.size wx.heap.size (.slice a0 n0 c0) (fll F (l.take i)) wy ∧ Sfs w4 wx wx.heap.size wy)) (fun _ vi _ => l.length - (intOf vi).toNat)
    case atStart => exact ⟨0, none, 0, 0, by omega, rfl, rfl, HR8.out, HS7.out⟩
    case round =>
      rename World => wy
      obtain ⟨i, a0, n0, c0, hi, rfl, rfl, HP⟩ := hrel
      clear HR8 HS7
      have HDY : Hid (Tdn gt F wy) := HD7.out.next (HP.out.2.kp.below (Nat.le_refl _) (fun q e => by rcases e with e | e <;> omega))
      by_cases hlt : i < l.length
      · have g1 : (i : Int) < (l.length : Int) := by omega
        obtain ⟨t, ht⟩ : ∃ t, l[i]? = some t := ⟨l[i], List.getElem?_eq_getElem hlt⟩
        obtain ⟨b, off, c, ha3, hc, hcell, hq, hts⟩ := tsl_at HL4.out ht
        subst ha3
        have q1 := keep_below HP.out.2.b4 _ _ hq
        have HTS := hide hts
        have HST := hide (fll_step F l i t ht)
        have HLN : Hid ((fll F (l.take i)).length ≤ 1000000) := by
          have h1 := fll_short (F := F) (l := l) (i := i)
          have h2 := HCL.out
          show _ ≤ _
          omega
        clear ht hc hcell hq hts
        go_wp2_with fail
        refine (HDY.out.ask t.n HTS.out).mono ?_
        rintro e w8 ⟨rfl, hb8⟩
        have HR9 := hide (HP.out.1.next hb8)
        have HS9 := hide (HP.out.2.next hb8)
        have q2 := keep_below hb8 _ _ q1
        clear HDY HP hb8 q1
        cases hm : memb F t.n with
        | false =>
          rw [hm] at HST
          have HST2 : Hid (fll F (l.take (i + 1)) = fll F (l.take i)) := by show _ = _; rw [HST.out]; simp
          clear hm HST q2
          go_wp2_with fail
          go_roundw
          case rel => exact ⟨i + 1, _, _, _, by omega, rfl, by go_num, by rw [HST2.out]; exact ⟨HR9.out, HS9.out⟩⟩
          case measure => simp [intOf]; omega
        | true =>
          rw [hm] at HST
          have HST2 : Hid (fll F (l.take (i + 1)) = fll F (l.take i) ++ [t.n]) := by show _ = _; rw [HST.out]; rfl
          have hb9 := below_alloc4 w8 (.cells #[.string t.n] 9)
          have HRA := hide (HR9.out.next hb9)
          have HSA := hide (HS9.out.next hb9)
          have HGG := hide (heap_alloc_new w8 (.cells #[.string t.n] 9))
          have HZ1 : Hid (wx.heap.size ≤ (w8.alloc (.cells #[.string t.n] 9)).heap.size ∧ wx.heap.size ≤ (w8.alloc (.cells #[.string t.n] 9)).heap.size) := ⟨HSA.out.kp.size, HSA.out.kp.size⟩
          clear hm HST hb9 HR9 HS9
          go_wp2_with (refine Srw.law HRA.out HTS.out HLN.out HZ1.out.1 HZ1.out.2 HGG.out rfl rfl rfl rfl ?_; intro a9 n9 c9 w9 HP9)
          have HP10 : Hid (Srw wx.heap.size wx.heap.size (.slice a9 n9 c9) (fll F (l.take (i + 1))) w9 ∧ Sfs w4 wx wx.heap.size w9) := by
            show _ ∧ _
            rw [HST2.out]
            exact ⟨HP9.out.1, HSA.out.grow HP9.out.2.1 HRA.out.p (by have := HA7.out; have := HA4.out; omega) (by have := HA7.out; have := HA4.out; omega)⟩
          clear HP9 HRA HSA HGG HZ1 q2
          go_wp2_with fail
          go_roundw
          case rel => exact ⟨i + 1, _, _, _, by omega, rfl, by go_num, HP10⟩
          case measure => simp [intOf]; omega
      have g1 : ¬ (i : Int) < (l.length : Int) := by omega
      have HP2 : Hid (Srw wx.heap.size wx.heap.size (.slice a0 n0 c0) (fll F l) wy ∧ Sfs w4 wx wx.heap.size wy) := by
        have h := HP.out
        rw [List.take_of_length_le (show l.length ≤ i by omega)] at h
        exact h
      have HLN : Hid ((fll F l).length ≤ 80) := by
        have h1 := fll_short (F := F) (l := l) (i := l.length)
        rw [List.take_of_length_le (Nat.le_refl _)] at h1
        have h2 := HCL.out
        show _ ≤ _
        omega
      clear HP HDY hlt hi
      go_wp2_with fail
      clear g1
      have HKY : Hid (Below wx.heap.size wx wy) := HP2.out.2.kp.below (Nat.le_refl _) (fun q e => by rcases e with e | e <;> omega)
      have HXY := hide ((HKY.out.block _ (blk_lt HXA.out)).trans HXA.out)
      have HS9 : Hid (SSl wy (.slice (some ⟨A, 0, none⟩) 9 9) own9) := ⟨⟨some ⟨A, 0, none⟩, 9, rfl, ⟨Nat.le_refl _, fun e => by cases e⟩, .inr ⟨A, 0, rfl, fun j s hj => by rw [Nat.zero_add]; exact blk_cell HXY.out (o9_at j s hj)⟩⟩, by decide, own9_short⟩
      refine (copyS_any wy _ own9 HS9.out (by decide)).mono ?_
      rintro e w8 ⟨v8, rfl, hP⟩
      have hb8 := hP.out.2.1
      have HO8 := hide hP.out.2.2
      obtain ⟨a8, k8, hv8, _⟩ := own_formG hP.out.2.2
      subst hv8
      have HR9 := hide (HP2.out.1.next hb8)
      have HS8 := hide (HP2.out.2.next hb8)
      have HY8 : Hid (wy.heap.size ≤ w8.heap.size) := hb8.size
      have HK8 := hide hb8
      clear hP hb8
      go_wp2_with (refine cat_law HO8.out HR9.out.o HY8.out (by decide) (by have := HLN.out; omega) rfl rfl rfl rfl ?_; intro a10 n10 c10 w10 HP10)
      have HF10 : Hid (SSl w10 (.slice a10 n10 c10) (own9 ++ fll F l)) := by
        have ho := HP10.out.1
        refine ssl_gsl (own_gsl (L := (own9 ++ fll F l).map fun s => #[Value.string s]) (by rw [List.length_map]; exact ho) (fun c hc => ?_) (by rw [List.length_map]) ?_ (fun i x c hx hc => ?_)) (fun s hs => ?_)
        · obtain ⟨s, _, rfl⟩ := List.mem_map.1 hc
          rfl
        · rw [List.length_append, own9_len]
          have := HLN.out
          omega
        · rw [List.getElem?_map, hx] at hc
          exact (Option.some.inj hc).symm
        · rcases List.mem_append.1 hs with hs | hs
          · exact own9_short s hs
          · exact HP2.out.1.s s hs
      have HGK : Hid (Below wy.heap.size wy w10) := HK8.out.trans ((kp_grown HP10.out.2).below HK8.out.size (fun q e => (HO8.out.lt q e).1))
      have HRT := hide (HP2.out.1.next HGK.out)
      have HST := hide (HP2.out.2.next HGK.out)
      clear HP10 HR9 HS8 HY8 HK8 HO8 HGK HP2 HS9 HXY
      go_loopw [11] (fun vi wz => ∃ i : Nat, i ≤ l.length ∧ vi = .int .i64 (i : Nat) ∧ Hid (Srw wx.heap.size wx.heap.size (.slice a0 n0 c0) (fll F l) wz ∧ Sfs w4 wx wx.heap.size wz ∧ SSl wz (.slice a10 n10 c10) (own9 ++ fll F l))) (fun vi _ => l.length - (intOf vi).toNat)
      case atStart => exact ⟨0, by omega, rfl, HRT.out, HST.out, HF10.out⟩
      case round =>
        rename World => wz
        obtain ⟨i2, hi, rfl, HP⟩ := hrel
        clear HRT HST HF10
        by_cases hlt : i2 < l.length
        · have g1 : (i2 : Int) < (l.length : Int) := by omega
          obtain ⟨t, ht⟩ : ∃ t, l[i2]? = some t := ⟨l[i2], List.getElem?_eq_getElem hlt⟩
          obtain ⟨b, off, c, ha3, hc, hcell, hq, hts⟩ := tsl_at HL4.out ht
          subst ha3
          have HQ1 : Hid (∀ wq, Below wz.heap.size wz wq → wq.cell? ⟨b, off + i2 * 9, none⟩ = some (.string t.n)) := fun wq hb => keep_below hb _ _ (keep_below HP.out.2.1.b4 _ _ hq)
          have HQ2 : Hid (∀ wq, Below wz.heap.size wz wq → ∀ j u, c[j]? = some u → wq.cell? ⟨b, off + i2 * 9 + j, none⟩ = some u) := fun wq hb j u hu => keep_below hb _ _ (keep_below HP.out.2.1.b4 _ _ (hcell j u hu))
          have HC9 := hide hc.size9
          have HTP : Hid (∀ wq, Below wz.heap.size wz wq → Tpi wq t c) := fun wq hb => (hc.move (keep_below HP.out.2.1.b4)).move (keep_below hb)
          have HTM := hide (List.mem_of_getElem? ht)
          have HCN : Hid (∀ wq, Below wz.heap.size wz wq → Calls Tryd.prog 12 #[.slice a10 n10 c10, .agg c] wq fun e w' => e = .returned (.bool (memb (fll F l) t.n)) ∧ Below wq.heap.size wq w') := fun wq hb => by
            have h := can_any wq _ (own9 ++ fll F l) (HP.out.2.2.move (keep_below hb)) t c (HTP.out wq hb)
            rw [full_rul HGD.out.1 HFL.out HTM.out] at h
            exact h
          have HHS : Hid (∀ wq, Below wz.heap.size wz wq → Calls Tryd.prog 13 #[.slice a0 n0 c0, .string t.n] wq fun e w' => e = .returned (.bool (memb (fll F l) t.n)) ∧ w' = wq) := fun wq hb => has_any wq _ (fll F l) ((HP.out.1.ssl (by have := HLN.out; omega)).move (keep_below hb)) t.n
          have HIT := hide infoTp
          have HAT : Hid (∀ w, (isAgg 29).run Tryd.prog w = .ok true w) := aggTp
          generalize memb (fll F l) t.n = R at *
          clear ht hc hcell hq hts HTP HTM
          go_wp2_with fail
          refine heldStart (S := fun wq => Below wz.heap.size wz wq) (by kernel_rfl) ?_
          have hS : Below wz.heap.size wz wz.drew := by
            refine Below.drew ?_
            exact Below.refl _ _
          refine heldTake 0 _ rfl (by kernel_rfl) (by kernel_rfl) (by kernel_rfl) (fun _ _ _ h => h) rfl hS (fun wy hy => by first | (go_simp; done) | (go_simp; rfl) | rfl) ?_
          (try simp only [Act.put]); (try simp only [List.setIfInBounds_toArray, List.set_cons_zero, List.set_cons_succ])
          refine heldTake 1 _ rfl (by kernel_rfl) (by kernel_rfl) (by kernel_rfl) (fun _ _ _ h => h) rfl hS (fun wy hy => by first | (go_simp; done) | (go_simp; rfl) | rfl) ?_
          (try simp only [Act.put]); (try simp only [List.setIfInBounds_toArray, List.set_cons_zero, List.set_cons_succ])
          refine heldTake 2 _ rfl (by kernel_rfl) (by kernel_rfl) (by kernel_rfl) (fun _ _ _ h => h) rfl hS (fun wy hy => by first | (go_simp; done) | (go_simp; rfl) | rfl) ?_
          (try simp only [Act.put]); (try simp only [List.setIfInBounds_toArray, List.set_cons_zero, List.set_cons_succ])
          refine heldTake 3 _ rfl (by kernel_rfl) (by kernel_rfl) (by kernel_rfl) (fun _ _ _ h => h) rfl hS (fun wy hy => by first | (go_simp; done) | (go_simp; rfl) | rfl) ?_
          (try simp only [Act.put]); (try simp only [List.setIfInBounds_toArray, List.set_cons_zero, List.set_cons_succ])
          refine heldTake 4 _ rfl (by kernel_rfl) (by kernel_rfl) (by kernel_rfl) (fun _ _ _ h => h) rfl hS (fun wq hq => exec_aggAt (g := b) (off := off + i2 * 9) (cs := c) HIT.out HAT.out rfl rfl HC9.out (HQ2.out wq hq)) ?_
          (try simp only [Act.put]); (try simp only [List.setIfInBounds_toArray, List.set_cons_zero, List.set_cons_succ])
          refine heldTake 6 _ rfl (by kernel_rfl) (by kernel_rfl) (by kernel_rfl) (fun _ _ _ h => h) rfl hS (fun wy hy => by first | (go_simp; done) | (go_simp; rfl) | rfl) ?_
          (try simp only [Act.put]); (try simp only [List.setIfInBounds_toArray, List.set_cons_zero, List.set_cons_succ])
          refine heldTake 7 _ rfl (by kernel_rfl) (by kernel_rfl) (by kernel_rfl) (fun _ _ _ h => h) rfl hS (fun wy hy => by first | (go_simp; done) | (go_simp; rfl) | rfl) ?_
          (try simp only [Act.put]); (try simp only [List.setIfInBounds_toArray, List.set_cons_zero, List.set_cons_succ])
          refine heldTake 8 _ rfl (by kernel_rfl) (by kernel_rfl) (by kernel_rfl) (fun _ _ _ h => h) rfl hS (fun wy hy => by first | (go_simp; done) | (go_simp; rfl) | rfl) ?_
          (try simp only [Act.put]); (try simp only [List.setIfInBounds_toArray, List.set_cons_zero, List.set_cons_succ])
          refine heldTake 9 _ rfl (by kernel_rfl) (by kernel_rfl) (by kernel_rfl) (fun _ _ _ h => h) rfl hS (fun wy hy => by first | (go_simp; done) | (go_simp; rfl) | rfl) ?_
          (try simp only [Act.put]); (try simp only [List.setIfInBounds_toArray, List.set_cons_zero, List.set_cons_succ])
          refine heldTake 10 _ rfl (by kernel_rfl) (by kernel_rfl) (by kernel_rfl) (fun _ _ _ h => h) rfl hS (fun wy hy => by first | (go_simp; done) | (go_simp; rfl) | rfl) ?_
          (try simp only [Act.put]); (try simp only [List.setIfInBounds_toArray, List.set_cons_zero, List.set_cons_succ])
          refine heldTake 11 _ rfl (by kernel_rfl) (by kernel_rfl) (by kernel_rfl) (fun _ _ _ h => h) rfl hS (fun wq hq => by have h0 := HQ1.out wq hq; first | (go_simp; done) | (go_simp; rfl) | rfl) ?_
          (try simp only [Act.put]); (try simp only [List.setIfInBounds_toArray, List.set_cons_zero, List.set_cons_succ])
          refine heldStep 5 rfl (by kernel_rfl) (fun K hK => ?_)
          go_simp
          refine (HCN.out _ hS).mono ?_
          rintro e w11 ⟨rfl, hb11⟩
          have hS3 : Below wz.heap.size wz w11 := hS.trans (hb11.mono hS.size)
          refine (Hid.out hK) _ _ hS3 (fun hS2 => ?_)
          clear hK K hS
          have hS := hS2
          clear hS2
          (try simp only [Act.put]); (try simp only [List.setIfInBounds_toArray, List.set_cons_zero, List.set_cons_succ])
          refine heldStep 12 rfl (by kernel_rfl) (fun K hK => ?_)
          go_simp
          refine (HHS.out _ hS).mono ?_
          rintro e w12 ⟨rfl, rfl⟩
          refine (Hid.out hK) _ _ hS3 (fun hS2 => ?_)
          clear hK K hS
          have hS := hS2
          clear hS2
          (try simp only [Act.put]); (try simp only [List.setIfInBounds_toArray, List.set_cons_zero, List.set_cons_succ])
          have eR : (R != R) = false := by cases R <;> rfl
          refine heldTake 13 _ rfl (by kernel_rfl) (by kernel_rfl) (by kernel_rfl) (fun _ _ _ h => h) rfl hS (fun wy hy => by first | (go_simp; done) | (go_simp; rfl) | rfl) ?_
          (try simp only [Act.put]); (try simp only [List.setIfInBounds_toArray, List.set_cons_zero, List.set_cons_succ])
          refine heldDone (by kernel_rfl) ?_
          have HPn : Hid (Srw wx.heap.size wx.heap.size (.slice a0 n0 c0) (fll F l) w12 ∧ Sfs w4 wx wx.heap.size w12 ∧ SSl w12 (.slice a10 n10 c10) (own9 ++ fll F l)) := ⟨HP.out.1.next hS, HP.out.2.1.next hS, HP.out.2.2.move (keep_below hS)⟩
          clear HP HCN HHS HQ1 HQ2 hS hS3 hb11
          go_wp2_with fail
          go_roundw
          case rel => exact ⟨i2 + 1, by omega, by go_num, HPn⟩
          case measure => simp [intOf]; omega
        have g1 : ¬ (i2 : Int) < (l.length : Int) := by omega
        have HKZ : Hid (Below wx.heap.size wx wz) := HP.out.2.1.kp.below (Nat.le_refl _) (fun q e => by rcases e with e | e <;> omega)
        have HXZ := hide ((HKZ.out.block _ (blk_lt HXA.out)).trans HXA.out)
        have HRD : Hid (Srw A wx.heap.size (.slice (some ⟨A, 0, none⟩) 9 9) (frds (fll F l) l 0) wz ∧ Srw wx.heap.size wx.heap.size (.slice a0 n0 c0) (fll F l) wz ∧ Sfs w4 wx A wz ∧ ∀ q, (Value.slice (some ⟨A, 0, none⟩) 9 9).ownBlock = some q → (Value.slice a0 n0 c0).ownBlock ≠ some q) := ⟨⟨own9_row HXZ.out, fun q e => .inl (Option.some.inj e).symm, own9_short⟩, HP.out.1, ⟨HP.out.2.1.b4, HP.out.2.1.kp.mono (fun q hq e => by rcases e with e | e; exact .inr (by omega); exact .inr e)⟩, fun q e e2 => by
          have h1 := (HP.out.1.o.lt q e2).1
          have h2 := HA7.out
          have h3 : A = q := Option.some.inj e
          omega⟩
        clear HP HKZ HXZ hlt hi
        go_wp2_with fail
        clear g1
        go_loopw [6, 12] (fun vh vn wu => ∃ (n : Nat) (a1 : Option Addr) (n1 k1 : Nat), n ≤ l.length ∧ vh = .slice a1 n1 k1 ∧ vn = .int .i64 (n : Nat) ∧ Hid (Srw A wx.heap.size (.slice a1 n1 k1) (frds (fll F l) l n) wu ∧ Srw wx.heap.size wx.heap.size (.slice a0 n0 c0) (fll F l) wu ∧ Sfs w4 wx A wu ∧ ∀ q, (Value.slice a1 n1 k1).ownBlock = some q → (Value.slice a0 n0 c0).ownBlock ≠ some q)) (fun _ vn _ => l.length - (intOf vn).toNat)
        case atStart => exact ⟨0, _, _, _, by omega, rfl, rfl, HRD⟩
        case round =>
          rename World => wu
          obtain ⟨n, a1, n1, k1, hn, rfl, rfl, HP⟩ := hrel
          clear HRD
          by_cases hlt : n < l.length
          · have g1 : (n : Int) < (l.length : Int) := by omega
            have HP0 : Hid (Srw A wx.heap.size (.slice a1 n1 k1) (frd (fll F l) (frds (fll F l) l n) (l.take 0)) wu ∧ Srw wx.heap.size wx.heap.size (.slice a0 n0 c0) (fll F l) wu ∧ Sfs w4 wx A wu ∧ ∀ q, (Value.slice a1 n1 k1).ownBlock = some q → (Value.slice a0 n0 c0).ownBlock ≠ some q) := HP.out
            clear HP
            go_wp2_with fail
            go_loopw [6, 13] (fun vh vi wv => ∃ (i : Nat) (a1 : Option Addr) (n1 k1 : Nat), i ≤ l.length ∧ vh = .slice a1 n1 k1 ∧ vi = .int .i64 (i : Nat) ∧ Hid (Srw A wx.heap.size (.slice a1 n1 k1) (frd (fll F l) (frds (fll F l) l n) (l.take i)) wv ∧ Srw wx.heap.size wx.heap.size (.slice a0 n0 c0) (fll F l) wv ∧ Sfs w4 wx A wv ∧ ∀ q, (Value.slice a1 n1 k1).ownBlock = some q → (Value.slice a0 n0 c0).ownBlock ≠ some q)) (fun _ vi _ => l.length - (intOf vi).toNat)
            case atStart => exact ⟨0, _, _, _, by omega, rfl, rfl, HP0⟩
            case round =>
              rename World => wv
              clear HP0
              obtain ⟨i3, a1, n1, k1, hi, rfl, rfl, HP⟩ := hrel
              by_cases hlt2 : i3 < l.length
              · have g2 : (i3 : Int) < (l.length : Int) := by omega
                obtain ⟨t, ht⟩ : ∃ t, l[i3]? = some t := ⟨l[i3], List.getElem?_eq_getElem hlt2⟩
                obtain ⟨b, off, c, ha3, hc, hcell, hq, hts⟩ := tsl_at HL4.out ht
                subst ha3
                have HRI : Hid (Rdi F l (frd (fll F l) (frds (fll F l) l n) (l.take i3))) := Rdi.round (l.take i3) (Rdi.all n)
                have HST := hide (frd_step (fll F l) (frds (fll F l) l n) l i3 t ht)
                have HLB := hide (rdi_len HRI.out HLN.out)
                have q1 := keep_below HP.out.2.2.1.b4 _ _ hq
                have HQ2 : Hid (∀ j u, c[j]? = some u → wv.cell? ⟨b, off + i3 * 9 + j, none⟩ = some u) := fun j u hu => keep_below HP.out.2.2.1.b4 _ _ (hcell j u hu)
                have HC9 := hide hc.size9
                have HTS := hide hts
                have HP1 := hide HP.out.1
                have HP2 := hide HP.out.2.1
                have HP3 := hide HP.out.2.2.1
                have HP4 := hide HP.out.2.2.2
                generalize frd (fll F l) (frds (fll F l) l n) (l.take i3) = B at *
                have HA1 := hide (has_any wv _ (fll F l) (HP2.out.ssl (by have := HLN.out; omega)) t.n)
                have HA2 := hide (has_any wv _ B (HP1.out.ssl (by have := HLB.out; omega)) t.n)
                have HA3 := hide (can_any wv _ B (HP1.out.ssl (by have := HLB.out; omega)) t c (hc.move (keep_below HP3.out.b4)))
                have HIT := hide infoTp
                have HAT : Hid (∀ w, (isAgg 29).run Tryd.prog w = .ok true w) := aggTp
                unfold frd1 at HST
                clear ht hc hcell hq hts HP HRI
                cases hm1 : memb (fll F l) t.n with
                | false =>
                  rw [hm1] at HA1 HST
                  rw [if_neg (by simp)] at HST
                  clear hm1 HA2 HA3
                  go_wp2_with fail
                  refine HA1.out.mono ?_
                  rintro e wv2 ⟨rfl, rfl⟩
                  clear HA1 HQ2 q1
                  have HPn : Hid (Srw A wx.heap.size (.slice a1 n1 k1) (frd (fll F l) (frds (fll F l) l n) (l.take (i3 + 1))) wv2 ∧ Srw wx.heap.size wx.heap.size (.slice a0 n0 c0) (fll F l) wv2 ∧ Sfs w4 wx A wv2 ∧ ∀ q, (Value.slice a1 n1 k1).ownBlock = some q → (Value.slice a0 n0 c0).ownBlock ≠ some q) := by
                    show _ ∧ _
                    rw [HST.out]
                    exact ⟨HP1.out, HP2.out, HP3.out, HP4.out⟩
                  clear HST HP1 HP2 HP3 HP4
                  go_wp2_with fail
                  go_roundw
                  case rel => exact ⟨i3 + 1, _, _, _, by omega, rfl, by go_num, HPn⟩
                  case measure => simp [intOf]; omega
                | true =>
                  rw [hm1] at HA1 HST
                  clear hm1
                  go_wp2_with fail
                  refine HA1.out.mono ?_
                  rintro e wv2 ⟨rfl, rfl⟩
                  clear HA1
                  cases hm2 : memb B t.n with
                  | true =>
                    rw [hm2] at HA2 HST
                    rw [if_neg (by simp)] at HST
                    clear hm2 HA3
                    go_wp2_with fail
                    refine HA2.out.mono ?_
                    rintro e wv3 ⟨rfl, rfl⟩
                    clear HA2 HQ2 q1
                    have HPn : Hid (Srw A wx.heap.size (.slice a1 n1 k1) (frd (fll F l) (frds (fll F l) l n) (l.take (i3 + 1))) wv3 ∧ Srw wx.heap.size wx.heap.size (.slice a0 n0 c0) (fll F l) wv3 ∧ Sfs w4 wx A wv3 ∧ ∀ q, (Value.slice a1 n1 k1).ownBlock = some q → (Value.slice a0 n0 c0).ownBlock ≠ some q) := by
                      show _ ∧ _
                      rw [HST.out]
                      exact ⟨HP1.out, HP2.out, HP3.out, HP4.out⟩
                    clear HST HP1 HP2 HP3 HP4
                    go_wp2_with fail
                    go_roundw
                    case rel => exact ⟨i3 + 1, _, _, _, by omega, rfl, by go_num, HPn⟩
                    case measure => simp [intOf]; omega
                  | false =>
                    rw [hm2] at HA2 HST
                    clear hm2
                    go_wp2_with fail
                    refine HA2.out.mono ?_
                    rintro e wv3 ⟨rfl, rfl⟩
                    clear HA2
                    go_wp2_with (refine wpList_aggAt rfl rfl HIT.out HAT.out b (off + i3 * 9) c rfl HC9.out HQ2.out ?_)
                    refine HA3.out.mono ?_
                    rintro e wv4 ⟨rfl, hb4⟩
                    replace HP1 := hide (HP1.out.next hb4)
                    replace HP2 := hide (HP2.out.next hb4)
                    replace HP3 := hide (HP3.out.next hb4)
                    have q2 := keep_below hb4 _ _ q1
                    clear HA3 HQ2 q1 hb4
                    cases hr : rulb B t with
                    | false =>
                      rw [hr] at HST
                      rw [if_neg (by simp)] at HST
                      clear hr q2
                      have HPn : Hid (Srw A wx.heap.size (.slice a1 n1 k1) (frd (fll F l) (frds (fll F l) l n) (l.take (i3 + 1))) wv4 ∧ Srw wx.heap.size wx.heap.size (.slice a0 n0 c0) (fll F l) wv4 ∧ Sfs w4 wx A wv4 ∧ ∀ q, (Value.slice a1 n1 k1).ownBlock = some q → (Value.slice a0 n0 c0).ownBlock ≠ some q) := by
                        show _ ∧ _
                        rw [HST.out]
                        exact ⟨HP1.out, HP2.out, HP3.out, HP4.out⟩
                      clear HST HP1 HP2 HP3 HP4
                      go_wp2_with fail
                      go_roundw
                      case rel => exact ⟨i3 + 1, _, _, _, by omega, rfl, by go_num, HPn⟩
                      case measure => simp [intOf]; omega
                    | true =>
                      rw [hr] at HST
                      rw [if_pos (by simp)] at HST
                      clear hr
                      have hb9 := below_alloc4 wv4 (.cells #[.string t.n] 9)
                      replace HP1 := hide (HP1.out.next hb9)
                      replace HP2 := hide (HP2.out.next hb9)
                      replace HP3 := hide (HP3.out.next hb9)
                      have HGG := hide (heap_alloc_new wv4 (.cells #[.string t.n] 9))
                      have HZ1 : Hid (A ≤ (wv4.alloc (.cells #[.string t.n] 9)).heap.size ∧ wx.heap.size ≤ (wv4.alloc (.cells #[.string t.n] 9)).heap.size) := by
                        have h1 := HP3.out.kp.size
                        have h2 := HA7.out
                        exact ⟨by omega, h1⟩
                      have HLB2 : Hid (B.length ≤ 1000000) := by have := HLB.out; show _ ≤ _; omega
                      clear hb9
                      go_wp2_with (refine Srw.law HP1.out HTS.out HLB2.out HZ1.out.1 HZ1.out.2 HGG.out rfl rfl rfl rfl ?_; intro a9 n9 k9 w9 HP9)
                      have HPn : Hid (Srw A wx.heap.size (.slice a9 n9 k9) (frd (fll F l) (frds (fll F l) l n) (l.take (i3 + 1))) w9 ∧ Srw wx.heap.size wx.heap.size (.slice a0 n0 c0) (fll F l) w9 ∧ Sfs w4 wx A w9 ∧ ∀ q, (Value.slice a9 n9 k9).ownBlock = some q → (Value.slice a0 n0 c0).ownBlock ≠ some q) := by
                        show _ ∧ _
                        rw [HST.out]
                        have hlt9 : ∀ q, (Value.slice a0 n0 c0).ownBlock = some q → q < (wv4.alloc (.cells #[.string t.n] 9)).heap.size := fun q e => (HP2.out.o.lt q e).2
                        refine ⟨HP9.out.1, HP2.out.kp (kp_grown HP9.out.2.1) (fun q e e2 => HP4.out q e2 e), HP3.out.grow HP9.out.2.1 HP1.out.p HA4.out (by have := HA7.out; have := HA4.out; omega), fun q e e2 => ?_⟩
                        rcases HP9.out.2.2 with h8 | h8
                        · rw [h8] at e
                          exact HP4.out q e e2
                        · rw [h8] at e
                          have h9 := hlt9 q e2
                          have h10 := Option.some.inj e
                          omega
                      clear HP9 HST HP1 HP2 HP3 HP4 HGG HZ1 q2
                      go_wp2_with fail
                      go_roundw
                      case rel => exact ⟨i3 + 1, _, _, _, by omega, rfl, by go_num, HPn⟩
                      case measure => simp [intOf]; omega
              · have g2 : ¬ (i3 : Int) < (l.length : Int) := by omega
                have HPn : Hid (Srw A wx.heap.size (.slice a1 n1 k1) (frds (fll F l) l (n + 1)) wv ∧ Srw wx.heap.size wx.heap.size (.slice a0 n0 c0) (fll F l) wv ∧ Sfs w4 wx A wv ∧ ∀ q, (Value.slice a1 n1 k1).ownBlock = some q → (Value.slice a0 n0 c0).ownBlock ≠ some q) := by
                  have h := HP.out
                  rw [List.take_of_length_le (show l.length ≤ i3 by omega)] at h
                  exact h
                clear HP
                go_wp2_with fail
                go_roundw
                case rel => first | exact ⟨n + 1, _, _, _, by omega, rfl, by go_num, HPn⟩ | (repeat (first | exact ⟨⟨n + 1, _, _, _, by omega, rfl, by go_num, HPn⟩, rfl⟩ | apply Exists.intro))
                case measure => simp [intOf]; omega
          · have g1 : ¬ (n : Int) < (l.length : Int) := by omega
            have hnl : n = l.length := by omega
            have hend := frds_end HGD.out.1 HFL.out
            rw [← hnl] at hend
            have e1 : n1 = (frds (fll F l) l n).length := by
              obtain ⟨_, _, e, _⟩ := own_formG HP.out.1.o
              injection e
            have e0 : n0 = (fll F l).length := by
              obtain ⟨_, _, e, _⟩ := own_formG HP.out.2.1.o
              injection e
            have hn0 : n0 ≤ 80 := by have := HLN.out; omega
            have hn1 : n1 = 9 + n0 := by omega
            have hwr : IntKind.i64.wrap (9 + (n0 : Int)) = (n1 : Int) := by rw [IntKind.wrap_i64]; omega
            have HBU : Hid (Below w.heap.size w wu) := HBW.out.trans (HP.out.2.2.1.kp.below HBW.out.size (fun q e => by have h1 := HA4.out; have h2 := HW4.out; have h3 := HBW.out.size; rcases e with e | e <;> omega))
            clear hend e1 e0 HP hnl hn1 hn0
            go_wp2_with (first
              | (go_at_call 5
                 refine (HBG.out _ HBU.out).mono ?_
                 rintro e w99 ⟨rfl, hb99⟩
                 have HB99 : Hid (Below w.heap.size w w99) := HBU.out.trans (hb99.mono HBU.out.size)
                 clear hb99))
            go_ret
            exact ⟨rfl, HB99.out⟩
end
section
open Go.ChangeShapes Go.WideShapes Go.ChangeAt Go.RowKit Go.Deep Go.Joins Go
theorem Tryd.cells_str : Tryd.prog.cellsOf 9 = 1 := by kernel_rfl
section
variable {H : Type} {enc : TypeId × Value → H} {P : Program} {w : World} {base : Nat} {spare : Nat → Bool} {held : Bool}
end
end
section
open Go.ChangeShapes Go.WideShapes Go.ChangeAt Go.RowKit Go.Deep Go.Joins Go
theorem weight_le {H : Type} {t : TypeId} {d : DataW H} (h : (d.weights Tryd.prog t).all (· ≤ reachBytes) = true) {n : Nat} (hn : n ∈ d.weights Tryd.prog t) : n ≤ 140737488351232 := by
  have := List.all_eq_true.1 h n hn
  unfold reachBytes at this
  simpa using this
theorem weight_each {H : Type} {ts : List TypeId} {ds : List (DataW H)} (h : (DataW.weightsEach Tryd.prog ts ds).all (· ≤ reachBytes) = true) {j : Nat} {t : TypeId} {d : DataW H} (ht : ts[j]? = some t) (hd : ds[j]? = some d) : (d.weights Tryd.prog t).all (· ≤ reachBytes) = true :=
  List.all_eq_true.2 fun n hn => List.all_eq_true.1 h n (DataW.weights_mem_each ht hd n hn)
theorem Tryd.bytesStr : Tryd.prog.bytesOf 9 = 16 := by kernel_rfl
theorem ssl_open {H : Type} {enc : TypeId × Value → H} {w : World} {base fuel : Nat} {held : Bool} {v : Value} {x : DataW H × List MemPlace} (h : DataW.trod enc Tryd.prog w base (fun _ => true) held fuel 27 [v] = some x) (hW : (x.1.weights Tryd.prog 27).all (· ≤ reachBytes) = true) : ∃ ks, SSl w v ks := by
  rcases open_strings Tryd.underlying27 Tryd.underlying9 Tryd.cells_str h with ⟨hcs, _⟩ | ⟨a, len, cap, ss, hcs, _, hl, hm, hmm, hx, hel, hsz⟩
  · injection hcs with hcs _
    subst hcs
    exact ⟨[], ⟨none, 0, rfl, ⟨by simp, fun _ => rfl⟩, .inl rfl⟩, by simp, by simp⟩
  · injection hcs with hcs _
    subst hcs
    simp only [if_true] at hmm
    have hlen : (ss.take len).length = len := by rw [List.length_take]; omega
    unfold maxLen at hm
    have hw1 : len ≤ 140737488351232 := by
      have h1 := weight_le hW (n := ((strs (H := H) (ss.take len)).length + (strs (H := H) (ss.drop len)).length) * Tryd.prog.bytesOf 9) (by rw [hx]; simp only [DataW.weights, Tryd.underlying27]; exact List.mem_cons_self ..)
      rw [Tryd.bytesStr] at h1
      have h2 : (strs (H := H) (ss.take len)).length = len := by simp [strs]; omega
      omega
    have hw2 : ∀ s ∈ ss.take len, s.size ≤ 140737488351232 := fun s hs => by
      refine weight_le hW ?_
      rw [hx]
      simp only [DataW.weights, Tryd.underlying27]
      refine List.mem_cons.2 (.inr (List.mem_append.2 (.inl (weights_all (d := .lit (.string s.data.toList)) (List.mem_map.2 ⟨s, hs, rfl⟩) _ ?_))))
      simp only [DataW.weights, List.mem_singleton]
      rfl
    refine ⟨ss.take len, ⟨some a, cap, by rw [hlen], ⟨by rw [hlen]; exact hl, fun h => by cases h⟩, ?_⟩, by rw [hlen]; exact hw1, hw2⟩
    by_cases hz : len = 0
    · exact .inl (by rw [hz]; rfl)
    · obtain ⟨b, off, spot⟩ := a
      have hspot : spot = none := by
        have := hel 0 (by omega)
        simpa [Addr.add] using World.cell?_spot this
      subst hspot
      refine .inr ⟨b, off, rfl, fun j s hj => ?_⟩
      have hjl : j < len := by
        have := (List.getElem?_eq_some_iff.1 hj).1
        omega
      have h1 := hel j (by omega)
      rw [addr_add] at h1
      rw [h1]
      rw [List.getElem?_take_of_lt hjl] at hj
      rw [List.getD_eq_getElem?_getD, hj]
      rfl
end
section
open Go.ChangeShapes Go.WideShapes Go.ChangeAt Go.RowKit Go.Deep Go.Joins Go
/-! ### Types as arguments -/
theorem gsl_of {α : Type} {n : Nat} {P : World → α → Array Value → Prop} {w : World} {a : Addr} {len cap : Nat} [Inhabited α] (hn : 0 < n) (hP : ∀ x c, P w x c → c.size = n) (hl : len ≤ cap) (hm : len ≤ 140737488351232) (each : ∀ i, i < len → ∃ t cs', P w t cs' ∧ ∀ j u, cs'[j]? = some u → w.cell? ((a.add (i * n)).add j) = some u) : ∃ is, GSl n P w (.slice (some a) len cap) is := by
  have hch : ∀ i, ∃ t : α, i < len → ∃ cs', P w t cs' ∧ ∀ j u, cs'[j]? = some u → w.cell? ((a.add (i * n)).add j) = some u := fun i => by
    by_cases hi : i < len
    · obtain ⟨t, h⟩ := each i hi
      exact ⟨t, fun _ => h⟩
    · exact ⟨default, fun h => absurd h hi⟩
  obtain ⟨f, hf⟩ := Classical.axiomOfChoice hch
  have hln : ((List.range len).map f).length = len := by simp
  refine ⟨(List.range len).map f, ⟨some a, cap, by rw [hln], ⟨by rw [hln]; exact hl, fun h => by cases h⟩, ?_⟩, by rw [hln]; omega⟩
  by_cases hz : len = 0
  · exact .inl (by rw [hz]; rfl)
  · obtain ⟨b, off, spot⟩ := a
    have hspot : spot = none := by
      obtain ⟨t, cs', ht, hc⟩ := each 0 (by omega)
      have hs := hP t cs' ht
      have := hc 0 (cs'[0]'(by omega)) (Array.getElem?_eq_getElem _)
      simpa [Addr.add] using World.cell?_spot this
    subst hspot
    refine .inr ⟨b, off, rfl, fun i t hi => ?_⟩
    have hil : i < len := by
      have := (List.getElem?_eq_some_iff.1 hi).1
      omega
    rw [List.getElem?_map, List.getElem?_range hil] at hi
    injection hi with hi
    subst hi
    obtain ⟨cs', h1, h2⟩ := hf i hil
    refine ⟨cs', h1, fun j u hu => ?_⟩
    have := h2 j u hu
    rw [addr_add, addr_add] at this
    exact this
/-- A slice of structs opened, one struct's opening given. -/
theorem gsl_open {H : Type} {enc : TypeId × Value → H} {α : Type} [Inhabited α] {n : Nat} {P : World → α → Array Value → Prop} {S T : TypeId} {w : World} {base fuel : Nat} {held : Bool} {v : Value} {x : DataW H × List MemPlace} (hS : Tryd.prog.underlying S = some (.slice T)) (hcT : Tryd.prog.cellsOf T = n) (hbT : 0 < Tryd.prog.bytesOf T) (hn : 0 < n) (hP : ∀ x c, P w x c → c.size = n)
    (one : ∀ (fuel : Nat) (cs : List Value) (x : DataW H × List MemPlace), DataW.trod enc Tryd.prog w base (fun _ => true) held fuel T cs = some x → (x.1.weights Tryd.prog T).all (· ≤ reachBytes) = true → ∃ t, P w t cs.toArray)
    (h : DataW.trod enc Tryd.prog w base (fun _ => true) held fuel S [v] = some x) (hW : (x.1.weights Tryd.prog S).all (· ≤ reachBytes) = true) : ∃ is, GSl n P w v is := by
  rcases DataW.trod_slice hS h with ⟨hcs, _⟩ | ⟨a, len, cap, elems, rest, m, hfm, hcs, hx9, hb, hl, hm, hlen2, hel, _, _⟩
  · injection hcs with hcs _
    subst hcs
    exact ⟨[], GSl.nil⟩
  · injection hcs with hcs _
    subst hcs
    have hm2 : len ≤ 140737488351232 := by
      have h1 := weight_le hW (n := ((elems.map (·.1)).length + (rest.map (·.1)).length) * Tryd.prog.bytesOf T) (by rw [hx9]; simp only [DataW.weights, hS]; exact List.mem_cons_self ..)
      rw [List.length_map] at h1
      have h2 : len * 1 ≤ (elems.length + (rest.map (·.1)).length) * Tryd.prog.bytesOf T := Nat.mul_le_mul (by omega) hbT
      omega
    have hwe : ∀ (i : Nat) (z : DataW H × List MemPlace), elems[i]? = some z → (z.1.weights Tryd.prog T).all (· ≤ reachBytes) = true := fun i z hz => List.all_eq_true.2 fun n hn => by
      refine List.all_eq_true.1 hW n ?_
      rw [hx9]
      simp only [DataW.weights, hS]
      exact List.mem_cons.2 (.inr (List.mem_append.2 (.inl (weights_all (List.mem_map.2 ⟨z, List.mem_of_getElem? hz, rfl⟩) n hn))))
    refine gsl_of hn hP hl hm2 fun i hi => ?_
    have h1 := hel i hi
    rw [hcT] at h1
    have h2 : ∃ z, elems[i]? = some z := ⟨elems[i]'(by omega), List.getElem?_eq_getElem (by omega)⟩
    obtain ⟨z, hz⟩ := h2
    rw [hz] at h1
    obtain ⟨cs', h3, h4⟩ := Option.bind_eq_some_iff.1 h1
    obtain ⟨t, ht⟩ := one m cs' z h4 (hwe i z hz)
    obtain ⟨_, hln, hcell⟩ := World.cells?_some h3
    refine ⟨t, cs'.toArray, ht, fun j u hu => ?_⟩
    rw [List.getElem?_toArray] at hu
    have hj : j < n := by
      have := (List.getElem?_eq_some_iff.1 hu).1
      omega
    rw [hcell j hj]
    exact hu
instance : Inhabited Rf := ⟨zrf⟩
instance : Inhabited Fd := ⟨⟨⟨#[]⟩, ⟨#[]⟩, zrf, false⟩⟩
instance : Inhabited Cz := ⟨⟨⟨#[]⟩, ⟨#[]⟩⟩⟩
instance : Inhabited Tp := ⟨ztp⟩
theorem cellsRf : Tryd.prog.cellsOf 24 = 2 := by kernel_rfl
theorem cellsFd : Tryd.prog.cellsOf 46 = 5 := by kernel_rfl
theorem cellsCz : Tryd.prog.cellsOf 48 = 2 := by kernel_rfl
theorem cellsTp : Tryd.prog.cellsOf 29 = 9 := by kernel_rfl
theorem cells3 : Tryd.prog.cellsOf 3 = 1 := by kernel_rfl
theorem cells2 : Tryd.prog.cellsOf 2 = 1 := by kernel_rfl
theorem cells4 : Tryd.prog.cellsOf 4 = 1 := by kernel_rfl
theorem cells9 : Tryd.prog.cellsOf 9 = 1 := by kernel_rfl
theorem cellsFs : Tryd.prog.cellsOf 25 = 1 := by kernel_rfl
theorem cellsCs : Tryd.prog.cellsOf 26 = 1 := by kernel_rfl
theorem cellsWs : Tryd.prog.cellsOf 27 = 1 := by kernel_rfl
theorem bytesFd : Tryd.prog.bytesOf 46 = 64 := by kernel_rfl
theorem bytesCz : Tryd.prog.bytesOf 48 = 32 := by kernel_rfl
theorem bytesTp : Tryd.prog.bytesOf 29 = 136 := by kernel_rfl
theorem str_le {H : Type} {x : DataW H × List MemPlace} {s : ByteArray} (hx : x = (.lit (.string s.data.toList), [])) (hW : (x.1.weights Tryd.prog 9).all (· ≤ reachBytes) = true) : s.size ≤ 140737488351232 := by
  refine weight_le (t := 9) hW ?_
  rw [hx]
  simp only [DataW.weights, List.mem_singleton]
  rfl
set_option maxRecDepth 100000 in
theorem ref_open {H : Type} {enc : TypeId × Value → H} {w : World} {base fuel : Nat} {held : Bool} {c0 c1 : Value} {x : DataW H × List MemPlace} (h : DataW.trod enc Tryd.prog w base (fun _ => true) held fuel 24 [c0, c1] = some x) (hW : (x.1.weights Tryd.prog 24).all (· ≤ reachBytes) = true) : ∃ r : Rf, c0 = .string r.n ∧ c1 = .bool r.z ∧ r.n.size ≤ 140737488351232 := by
  obtain ⟨y0, y1, n, hx, _, h0, h1⟩ := trod_struct2 Tryd.underlying24 h
  have g0 : DataW.trod enc Tryd.prog w base (fun _ => true) held n 9 [c0] = some y0 := by simpa [cells9] using h0
  have g1 : DataW.trod enc Tryd.prog w base (fun _ => true) held n 4 [c1] = some y1 := by simpa [cells4] using h1
  obtain ⟨s, e0, hy0, _⟩ := DataW.trod_string Tryd.underlying9 g0
  obtain ⟨z, e1, _⟩ := DataW.trod_bool Tryd.underlying4 g1
  have hWE : (DataW.weightsEach Tryd.prog [9, 4] [y0.1, y1.1]).all (· ≤ reachBytes) = true := by
    rw [hx] at hW
    simp only [DataW.weights, Tryd.underlying24] at hW
    exact hW
  injection e0 with e0 _
  injection e1 with e1 _
  exact ⟨⟨s, z⟩, e0, e1, str_le hy0 (weight_each hWE (j := 0) rfl rfl)⟩
set_option maxRecDepth 100000 in
theorem field_open {H : Type} {enc : TypeId × Value → H} {w : World} {base : Nat} {held : Bool} (fuel : Nat) (cs : List Value) (x : DataW H × List MemPlace) (h : DataW.trod enc Tryd.prog w base (fun _ => true) held fuel 46 cs = some x) (hW : (x.1.weights Tryd.prog 46).all (· ≤ reachBytes) = true) : ∃ f, Fdi w f cs.toArray := by
  obtain ⟨xs, n, _, hx, hlen, hxl, hf⟩ := DataW.trod_struct Tryd.underlying46 h
  rw [cellsFd] at hlen
  match cs, hlen, xs, hxl with
  | [c0, c1, c2, c3, c4], _, [y0, y1, y2, y3], _ =>
    have g0 : DataW.trod enc Tryd.prog w base (fun _ => true) held n 9 [c0] = some y0 := by simpa [cells9] using hf 0 _ rfl
    have g1 : DataW.trod enc Tryd.prog w base (fun _ => true) held n 9 [c1] = some y1 := by simpa [cells9] using hf 1 _ rfl
    have g2 : DataW.trod enc Tryd.prog w base (fun _ => true) held n 24 [c2, c3] = some y2 := by simpa [cellsRf] using hf 2 _ rfl
    have g3 : DataW.trod enc Tryd.prog w base (fun _ => true) held n 4 [c4] = some y3 := by simpa [cells4] using hf 3 _ rfl
    have hWE : (DataW.weightsEach Tryd.prog [9, 9, 24, 4] [y0.1, y1.1, y2.1, y3.1]).all (· ≤ reachBytes) = true := by
      rw [hx] at hW
      simp only [DataW.weights, Tryd.underlying46] at hW
      exact hW
    obtain ⟨s0, e0, hy0, _⟩ := DataW.trod_string Tryd.underlying9 g0
    obtain ⟨s1, e1, hy1, _⟩ := DataW.trod_string Tryd.underlying9 g1
    obtain ⟨r, e2, e3, hr⟩ := ref_open g2 (weight_each hWE (j := 2) rfl rfl)
    obtain ⟨z, e4, _⟩ := DataW.trod_bool Tryd.underlying4 g3
    injection e0 with e0 _
    injection e1 with e1 _
    injection e4 with e4 _
    subst e0
    subst e1
    subst e2
    subst e3
    subst e4
    exact ⟨⟨s0, s1, r, z⟩, rfl, str_le hy0 (weight_each hWE (j := 0) rfl rfl), str_le hy1 (weight_each hWE (j := 1) rfl rfl), hr⟩
set_option maxRecDepth 100000 in
theorem case_open {H : Type} {enc : TypeId × Value → H} {w : World} {base : Nat} {held : Bool} (fuel : Nat) (cs : List Value) (x : DataW H × List MemPlace) (h : DataW.trod enc Tryd.prog w base (fun _ => true) held fuel 48 cs = some x) (hW : (x.1.weights Tryd.prog 48).all (· ≤ reachBytes) = true) : ∃ f, Czi w f cs.toArray := by
  obtain ⟨xs, n, _, hx, hlen, hxl, hf⟩ := DataW.trod_struct Tryd.underlying48 h
  rw [cellsCz] at hlen
  match cs, hlen, xs, hxl with
  | [c0, c1], _, [y0, y1], _ =>
    have g0 : DataW.trod enc Tryd.prog w base (fun _ => true) held n 9 [c0] = some y0 := by simpa [cells9] using hf 0 _ rfl
    have g1 : DataW.trod enc Tryd.prog w base (fun _ => true) held n 9 [c1] = some y1 := by simpa [cells9] using hf 1 _ rfl
    have hWE : (DataW.weightsEach Tryd.prog [9, 9] [y0.1, y1.1]).all (· ≤ reachBytes) = true := by
      rw [hx] at hW
      simp only [DataW.weights, Tryd.underlying48] at hW
      exact hW
    obtain ⟨s0, e0, hy0, _⟩ := DataW.trod_string Tryd.underlying9 g0
    obtain ⟨s1, e1, hy1, _⟩ := DataW.trod_string Tryd.underlying9 g1
    injection e0 with e0 _
    injection e1 with e1 _
    subst e0
    subst e1
    exact ⟨⟨s0, s1⟩, rfl, str_le hy0 (weight_each hWE (j := 0) rfl rfl), str_le hy1 (weight_each hWE (j := 1) rfl rfl)⟩
theorem i64_wf {z : Int} (h : (Lit.int .i64 z).wf = true) : -9223372036854775808 ≤ z ∧ z ≤ 9223372036854775807 := by
  simp [Lit.wf, IntKind.min, IntKind.max, IntKind.bits, IntKind.signed] at h
  omega
set_option maxRecDepth 100000 in
/-- A type opened. -/
theorem type_open {H : Type} {enc : TypeId × Value → H} {w : World} {base : Nat} {held : Bool} (fuel : Nat) (cs : List Value) (x : DataW H × List MemPlace) (h : DataW.trod enc Tryd.prog w base (fun _ => true) held fuel 29 cs = some x) (hW : (x.1.weights Tryd.prog 29).all (· ≤ reachBytes) = true) : ∃ t, Tpi w t cs.toArray := by
  obtain ⟨xs, n, _, hx, hlen, hxl, hf⟩ := DataW.trod_struct Tryd.underlying29 h
  rw [cellsTp] at hlen
  match cs, hlen, xs, hxl with
  | [c0, c1, c2, c3, c4, c5, c6, c7, c8], _, [y0, y1, y2, y3, y4, y5, y6, y7], _ =>
    have g0 : DataW.trod enc Tryd.prog w base (fun _ => true) held n 9 [c0] = some y0 := by simpa [cells9] using hf 0 _ rfl
    have g1 : DataW.trod enc Tryd.prog w base (fun _ => true) held n 3 [c1] = some y1 := by simpa [cells3] using hf 1 _ rfl
    have g2 : DataW.trod enc Tryd.prog w base (fun _ => true) held n 2 [c2] = some y2 := by simpa [cells2] using hf 2 _ rfl
    have g3 : DataW.trod enc Tryd.prog w base (fun _ => true) held n 2 [c3] = some y3 := by simpa [cells2] using hf 3 _ rfl
    have g4 : DataW.trod enc Tryd.prog w base (fun _ => true) held n 24 [c4, c5] = some y4 := by simpa [cellsRf] using hf 4 _ rfl
    have g5 : DataW.trod enc Tryd.prog w base (fun _ => true) held n 25 [c6] = some y5 := by simpa [cellsFs] using hf 5 _ rfl
    have g6 : DataW.trod enc Tryd.prog w base (fun _ => true) held n 26 [c7] = some y6 := by simpa [cellsCs] using hf 6 _ rfl
    have g7 : DataW.trod enc Tryd.prog w base (fun _ => true) held n 27 [c8] = some y7 := by simpa [cellsWs] using hf 7 _ rfl
    have hWE : (DataW.weightsEach Tryd.prog [9, 3, 2, 2, 24, 25, 26, 27] [y0.1, y1.1, y2.1, y3.1, y4.1, y5.1, y6.1, y7.1]).all (· ≤ reachBytes) = true := by
      rw [hx] at hW
      simp only [DataW.weights, Tryd.underlying29] at hW
      exact hW
    obtain ⟨s0, e0, hy0, _⟩ := DataW.trod_string Tryd.underlying9 g0
    obtain ⟨n1, e1, _, w1⟩ := DataW.trod_int Tryd.underlying3 g1
    obtain ⟨n2, e2, _, w2⟩ := DataW.trod_int Tryd.underlying2 g2
    obtain ⟨n3, e3, _, w3⟩ := DataW.trod_int Tryd.underlying2 g3
    obtain ⟨r, e4, e5, hr⟩ := ref_open g4 (weight_each hWE (j := 4) rfl rfl)
    obtain ⟨fs, h5⟩ := gsl_open (P := Fdi) Tryd.underlying25 cellsFd (by rw [bytesFd]; decide) (by decide) (fun f c hc => by rw [hc.1]; rfl) field_open g5 (weight_each hWE (j := 5) rfl rfl)
    obtain ⟨cz, h6⟩ := gsl_open (P := Czi) Tryd.underlying26 cellsCz (by rw [bytesCz]; decide) (by decide) (fun f c hc => by rw [hc.1]; rfl) case_open g6 (weight_each hWE (j := 6) rfl rfl)
    obtain ⟨ws, h7⟩ := ssl_open g7 (weight_each hWE (j := 7) rfl rfl)
    injection e0 with e0 _
    injection e1 with e1 _
    injection e2 with e2 _
    injection e3 with e3 _
    subst e0
    subst e1
    subst e2
    subst e3
    subst e4
    subst e5
    exact ⟨⟨s0, n1, n2, n3, r, fs, cz, ws⟩, ⟨⟨c6, c7, c8, rfl, h5, h6, h7⟩, ⟨str_le hy0 (weight_each hWE (j := 0) rfl rfl), hr, i64_wf w1, i64_wf w2, i64_wf w3⟩⟩⟩
theorem types_open {H : Type} {enc : TypeId × Value → H} {w : World} {base fuel : Nat} {held : Bool} {v : Value} {x : DataW H × List MemPlace} (h : DataW.trod enc Tryd.prog w base (fun _ => true) held fuel 22 [v] = some x) (hW : (x.1.weights Tryd.prog 22).all (· ≤ reachBytes) = true) : ∃ l, TSl w v l :=
  gsl_open (P := Tpi) Tryd.underlying22 cellsTp (by rw [bytesTp]; decide) (by decide) (fun _ _ hc => hc.size9) type_open h hW
end
section
open Go.RowKit Go
theorem acc_eq : (Rows.laid_unicode_utf8_acceptRanges : DataW Unit) = Lib.acceptData := by kernel_rfl
theorem fst_eq : Rows.laid_unicode_utf8_first = Lib.firstData := by kernel_rfl
end
section
open Go.ChangeShapes Go.WideShapes Go.ChangeAt Go.RowKit Go Go.Lib
theorem biN : Tryd.prog.globalNamed "trellis/schema.builtIn" = some 0 := by kernel_rfl
theorem biT : (Tryd.prog.globals[0]?).map (·.type) = some 87 := by kernel_rfl
theorem biC : Tryd.prog.cellsOf 86 = 2 := by kernel_rfl
theorem biS : Tryd.prog.cellsOf 9 = 1 := by kernel_rfl
theorem biI : Tryd.prog.cellsOf 3 = 1 := by kernel_rfl
def biD : List (DataW Unit) := owns.map fun p => .agg [.lit (.string p.1.data.toList), .lit (.int .i64 (p.2 : Nat))]
theorem bi_eq : (Rows.laid_trellis_schema_builtIn : DataW Unit) = .agg biD := by kernel_rfl
theorem ocs_at : ∀ (i : Nat) (p : ByteArray × Nat), owns[i]? = some p → ocs[2 * i]? = some (.string p.1) ∧ ocs[2 * i + 1]? = some (.int .i64 (p.2 : Nat)) := fun i p h => by
  rcases i with _ | _ | _ | _ | _ | _ | _ | _ | _ | i
  all_goals first
    | (obtain rfl := Option.some.inj h; exact ⟨rfl, rfl⟩)
    | (simp [owns] at h)
theorem otb_of_reads {w : World} (h : VarReads Tryd.prog w "trellis/schema.builtIn" (.agg biD)) : Otb w := by
  obtain ⟨g, t, cs, fuel, p, hg, hty, hvar, hd⟩ := h
  obtain rfl := Option.some.inj (biN.symm.trans hg)
  obtain rfl := Option.some.inj (biT.symm.trans hty)
  have key : ∀ i q, owns[i]? = some q → w.cell? ⟨0, 2 * i, none⟩ = some (.string q.1) ∧ w.cell? ⟨0, 2 * i + 1, none⟩ = some (.int .i64 (q.2 : Nat)) := fun i q hq => by
    have hi : i < 9 := by have := (List.getElem?_eq_some_iff.1 hq).1; rw [owns_len] at this; exact this
    obtain ⟨fuel', d, r, hdi, he⟩ := array_elem Tryd.underlying87 hd i hi
    rw [biC] at he
    unfold biD at hdi
    rw [List.getElem?_map, hq] at hdi
    have hdi := (Option.some.inj hdi).symm
    subst hdi
    obtain ⟨y0, y1, n, hx, _, h0, h1⟩ := trod_struct2 Tryd.underlying86 he
    obtain ⟨s, e0, hy0, _⟩ := DataW.trod_string Tryd.underlying9 h0
    obtain ⟨z, e1, hy1, _⟩ := DataW.trod_int Tryd.underlying3 h1
    have hx1 := congrArg Prod.fst hx
    simp only [DataW.agg.injEq, List.cons.injEq, and_true] at hx1
    rw [hy0, hy1] at hx1
    have hs : q.1.data.toList = s.data.toList := by
      have := hx1.1
      simpa using this
    have hz : ((q.2 : Nat) : Int) = z := by
      have := hx1.2
      simpa using this
    have hs2 : s = q.1 := by
      obtain ⟨⟨l⟩⟩ := s
      obtain ⟨⟨⟨m⟩⟩, _⟩ := q
      simp only at hs
      rw [hs]
    subst hs2
    subst hz
    rw [World.var?_cell hg hvar (2 * i), World.var?_cell hg hvar (2 * i + 1), ← Array.getElem?_toList, ← Array.getElem?_toList]
    have c0 := congrArg (·[0]?) e0
    have c1 := congrArg (·[0]?) e1
    simp only [biS, biI, List.getElem?_take, List.getElem?_drop] at c0 c1
    exact ⟨by simpa [Nat.mul_comm] using c0, by simpa [Nat.mul_comm] using c1⟩
  refine ⟨fun j u hj => ?_⟩
  rw [Nat.zero_add]
  have hj18 : j < 18 := (Array.getElem?_eq_some_iff.1 hj).1
  obtain ⟨q, hq⟩ : ∃ q, owns[j / 2]? = some q := ⟨owns[j / 2]'(by rw [owns_len]; omega), List.getElem?_eq_getElem _⟩
  obtain ⟨a1, a2⟩ := key _ _ hq
  obtain ⟨b1, b2⟩ := ocs_at _ _ hq
  rcases Nat.mod_two_eq_zero_or_one j with hm | hm
  · have e : 2 * (j / 2) = j := by omega
    rw [e] at a1 b1
    rw [a1, ← hj, b1]
  · have e : 2 * (j / 2) + 1 = j := by omega
    rw [e] at a2 b2
    rw [a2, ← hj, b2]
theorem tabs11_of_laid {W : World} (h : laidMet Tryd.prog [("unicode/utf8.acceptRanges", Rows.laid_unicode_utf8_acceptRanges), ("trellis/schema.builtIn", Rows.laid_trellis_schema_builtIn), ("unicode/utf8.first", Rows.laid_unicode_utf8_first)] W) : Tabs W ∧ Otb W := by
  rw [acc_eq, fst_eq, bi_eq] at h
  exact ⟨utf8Tabs_of_readsT (U8Types.of196 Tryd.laysValid) ⟨by kernel_rfl, by kernel_rfl, by kernel_rfl, by kernel_rfl, by kernel_rfl, by kernel_rfl, by kernel_rfl⟩ (Lib.laidMet.reads h (.tail _ (.tail _ (.head _)))) (Lib.laidMet.reads h (.head _)), otb_of_reads (Lib.laidMet.reads h (.tail _ (.head _)))⟩
/-- The settled world, the three tables laid. -/
noncomputable def laidWorld11 (os : Os) : World :=
  let w0 := World.holding Tryd.prog os ⟨#[], #[], []⟩
  let put (h : Array Obj) (g : Nat) (cs : Array Value) : Array Obj := h.modify g fun
    | .cells _ t frozen => .cells cs t frozen
    | o => o
  let h1 := put w0.heap 1 (Lib.firstTab.map fun z => Value.int .u8 z).toArray
  let h2 := put h1 2 ((List.range 16).flatMap fun i => [Value.int .u8 (Lib.accLo i), Value.int .u8 (Lib.accHi i)]).toArray
  let h3 := put h2 0 ocs
  { w0 with heap := h3 }
theorem laid_met11 (os : Os) (args : Array Value) : laidMet Tryd.prog [("unicode/utf8.acceptRanges", Rows.laid_unicode_utf8_acceptRanges), ("trellis/schema.builtIn", Rows.laid_trellis_schema_builtIn), ("unicode/utf8.first", Rows.laid_unicode_utf8_first)] ((laidWorld11 os).forCall (fun _ _ => 0) ⟨#[], args, []⟩).memory := by
  rw [acc_eq, fst_eq]
  exact (LaidIn.of_run (l := [("unicode/utf8.acceptRanges", Lib.acceptData), ("trellis/schema.builtIn", Rows.laid_trellis_schema_builtIn), ("unicode/utf8.first", Lib.firstData)]) [2, 0, 1] 8 (by kernel_rfl) (by kernel_rfl) (by kernel_rfl) (by kernel_rfl)).met
end
end Go.Proofs.YtnpjmanagecpkaaDoor

import Derived.Test.YtfjdpooaipehmaaRs
import Derived.Test.YtfjdpooaipehmaaLnt
import Derived.Test.YtfjdpooaipehmaaNew
import Derived.Test.YtfjdpooaipehmaaQx
namespace Go.Proofs.Ytfjdpooaipehmaa
open Go.RowKit

set_option maxRecDepth 1000000 in
set_option maxHeartbeats 40000000 in
theorem exact_any (an ab : Option Addr) (ln cn lb cb : Nat) (ms : Nat → Int) (ns : Nat → Nat) (w : World) (hln : ln ≤ 1048576) (hlb : lb ≤ 1048576)
    (hcN : ∀ j, j < ln → ∃ bn on, an = some ⟨bn, on, none⟩ ∧ w.cell? ⟨bn, on + j * 2, none⟩ = some (.int .i64 (ms j)) ∧ w.cell? ⟨bn, on + j * 2 + 1, none⟩ = some (.int .u64 ((ns j : Nat) : Int)))
    (hr : ∀ j, j < ln → -9223372036854775808 ≤ ms j ∧ ms j ≤ 9223372036854775807 ∧ ns j < 18446744073709551616)
    (hcB : ∀ j, j < lb → ∃ bn on, ab = some ⟨bn, on, none⟩ ∧ ∃ v xs, w.cell? ⟨bn, on + j, none⟩ = some v ∧ BSl w v xs ∧ xs.length ≤ 1048576) :
    Calls Try.prog 3 #[.agg #[.slice an ln cn, .slice ab lb cb]] w fun e w' => e = .returned (.bool true) ∧ Below w.heap.size w w' := by
  have HCN := hide hcN
  have HRG := hide hr
  have HCB := hide hcB
  clear hcN hr hcB
  go_enter Try.func3, Try.ntmps3
  go_wp2_with (refine wpList_buildBook rfl rfl ?_)
  have hnew := hs_new (w.alloc (.cells #[.slice an ln cn, .slice ab lb cb] 25))
  have hs1 : (w.alloc (.cells #[.slice an ln cn, .slice ab lb cb] 25)).heap.size = w.heap.size + 1 := by simp
  rw [hs1] at hnew
  have hkp3 : Kp (fun _ => False) w (((w.alloc (.cells #[.slice an ln cn, .slice ab lb cb] 25)).alloc (.cells (bookCells (.slice none 0 0) (.slice none 0 0) 0 0 0 0) 46)).alloc (.cells #[.slice none 0 0, .slice none 0 0] 49)) := (((Kp.refl _ w).alloc _).alloc _).alloc _
  have hc0 : (((w.alloc (.cells #[.slice an ln cn, .slice ab lb cb] 25)).alloc (.cells (bookCells (.slice none 0 0) (.slice none 0 0) 0 0 0 0) 46)).alloc (.cells #[.slice none 0 0, .slice none 0 0] 49)).cell? ⟨w.heap.size, 0, none⟩ = some (.slice an ln cn) := blk_cell (blk_alloc _ (blk_alloc _ (heap_alloc_new w _))) rfl
  have hc1 : (((w.alloc (.cells #[.slice an ln cn, .slice ab lb cb] 25)).alloc (.cells (bookCells (.slice none 0 0) (.slice none 0 0) 0 0 0 0) 46)).alloc (.cells #[.slice none 0 0, .slice none 0 0] 49)).cell? ⟨w.heap.size, 1, none⟩ = some (.slice ab lb cb) := blk_cell (blk_alloc _ (blk_alloc _ (heap_alloc_new w _))) rfl
  have hs3 : (((w.alloc (.cells #[.slice an ln cn, .slice ab lb cb] 25)).alloc (.cells (bookCells (.slice none 0 0) (.slice none 0 0) 0 0 0 0) 46)).alloc (.cells #[.slice none 0 0, .slice none 0 0] 49)).heap.size = w.heap.size + 1 + 2 := by simp
  generalize ((w.alloc (.cells #[.slice an ln cn, .slice ab lb cb] 25)).alloc (.cells (bookCells (.slice none 0 0) (.slice none 0 0) 0 0 0 0) 46)).alloc (.cells #[.slice none 0 0, .slice none 0 0] 49) = W3 at *
  generalize hA : w.heap.size = A at *
  have HA := hide hA
  have HN := hide hnew
  have HK3 := hide hkp3
  have HC0 := hide hc0
  have HC1 := hide hc1
  have HS3 := hide hs3
  -- what lies ahead of the book is not touched
  have HOLD : Hid (∀ wr, Kp (fun q => A + 1 ≤ q) W3 wr → ∀ p v, w.cell? p = some v → wr.cell? p = some v) := fun wr hk p v hc => hk.cell (HK3.out.cell hc (fun h => h)) (by have := World.block_lt_of_cell? w p hc; rw [hA] at this; omega)
  have HOLB : Hid (∀ wr, Kp (fun q => A + 1 ≤ q) W3 wr → ∀ v xs, BSl w v xs → BSl wr v xs) := fun wr hk v xs hb => hb.move (HOLD.out wr hk)
  clear hA hnew hkp3 hc0 hc1 hs3 hs1
  go_loopw [5] (fun i wr => ∃ k t c : Nat, k ≤ ln ∧ i = .int .i64 k ∧ t + c ≤ 2 * k ∧ Hs wr (A + 1) (fun q => wr.heap.size ≤ q) (A + 1) (A + 1 + 1) t c ∧ Kp (fun q => A + 1 ≤ q) W3 wr) (fun i _ => ln - (intOf i).toNat)
  case atStart => exact ⟨0, 0, 0, Nat.zero_le _, rfl, Nat.le_refl _, HN.out.mono (fun q _ _ h => by have := HS3.out; omega), Kp.refl _ _⟩
  case round =>
    obtain ⟨k, t, c, hk, rfl, htc, hhs, hkp⟩ := hrel
    have HTC := hide htc
    have HHS := hide hhs
    have HKP := hide hkp
    have c0 : wr.cell? ⟨A, 0, none⟩ = some (.slice an ln cn) := hkp.cell HC0.out (by simp)
    have c1 : wr.cell? ⟨A, 1, none⟩ = some (.slice ab lb cb) := hkp.cell HC1.out (by simp)
    have HSB : Hid (A + 1 + 2 ≤ wr.heap.size) := by have := hkp.size; have := HS3.out; show _ ≤ _; omega
    clear htc hhs hkp HN
    by_cases hlt : k < ln
    · have hlt' : (k : Int) < (ln : Int) := by omega
      obtain ⟨bn, on, hban, hcz, hcw⟩ := HCN.out k hlt
      obtain ⟨hm0, hm1, hn⟩ := HRG.out k hlt
      have cz : wr.cell? ⟨bn, on + k * 2, none⟩ = some (.int .i64 (ms k)) := HOLD.out wr HKP.out _ _ hcz
      have cy : wr.cell? ⟨bn, on + k * 2 + 1, none⟩ = some (.int .u64 ((ns k : Nat) : Int)) := HOLD.out wr HKP.out _ _ hcw
      subst hban
      have HLY := hide (fun W => lay_any (ms k) (ns k) W ⟨hm0, hm1⟩ hn)
      have HRL := hide (fun W => refLay_any (ms k) (ns k) W ⟨hm0, hm1⟩ hn)
      have HLN := hide (fun W => size_any (ns k) W hn)
      have HRS := hide (fun W => refSize_any (ns k) W hn)
      have HDL := hide (hlay_len (ms k) (ns k))
      have HDB := hide (hlay_byte (ms k) (ns k))
      generalize hlay (ms k) (ns k) = D at *
      generalize hsize (ns k) = Z at *
      generalize ms k = M at *
      generalize ns k = n at *
      clear hcz hcw c1 hm0 hm1 hn
      go_wp2_with fail
      have HHA : Hid (Hs (wr.alloc (.cells #[.int .i64 M, .int .u64 ((n : Nat) : Int)] 52)) (A + 1) (fun q => (wr.alloc (.cells #[.int .i64 M, .int .u64 ((n : Nat) : Int)] 52)).heap.size ≤ q) (A + 1) (A + 1 + 1) t c) :=
        (HHS.out.kp ((Kp.refl (fun _ => False) wr).alloc _) (fun _ _ _ _ h => h)).mono (fun q _ _ h => by simp at h; omega)
      have HKA : Hid (Kp (fun q => A + 1 ≤ q) W3 (wr.alloc (.cells #[.int .i64 M, .int .u64 ((n : Nat) : Int)] 52))) := HKP.out.alloc _
      have p0 : (wr.alloc (.cells #[.int .i64 M, .int .u64 ((n : Nat) : Int)] 52)).cell? ⟨wr.heap.size, 0, none⟩ = some (.int .i64 M) := blk_cell (heap_alloc_new wr _) rfl
      have p1 : (wr.alloc (.cells #[.int .i64 M, .int .u64 ((n : Nat) : Int)] 52)).cell? ⟨wr.heap.size, 1, none⟩ = some (.int .u64 ((n : Nat) : Int)) := blk_cell (heap_alloc_new wr _) rfl
      have HSA : Hid (A + 1 + 2 ≤ (wr.alloc (.cells #[.int .i64 M, .int .u64 ((n : Nat) : Int)] 52)).heap.size) := by have := HSB.out; show _ ≤ _; simp; omega
      clear HHS HKP HSB c0 cz cy
      generalize wr.alloc (.cells #[.int .i64 M, .int .u64 ((n : Nat) : Int)] 52) = wa at *
      generalize wr.heap.size = P at *
      clear wr
      rename World => wr
      have HHS := HHA
      have HKP := HKA
      have HSB := HSA
      clear HHA HKA HSA
      refine (HLY.out _).mono ?_
      rintro e w1 ⟨vx, rfl, ho1, hb1⟩
      have p01 := keep_below hb1 _ _ p0
      have p11 := keep_below hb1 _ _ p1
      have HO1 := hide ho1
      have HB1 := hide hb1
      clear ho1 hb1 p0 p1
      go_wp2_with fail
      refine (HLY.out _).mono ?_
      rintro e w2 ⟨vy, rfl, ho2, hb2⟩
      have p02 := keep_below hb2 _ _ p01
      have p12 := keep_below hb2 _ _ p11
      have HO2 := hide ho2
      have HB2 := hide hb2
      clear ho2 hb2 p01 p11
      go_wp2_with fail
      refine (HRL.out _).mono ?_
      rintro e w3 ⟨vw, rfl, ho3, hb3⟩
      have p03 := keep_below hb3 _ _ p02
      have p13 := keep_below hb3 _ _ p12
      have HO3 := hide ho3
      have HB3 := hide hb3
      clear ho3 hb3 p02 p12
      have p0t : ∀ t : Ext w3, _ := fun t => Ext.cell p03 t
      have p1t : ∀ t : Ext w3, _ := fun t => Ext.cell p13 t
      -- the three answers, in the world behind them
      have HX3 : Hid (w3.ownsRow wr.heap.size 5 1 vx D.length (bv D)) := own_below (B := 0) (own_below (B := 0) HO1.out HB2.out rfl) HB3.out rfl
      have HY3 : Hid (w3.ownsRow w1.heap.size 5 1 vy D.length (bv D)) := own_below (B := 0) HO2.out HB3.out rfl
      have hcx : ∀ t : Ext w3, _ := fun t => (Ext.bsl (BSl.own HX3.out HDB.out) t).text
      have hcy : ∀ t : Ext w3, _ := fun t => (Ext.bsl (BSl.own HY3.out HDB.out) t).text
      have hcw : ∀ t : Ext w3, _ := fun t => (Ext.bsl (BSl.own HO3.out HDB.out) t).text
      obtain ⟨aw, cw, hvw, hq1, hq2, hq3⟩ := own_form HO3.out
      subst hvw
      have HZ : Hid (wr.heap.size ≤ w1.heap.size ∧ w1.heap.size ≤ w2.heap.size ∧ w2.heap.size ≤ w3.heap.size) := ⟨HB1.out.size, HB2.out.size, HB3.out.size⟩
      have HK03 : Hid (Kp (fun _ => False) wr w3) := ((Kp.of_below HB1.out).trans (Kp.of_below (S := fun _ => False) HB2.out) (fun _ _ h => h)).trans (Kp.of_below (S := fun _ => False) HB3.out) (fun _ _ h => h)
      have HH3 := hide (HHS.out.kp HK03.out (fun _ _ _ _ h => h))
      have HKW : Hid (Kp (fun q => A + 1 ≤ q) W3 w3) := HKP.out.trans HK03.out (fun _ _ h => h.elim)
      have HBW := hide (BSl.own HO3.out HDB.out)
      have hxlt : ∀ q, vx.ownBlock = some q → wr.heap.size ≤ q ∧ q < w1.heap.size := fun q hq => ⟨(HX3.out.lt q hq).1, (HO1.out.lt q hq).2⟩
      have hylt : ∀ q, vy.ownBlock = some q → w1.heap.size ≤ q ∧ q < w2.heap.size := fun q hq => ⟨(HY3.out.lt q hq).1, (HO2.out.lt q hq).2⟩
      have hwlt : ∀ q, (Value.slice aw D.length cw).ownBlock = some q → w2.heap.size ≤ q ∧ q < w3.heap.size := fun q hq => HO3.out.lt q hq
      have HXL := hide hxlt
      have HYL := hide hylt
      have HWL := hide hwlt
      have HXB := hide (own_mono HX3.out (by have := HSB.out; omega : A + 1 ≤ wr.heap.size))
      have HYB := hide (own_mono HY3.out (by have := HSB.out; have := HZ.out; omega : A + 1 ≤ w1.heap.size))
      clear hxlt hylt hwlt HX3 HY3 HO1 HO2 HO3 HB1 HB2 HB3 HLY HRL HHS HK03 HKP
      generalize nstr D = S at hcx hcy hcw
      clear hq1 hq2 hq3
      go_wp2_with fail
      go_cut [64] (fun c wx => c = .bool false ∧ Hid (Below w3.heap.size w3 wx))
      case first => as_aux_lemma =>
        refine region_ext (by kernel_rfl) (by kernel_rfl) ?_
        repeat (
          refine wpQuiet_step (fun K hK => ?_)
          go_simp
          first
            | (refine hK _ ?_; clear hK K)
            | (apply Exists.intro
               refine ⟨fun _ => ?_, hK _ ?_⟩
               (first
                 | (go_at_call 8; exact Calls.ext_same (HLN.out _))
                 | (go_at_call 9; exact Calls.ext_below (HRS.out _)))
               clear hK K))
        refine wpQuiet_nil ?_
        rintro _ ⟨tq, rfl⟩
        go_wp2_with fail
        go_meet
        case rel => exact ⟨rfl, tq.h⟩
      case rest => as_aux_lemma =>
      obtain ⟨rfl, hbc⟩ := hcut
      have HKC : Hid (Kp (fun _ => False) w3 wc) := Kp.of_below hbc.out
      have HH3c := hide (HH3.out.kp HKC.out (fun _ _ _ _ h => h))
      have HKWc : Hid (Kp (fun q => A + 1 ≤ q) W3 wc) := HKW.out.trans HKC.out (fun _ _ h => h.elim)
      have HXBc := hide (HKC.out.owns HXB.out (fun _ _ h => h))
      have HYBc := hide (HKC.out.owns HYB.out (fun _ _ h => h))
      have HBWc := hide (HKC.out.bsl HBW.out (fun _ _ h => h))
      have HZc : Hid (wr.heap.size ≤ w1.heap.size ∧ w1.heap.size ≤ w2.heap.size ∧ w2.heap.size ≤ w3.heap.size ∧ w3.heap.size ≤ wc.heap.size) := ⟨HZ.out.1, HZ.out.2.1, HZ.out.2.2, HKC.out.size⟩
      have HWLc : Hid (∀ q, (Value.slice aw D.length cw).ownBlock = some q → w2.heap.size ≤ q ∧ q < wc.heap.size) := fun q hq => ⟨(HWL.out q hq).1, Nat.lt_of_lt_of_le (HWL.out q hq).2 HKC.out.size⟩
      clear HH3 HKW HXB HYB HBW HWL HZ hbc HKC hcx hcy hcw p03 p13 p0t p1t
      have HH3 := HH3c
      have HKW := HKWc
      have HXB := HXBc
      have HYB := HYBc
      have HBW := HBWc
      have HZ := HZc
      have HWL := HWLc
      clear HH3c HKWc HXBc HYBc HBWc HZc HWLc
      go_wp2_with fail
      refine (add_any HH3.out (by have := HSB.out; have := HZ.out; omega) vx _ D HXB.out HDB.out (by have := HDL.out; omega) (fun q hq => (HXL.out q hq).1) HBW.out (fun q hq => by have := HWL.out q hq; have := HZ.out; omega) (by have := HTC.out; omega)).mono ?_
      rintro e w5 ⟨rfl, hpost⟩
      have HH5 := hide hpost.out.1
      have HK5 := hide hpost.out.2
      have HYB5 : Hid (w5.ownsRow (A + 1) 5 1 vy D.length (bv D)) := HK5.out.owns HYB.out (fun q hq hor => hor.2 (by have := HYL.out q hq; have := HZ.out; omega))
      have HBW5 : Hid (BSl w5 (Value.slice aw D.length cw) D) := HK5.out.bsl HBW.out (fun q hq hor => hor.2 (by have := HWL.out q hq; have := HZ.out; omega))
      have HKW5 : Hid (Kp (fun q => A + 1 ≤ q) W3 w5) := HKW.out.trans HK5.out (fun _ _ h => h.1)
      have HZ5 := hide HK5.out.size
      clear hpost HYB HBW HKW HK5 HH3
      go_wp2_with fail
      refine (add_any HH5.out (by have := HSB.out; have := HZ.out; have := HZ5.out; omega) vy _ D HYB5.out HDB.out (by have := HDL.out; omega) (fun q hq => ⟨by have := HYL.out q hq; have := HZ.out; omega, fun hq' => by have := HXL.out q hq'; have := HYL.out q hq; omega, by have := HYL.out q hq; have := HZ.out; omega⟩) HBW5.out (fun q hq => ⟨by have := HWL.out q hq; have := HZ.out; omega, fun hq' => by have := HXL.out q hq'; have := HWL.out q hq; have := HZ.out; omega, (HWL.out q hq).2⟩) (by have := HTC.out; omega)).mono ?_
      rintro e w6 ⟨rfl, hpost⟩
      have HH6 := hide hpost.out.1
      have HKW6 : Hid (Kp (fun q => A + 1 ≤ q) W3 w6) := HKW5.out.trans hpost.out.2 (fun _ _ h => h.1)
      have HZ6 := hide hpost.out.2.size
      clear hpost HYB5 HBW5 HKW5 HH5
      by_cases h2000 : k < 2000
      · have h2000' : (k : Int) < 2000 := by omega
        go_wp2_with fail
        refine (settle_any HH6.out (by have := HSB.out; have := HZ.out; have := HZ5.out; have := HZ6.out; omega) 8 (by have := HTC.out; omega)).mono ?_
        rintro e w7 ⟨rfl, hpost⟩
        obtain ⟨t', c', htc', hhs', hkp'⟩ := hpost.out
        have HH7 := hide hhs'
        have HT7 := hide htc'
        have HKW7 : Hid (Kp (fun q => A + 1 ≤ q) W3 w7) := HKW6.out.trans hkp' (fun _ _ h => h.1)
        clear hpost htc' hhs' hkp' HH6 HKW6
        go_wp2
        go_roundw
        case rel => exact ⟨k + 1, t', c', by omega, by go_num, by have := HT7.out; have := HTC.out; omega, HH7.out.mono (fun q _ h1 h2 => by omega), HKW7.out⟩
        case measure => simp [intOf]; omega
      · have h2000' : ¬ (k : Int) < 2000 := by omega
        go_wp2
        go_roundw
        case rel => exact ⟨k + 1, t, c + 1 + 1, by omega, by go_num, by have := HTC.out; omega, HH6.out.mono (fun q _ h1 h2 => by omega), HKW6.out⟩
        case measure => simp [intOf]; omega
    · have hlt' : ¬ (k : Int) < (ln : Int) := by omega
      go_wp2
      clear c0 c1
      go_loopw [10] (fun i wr => ∃ k t c : Nat, k ≤ lb ∧ i = .int .i64 k ∧ t + c ≤ 2 * ln ∧ Hs wr (A + 1) (fun q => wr.heap.size ≤ q) (A + 1) (A + 1 + 1) t c ∧ Kp (fun q => A + 1 ≤ q) W3 wr) (fun i _ => lb - (intOf i).toNat)
      case atStart => exact ⟨0, t, c, Nat.zero_le _, rfl, by have := HTC.out; omega, HHS.out, HKP.out⟩
      case round =>
        clear HTC HHS HKP HSB hk hlt hlt'
        obtain ⟨k2, t2, c2, hk2, rfl, htc2, hhs2, hkp2⟩ := hrel
        have HTC := hide htc2
        have HHS := hide hhs2
        have HKP := hide hkp2
        have c1 : wr.cell? ⟨A, 1, none⟩ = some (.slice ab lb cb) := hkp2.cell HC1.out (by simp)
        have HSB : Hid (A + 1 + 2 ≤ wr.heap.size) := by have := hkp2.size; have := HS3.out; show _ ≤ _; omega
        clear htc2 hhs2 hkp2
        by_cases hlt2 : k2 < lb
        · have hlt2' : (k2 : Int) < (lb : Int) := by omega
          obtain ⟨bn, on, hban, v, xs, hcv, hbv, hxl⟩ := HCB.out k2 hlt2
          have cv : wr.cell? ⟨bn, on + k2, none⟩ = some v := HOLD.out wr HKP.out _ _ hcv
          have HBV := hide (HOLB.out wr HKP.out v xs hbv)
          have HXL : Hid (xs.length ≤ 140737488351232) := by show _ ≤ _; omega
          subst hban
          clear hcv hbv hxl
          go_wp2_with fail
          refine (lend_any _ v xs HBV.out HXL.out).mono ?_
          rintro e w1 ⟨g, cap, rfl, hown, hbel⟩
          have hlnt : Lnt w1 wr.heap.size g cap xs := ⟨hown, HBV.out.byte, HXL.out⟩
          have hg : wr.heap.size ≤ g ∧ g < w1.heap.size := hown.lt g rfl
          have HG := hide hg
          have HBE := hide hbel
          have HL1 := hide hlnt
          have HK1 : Hid (Kp (fun q => q = g) w1 w1) := Kp.refl _ _
          have c11 := keep_below hbel _ _ c1
          have cv1 := keep_below hbel _ _ cv
          have HV1 := hide (HBV.out.move (keep_below hbel))
          clear hlnt hg hbel hown c1 cv
          go_wp2_with fail
          refine (reads_any _ _ _ xs HL1.out.bsl HV1.out).mono ?_
          rintro e w2 ⟨rfl, hb2⟩
          have HK2 : Hid (Kp (fun q => q = g) w1 w2) := Kp.of_below hb2
          have HL2 := hide (HL1.out.kp (Kp.of_below (S := fun _ => False) hb2) (fun h => h))
          have c12 := keep_below hb2 _ _ c11
          have cv2 := keep_below hb2 _ _ cv1
          have HV2 := hide (HV1.out.move (keep_below hb2))
          clear hb2 c11 cv1 HK1 HL1 HV1
          go_wp2_with fail
          refine (reads_any _ _ _ xs HL2.out.bsl HV2.out).mono ?_
          rintro e w3 ⟨rfl, hb3⟩
          have HK3' : Hid (Kp (fun q => q = g) w1 w3) := HK2.out.trans (Kp.of_below (S := fun _ => False) hb3) (fun _ _ h => h.elim)
          have HL3 := hide (HL2.out.kp (Kp.of_below (S := fun _ => False) hb3) (fun h => h))
          have c13 := keep_below hb3 _ _ c12
          have cv3 := keep_below hb3 _ _ cv2
          have HV3 := hide (HV2.out.move (keep_below hb3))
          clear hb3 c12 cv2 HK2 HL2 HV2
          go_wp2_with fail
          refine (intact_any HL3.out _ HV3.out).mono ?_
          rintro e w4 ⟨rfl, hk4⟩
          have HK4 : Hid (Kp (fun q => q = g) w1 w4) := HK3'.out.trans hk4 (fun _ _ h => h.elim)
          have HL4 := hide (HL3.out.kp hk4 (fun h => h))
          have c14 := hk4.cell c13 (by simp)
          have cv4 := hk4.cell cv3 (by simp)
          have HV4 := hide (HV3.out.move (fun p u h => hk4.cell h (fun h => h)))
          clear hk4 c13 cv3 HK3' HL3 HV3
          go_wp2_with fail
          refine (other_any _ _ xs HV4.out HXL.out).mono ?_
          rintro e w5 ⟨v5, rfl, hpost⟩
          obtain ⟨ys, ho5, hyb, hyl, hb5⟩ := hpost.out
          have HK5 : Hid (Kp (fun q => q = g) w1 w5) := HK4.out.trans (Kp.of_below (S := fun _ => False) hb5) (fun _ _ h => h.elim)
          have HL5 := hide (HL4.out.kp (Kp.of_below (S := fun _ => False) hb5) (fun h => h))
          have HY5 := hide (BSl.own ho5 hyb)
          have HO5 := hide ho5
          have HYL := hide hyl
          have HNE : Hid (v5.ownBlock ≠ some g) := fun h => by have := (ho5.lt g h).1; have := HK4.out.size; have := HG.out.2; omega
          clear hpost ho5 hyb hyl hb5 HK4 HL4 c14 cv4
          go_wp2_with fail
          refine (into_any HL5.out v5 HY5.out HYL.out HNE.out).mono ?_
          rintro e w6 ⟨rfl, hl6, hk6⟩
          have HK6 : Hid (Kp (fun q => q = g) w1 w6) := HK5.out.trans hk6 (fun _ _ h => h)
          have HL6 := hide hl6
          have HY6 := hide (hk6.bsl HY5.out (fun q hq e => HNE.out (by rw [hq, e])))
          clear hl6 hk6 HK5 HL5 HY5 HO5
          have hyx : xs.length = ys.length := HYL.out.symm
          rw [hyx]
          have HYX := hide hyx
          clear hyx
          go_wp2_with fail
          refine (reads_any _ _ _ ys HL6.out.bsl HY6.out).mono ?_
          rintro e w7 ⟨rfl, hb7⟩
          have HK7 : Hid (Kp (fun q => q = g) w1 w7) := HK6.out.trans (Kp.of_below (S := fun _ => False) hb7) (fun _ _ h => h.elim)
          have HL7 := hide (HL6.out.kp (Kp.of_below (S := fun _ => False) hb7) (fun h => h))
          have HY7 := hide (HY6.out.move (keep_below hb7))
          clear hb7 HK6 HL6 HY6
          go_wp2_with fail
          refine (intact_any HL7.out _ HY7.out).mono ?_
          rintro e w8 ⟨rfl, hk8⟩
          have HK8 : Hid (Kp (fun q => q = g) w1 w8) := HK7.out.trans hk8 (fun _ _ h => h.elim)
          clear hk8 HK7 HL7 HY7
          go_wp2
          go_roundw
          case rel =>
            have hkr : Kp (fun q => q = g) wr w8 := (Kp.of_below HBE.out).trans HK8.out (fun _ _ h => h)
            refine ⟨k2 + 1, t2, c2, by omega, by go_num, HTC.out, (HHS.out.kp hkr (fun q _ _ hx e => hx (by rw [e]; exact HG.out.1))).mono (fun q _ h1 h2 => by omega), HKP.out.trans hkr (fun q _ e => by rw [e]; have := HG.out; have := HSB.out; omega)⟩
          case measure => simp [intOf]; omega
        · have hlt2' : ¬ (k2 : Int) < (lb : Int) := by omega
          go_wp2_with fail
          refine (lays_any _).mono ?_
          rintro e w3 ⟨rfl, hb3⟩
          have HH3 := hide (HHS.out.kp (Kp.of_below (S := fun _ => False) hb3) (fun _ _ _ _ h => h))
          have HK4 : Hid (Kp (fun q => A + 1 ≤ q) W3 w3) := HKP.out.trans (Kp.of_below (S := fun _ => False) hb3) (fun _ _ h => h.elim)
          have HS4 : Hid (A + 1 ≤ w3.heap.size) := by have := hb3.size; have := HSB.out; show _ ≤ _; omega
          clear hb3 c1
          go_wp2_with fail
          refine (settle_any HH3.out HS4.out 0 (by have := HTC.out; omega)).mono ?_
          rintro e w4 ⟨rfl, hpost⟩
          obtain ⟨t4, c4, ht4, hhs4, hkp4⟩ := hpost.out
          obtain ⟨F, G, hbk4, hlt4, hd4, hx4⟩ := hhs4
          have HBK := hide hbk4
          have HXX := hide hx4
          have HK5 : Hid (Kp (fun q => A + 1 ≤ q) W3 w4) := HK4.out.trans hkp4 (fun _ _ h => h.1)
          have HS5 : Hid (A + 1 ≤ w4.heap.size) := Nat.le_trans HS4.out hkp4.size
          clear hpost hbk4 hlt4 hd4 hx4 hkp4 ht4 HK4 HH3
          go_wp2_with fail
          refine (look_any HBK.out HS5.out).mono ?_
          rintro e w5 ⟨rfl, hpost⟩
          have HK6 : Hid (Kp (fun q => A + 1 ≤ q) W3 w5) := HK5.out.trans hpost.out.2 (fun q _ hf => (HXX.out q (.inl hf)).1)
          clear hpost
          go_wp2
          go_ret
          have hfin : Kp (fun q => A + 1 ≤ q) w w5 := (HK3.out.mono (fun _ _ h => h.elim)).trans HK6.out (fun _ _ h => h)
          refine ⟨rfl, ?_⟩
          rw [HA.out]
          exact hfin.below (by rw [HA.out]; exact Nat.le_refl _) (fun q h => by omega)
end Go.Proofs.Ytfjdpooaipehmaa

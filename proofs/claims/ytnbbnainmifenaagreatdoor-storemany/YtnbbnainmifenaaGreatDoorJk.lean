import Derived.Test.YtnbbnainmifenaaGreatDoorJd
import Derived.Test.YtnbbnainmifenaaGreatDoorJc
import Derived.Test.YtnbbnainmifenaaGreatDoorJj
import Derived.Test.YtnbbnainmifenaaGreatDoorJf
import Derived.Test.YtnbbnainmifenaaGreatDoorJb
import Derived.LaidLaws
import Derived.Handed
import Derived.Lib.LaidTab
namespace Go.Proofs.YtnbbnainmifenaaGreatDoor
section
open Go.RowKit Go
set_option maxRecDepth 1000000 in
set_option maxHeartbeats 1000000 in
theorem holds4_any (w : World) (l : Lk) (vb : Value) (b : List Nat) (hcb : Cb w) (hl : Lkb l) (hb : BSl w vb b) (hbl : b.length ≤ 140737488351232) :
    Calls Tryz.prog 24 #[lkv l, vb] w fun e w' => e = .returned (.bool (decide (lok l) && dholds l.h l.d b)) ∧ Below w.heap.size w w' := by
  have HB := hide hb
  have HBL := hide hbl
  have HL := hide hl
  have HCB := hide hcb
  obtain ⟨⟨a, cap, rfl, hn, hc⟩, hmax, hby⟩ := hb
  have HT : Hid ((w.alloc (.cells #[.int .i64 l.v, .int .u64 (l.c : Nat), .int .u64 (l.h : Nat), .string (nstr l.d)] 38)).heap[w.heap.size]? = some (.cells (lcs l) 38 (0, 0))) := heap_alloc_new w _
  have HB0 := hide (below_alloc4 w (.cells #[.int .i64 l.v, .int .u64 (l.c : Nat), .int .u64 (l.h : Nat), .string (nstr l.d)] 38))
  clear hn hc hby hbl hcb hl
  simp only [lkv]
  go_enter Tryz.func24, Tryz.ntmps24
  go_wp2_with fail
  generalize w.alloc (.cells #[.int .i64 l.v, .int .u64 (l.c : Nat), .int .u64 (l.h : Nat), .string (nstr l.d)] 38) = w0 at *
  refine (check_any w0 l HL.out).mono ?_
  rintro e w1 ⟨rfl, hb1⟩
  have q0 : w1.heap[w.heap.size]? = some (.cells (lcs l) 38 (0, 0)) := (hb1.block _ (blk_lt HT.out)).trans HT.out
  have HB1 : Hid (Below w.heap.size w w1) := HB0.out.trans (hb1.mono HB0.out.size)
  have c2 : w1.cell? ⟨w.heap.size, 2, none⟩ = some (.int .u64 (l.h : Nat)) := blk_cell q0 rfl
  have c3 : w1.cell? ⟨w.heap.size, 3, none⟩ = some (.string (nstr l.d)) := blk_cell q0 rfl
  have cv := conv_sb w1 (nstr l.d)
  clear hb1 q0
  by_cases hl : lok l
  · as_aux_lemma =>
    rw [if_pos hl]
    have HLK := hide hl
    clear hl
    have HS1 : Hid (BSl (Lib.bytesWorld w1 5 (nstr l.d)) (.slice (some ⟨w1.heap.size, 0, none⟩) (nstr l.d).size (grownCap w1 (nstr l.d).size 0 5)) l.d) := by
      have h := conv_sb_bsl w1 (nstr l.d) (by rw [HL.out.size]; have := HL.out.n; omega)
      rw [sl_nstr HL.out.d] at h
      exact h
    have HB2 : Hid (Below w.heap.size w (Lib.bytesWorld w1 5 (nstr l.d))) := HB1.out.trans ((conv_sb_below w1 _).mono HB1.out.size)
    go_wp2_with fail
    clear cv c2 c3
    generalize grownCap w1 (nstr l.d).size 0 5 = G at *
    generalize w1.heap.size = gg at *
    generalize Lib.bytesWorld w1 5 (nstr l.d) = w2 at *
    refine (holds3_any w2 l.h _ _ l.d b (HCB.out.below HB2.out) HL.out.h HS1.out (HB.out.move (keep_below HB2.out)) HBL.out).mono ?_
    rintro e w3 ⟨rfl, hb3⟩
    have HB3 : Hid (Below w.heap.size w w3) := HB2.out.trans (hb3.mono HB2.out.size)
    clear hb3
    go_wp2_with fail
    go_ret
    exact ⟨by rw [decide_eq_true HLK.out, Bool.true_and]; rfl, HB3.out⟩
  · as_aux_lemma =>
    rw [if_neg hl]
    have HLK := hide hl
    clear hl
    go_wp2_with fail
    go_ret
    exact ⟨by rw [decide_eq_false HLK.out, Bool.false_and]; rfl, HB1.out⟩
end
section
open Go.RowKit Go
theorem own_links {w : World} {base : Nat} {a : Option Addr} {n cap : Nat} {ss : List Lk} (h : w.ownsRow base 38 4 (.slice a n cap) ss.length (lfl ss)) (hn : 0 < ss.length) : ∃ blk, a = some ⟨blk, 0, none⟩ ∧ base ≤ blk ∧ blk < w.heap.size ∧ ∀ i l, ss[i]? = some l → ∀ k u, (lcs l)[k]? = some u → w.cell? ⟨blk, i * 4 + k, none⟩ = some u := by
  rcases id h.2 with ⟨_, h0⟩ | ⟨q, cp, cur, hv, h1, h2, h3, h4⟩
  · omega
  · injection hv with e1 e2 e3
    refine ⟨q, e1, h1, blk_lt h2, fun i l hl k u hu => ?_⟩
    have h5 := lfl_get hl hu
    rw [← h4.2.2, List.getElem?_take] at h5
    split at h5
    · exact blk_cell (j := i * 4 + k) h2 (by rw [← Array.getElem?_toList]; exact h5)
    · cases h5
theorem getr_nb2 {L : List Blk} {l : Lk} {j : Nat} (hj : l = ln4 j) (h : atB L l = some (blk4 j)) : getr13 L l = (blk4 j, 0) := by
  subst hj
  exact getr_nb h
theorem holds_nb2 {l : Lk} {j : Nat} (hj : l = ln4 j) : (decide (lok l) && dholds l.h l.d (blk4 j)) = true := by
  subst hj
  rw [Bool.and_eq_true]
  exact ⟨decide_eq_true (lok_ln4 j), dholds_nb j⟩
theorem some_nb2 {L : List Blk} {l : Lk} {b : List Nat} (h : atB L l = some b) : (atB L l).isSome = true := by
  rw [h]
  rfl
theorem has13_below (w : World) (g B r : Nat) (L : List Blk) (hS : Sto w g B r L) (l : Lk) (hl : Lkx l) : Calls Tryz.prog 25 #[.pointer (some ⟨g, 0, none⟩), .agg (lcs l)] w fun e w' => e = .returned (.bool (atB L l).isSome) ∧ Below w.heap.size w w' := by
  refine (has13_any w g B r L hS l hl).mono ?_
  rintro e w' ⟨he, hs, hk⟩
  refine ⟨he, hk.os, hk.tape, hk.output, hk.size, fun k h => ?_⟩
  by_cases hg : k = g
  · rw [hg, hs.c, hS.c]
  · exact hk.block k h hg
set_option maxRecDepth 1000000 in
set_option maxHeartbeats 4000000 in
theorem stands13_any (w : World) (g B r : Nat) (L : List Blk) (hS : Sto w g B r L) (c : Nat) (hL : Nbs L c) (hcb : ∀ wy, Kp (fun q => q = g) w wy → Cb wy) : Calls Tryz.prog 12 #[.pointer (some ⟨g, 0, none⟩), .int .i64 (L.length : Nat)] w fun e w' => e = .returned (.bool true) ∧ Kp (fun q => q = g) w w' := by
  have HCB := hide hcb
  have HSM : Hid (L.length ≤ 65536) := by have h1 := hS.n; have h2 := hS.h; show _ ≤ _; omega
  have HND := hide hS.m.nd
  have HL := hide hL
  have HGZ : Hid (g < w.heap.size) := blk_lt hS.c
  have HK := hide (links13_any w g B r L hS (fun p hp => by obtain ⟨j, -, rfl⟩ := hL p hp; exact lok_ln4 j))
  clear hcb hL hS
  go_enter Tryz.func12, Tryz.ntmps12
  go_upto_region 2 with (go_at_call 21; refine HK.out.mono ?_; rintro e w1 ⟨⟨a, cap, ss, rfl, hlen, hperm, hsort, hown⟩, hs1, hk1⟩)
  clear HK
  have HS1 := hide hs1
  have HK1 := hide hk1
  have HO := hide hown
  obtain ⟨hnd, hmem⟩ := nbs_row HL.out HND.out hperm
  have HNS := hide hnd
  have HMEM := hide hmem
  have HLEN := hide hlen
  have HSORT := hide hsort
  have HSZ : Hid (szB L = 4 * L.length) := nbs_sz L HL.out
  have HL1 := hide (len13_any w1 g B r L HS1.out)
  clear hs1 hk1 hown hnd hmem hlen hsort hperm
  have h65 : (L.length : Int) ≤ 65536 := by have := HSM.out; omega
  go_upto_region 5 with (first | (go_at_call 14; refine HL1.out.mono ?_; rintro e w2 ⟨rfl, hs2, hk2⟩; have HL2 := hide (size13_any w2 g B r L hs2); have HS2 := hide hs2; have HK2 := hide (HK1.out.trans hk2 (fun _ _ e => e))) | (go_at_call 22; refine HL2.out.mono ?_; rintro e w3 ⟨rfl, rfl⟩; rw [HSZ.out]))
  clear HL1
  rename World => w3
  go_loopw [6] (fun vi wx => ∃ i : Nat, i ≤ L.length ∧ vi = .int .i64 (i : Nat) ∧ Hid (Sto wx g B r L ∧ Kp (fun q => q = g) w1 wx)) (fun vi _ => L.length - (intOf vi).toNat)
  case atStart => exact ⟨0, by omega, rfl, HS2.out, hk2⟩
  case round =>
    obtain ⟨i, hi, rfl, HR⟩ := hrel
    by_cases hlt : i < L.length
    · have g1 : (i : Int) < (L.length : Int) := by omega
      obtain ⟨blk, rfl, hbz, hbl, hcell⟩ := own_links HO.out (by rw [HLEN.out]; omega)
      have HCE : Hid (∀ i l, ss[i]? = some l → ∀ k u, (lcs l)[k]? = some u → wr.cell? ⟨blk, i * 4 + k, none⟩ = some u) := fun i l hl k u hu => HR.out.2.cell (hcell i l hl k u hu) (fun e => by have e' : blk = g := e; have := HGZ.out; omega)
      obtain ⟨l, hl⟩ : ∃ l, ss[i]? = some l := ⟨_, List.getElem?_eq_getElem (by rw [HLEN.out]; exact hlt)⟩
      have HLI := hide hl
      obtain ⟨j, hj, hat⟩ := HMEM.out l (List.mem_of_getElem? hl)
      have HAT := hide hat
      have HLX : Hid (Lkx l) := by show Lkx l; rw [hj]; exact ln4_lkx j
      have HJ := hide hj
      have HC2 : Hid (∀ k u, (lcs l)[k]? = some u → ∀ wx, Kp (fun q => q = g) wr wx → wx.cell? ⟨blk, i * 4 + k, none⟩ = some u) := fun k u hu wx hx => hx.cell (HCE.out i l HLI.out k u hu) (fun e => by have e' : blk = g := e; have := HGZ.out; omega)
      clear hcell hl hj hat
      go_upto_region 7 with fail
      go_cut [48] (fun v wx => v = .bool false ∧ Hid (Sto wx g B r L ∧ Kp (fun q => q = g) wr wx))
      case first =>
        rcases i with _ | m
        · go_region
          go_wp2_with fail
          go_meet
          case rel => exact ⟨rfl, HR.out.1.next (Below.drew (Below.refl _ _)), Kp.of_below (Below.drew (Below.refl _ _))⟩
        · have HP : Hid (ss[m]? = some ss[m]!) := by have h1 := HLEN.out; show _ = _; rw [getElem!_pos ss m (by omega), List.getElem?_eq_getElem]
          have HLP : Hid (Lkx ss[m]!) := by
            obtain ⟨j', hj', -⟩ := HMEM.out _ (List.mem_of_getElem? HP.out)
            show Lkx _
            rw [hj']
            exact ln4_lkx j'
          have HLS : Hid (llt ss[m]! l = true) := by
            have h1 := HLEN.out
            have h2 := row_less (i := m) HNS.out (fun z hz => by obtain ⟨j', hj', -⟩ := HMEM.out z hz; rw [hj']; exact lok_ln4 j') (fun a b hab hb => HSORT.out a b hab (by omega)) (by omega)
            have h3 : ss[m + 1]! = l := by
              have h4 := HLI.out
              rw [List.getElem?_eq_getElem (by omega)] at h4
              rw [getElem!_pos ss (m + 1) (by omega)]
              exact Option.some.inj h4
            rw [h3] at h2
            exact h2
          obtain ⟨lp, hlp⟩ : ∃ lp, ss[m]! = lp := ⟨_, rfl⟩
          rw [hlp] at HP HLP HLS
          clear hlp
          have HQ1 : Hid (∀ w', (∃ t : Ext wr, w' = t.w') → ∀ k u, (lcs lp)[k]? = some u → w'.cell? ⟨blk, m * 4 + k, none⟩ = some u) := fun w' ⟨t, e⟩ k u h => by
            rw [e]
            exact keep_below t.h _ _ (HCE.out m lp HP.out k u h)
          have HQ2 : Hid (∀ w', (∃ t : Ext wr, w' = t.w') → ∀ k u, (lcs l)[k]? = some u → w'.cell? ⟨blk, (m + 1) * 4 + k, none⟩ = some u) := fun w' ⟨t, e⟩ k u h => by
            rw [e]
            exact keep_below t.h _ _ (HCE.out (m + 1) l HLI.out k u h)
          have HCH : Hid (∀ t : Ext wr, Calls Tryz.prog 23 #[.agg (lcs lp), .agg (lcs l)] t.w' fun e w'' => e = .returned (.bool true) ∧ ∃ t' : Ext wr, w'' = t'.w') := fun t => by
            have h := Calls.ext_below (less4_any t.w' lp l HLP.out.toLkb HLX.out.toLkb)
            rw [HLS.out] at h
            exact h
          have gm : (m : Int) < (L.length : Int) := by omega
          have gm1 : ((m + 1 : Nat) : Int) - 1 = (m : Int) := by omega
          have gw : IntKind.i64.wrap (m : Int) = (m : Int) := by rw [IntKind.wrap_i64]; omega
          have gm3 : (m : Int) + 1 < (L.length : Int) := by omega
          have gm4 : ((m : Int) + 1).toNat = m + 1 := by omega
          have gm5 : (0 : Int) ≤ (m : Int) + 1 := by omega
          have gm2 : (0 : Int) < ((m + 1 : Nat) : Int) := by omega
          refine region_ext (by kernel_rfl) (by kernel_rfl) ?_
          repeat (
            with_reducible refine wpQuiet_step (fun K hK => ?_)
            first
              | (refine qstep_lkAt rfl rfl blk (m * 4) lp rfl HQ1.out (hK _ ?_); clear hK K)
              | (refine qstep_lkAt rfl rfl blk ((m + 1) * 4) l rfl HQ2.out (hK _ ?_); clear hK K)
              | (go_simp
                 first
                   | (with_reducible refine hK _ ?_; clear hK K)
                   | (apply Exists.intro
                      refine ⟨fun _ => ?_, hK _ ?_⟩
                      (go_at_call 23; exact HCH.out _)
                      clear hK K)))
          refine wpQuiet_nil ?_
          rintro _ ⟨tq, rfl⟩
          have HTQ := hide tq.h
          go_wp2_with fail
          go_meet
          case rel => exact ⟨rfl, HR.out.1.next HTQ.out, Kp.of_below HTQ.out⟩
      case rest =>
        obtain ⟨rfl, HR2⟩ := hcut
        clear HCE
        have HGR : Hid (getr13 L l = (blk4 j, 0)) := getr_nb2 HJ.out HAT.out
        have HHO : Hid ((decide (lok l) && dholds l.h l.d (blk4 j)) = true) := holds_nb2 HJ.out
        have HIS : Hid ((atB L l).isSome = true) := some_nb2 HAT.out
        have HCW : Hid (∀ wy, Kp (fun q => q = g) wr wy → Cb wy) := fun wy hy => HCB.out _ ((HK1.out.trans HR.out.2 (fun _ _ e => e)).trans hy (fun _ _ e => e))
        have HG4 : Hid (Calls Tryz.prog 13 #[.pointer (some ⟨g, 0, none⟩), .agg (lcs l)] wc (GetP wc g B r L l)) := get13_any wc g B r L HR2.out.1 l HLX.out (fun wy hy => HCW.out _ (HR2.out.2.trans hy (fun _ _ e => e)))
        have HC4 : Hid (∀ k u, (lcs l)[k]? = some u → wc.cell? ⟨blk, i * 4 + k, none⟩ = some u) := fun k u hu => HC2.out k u hu wc HR2.out.2
        go_upto_region 9 with fail
        go_cut [58] (fun v wx => v = .bool (decide (i % 97 = 0 ∨ i + 1 = L.length)) ∧ wx = wc)
        case first =>
          by_cases hq : (i : Int) % 97 = 0
          · have hq2 : ((i : Int) % 97 == 0) = true := beq_iff_eq.2 hq
            have hd : decide (i % 97 = 0 ∨ i + 1 = L.length) = true := decide_eq_true (Or.inl (by omega))
            go_wp2_with fail
            go_meet
            case rel => exact ⟨by rw [hd], rfl⟩
          · have hq2 : ((i : Int) % 97 == 0) = false := beq_eq_false_iff_ne.2 hq
            by_cases hl : (i : Int) + 1 = (L.length : Int)
            · have hd : decide (i % 97 = 0 ∨ i + 1 = L.length) = true := decide_eq_true (Or.inr (by omega))
              have hl2 : ((i : Int) + 1 == (L.length : Int)) = true := beq_iff_eq.2 hl
              go_wp2_with fail
              go_meet
              case rel => exact ⟨by rw [hd], rfl⟩
            · have hd : decide (i % 97 = 0 ∨ i + 1 = L.length) = false := decide_eq_false (by omega)
              have hl2 : ((i : Int) + 1 == (L.length : Int)) = false := beq_eq_false_iff_ne.2 hl
              go_wp2_with fail
              go_meet
              case rel => exact ⟨by rw [hd], rfl⟩
        case rest =>
          obtain ⟨rfl, rfl⟩ := hcut
          by_cases hb : i % 97 = 0 ∨ i + 1 = L.length
          · rw [decide_eq_true hb]
            go_upto_region 11 with (first | (refine wpList_lkAt rfl rfl blk (i * 4) l rfl HC4.out ?_) | (go_at_call 13; refine HG4.out.mono ?_; rintro e w4 ⟨⟨v, rfl, hbv, -⟩, hs4, hk4⟩; rw [HGR.out] at hbv; rw [HGR.out]))
            have HB4 := hide hbv
            have HS4 := hide hs4
            have HK4 : Hid (Kp (fun q => q = g) wr w4) := HR2.out.2.trans hk4 (fun _ _ e => e)
            have HC5 : Hid (∀ w', Below w4.heap.size w4 w' → ∀ k u, (lcs l)[k]? = some u → w'.cell? ⟨blk, i * 4 + k, none⟩ = some u) := fun w' hb k u hu => keep_below hb _ _ (HC2.out k u hu w4 HK4.out)
            have HH5 : Hid (Calls Tryz.prog 24 #[.agg (lcs l), v] w4 fun e w' => e = .returned (.bool true) ∧ Below w4.heap.size w4 w') := by
              have h := holds4_any w4 l v (blk4 j) (HCW.out _ HK4.out) HLX.out.toLkb HB4.out (by show (4 : Nat) ≤ _; decide)
              rw [HHO.out] at h
              exact h
            have HA5 : Hid (∀ wx, Below w4.heap.size w4 wx → Calls Tryz.prog 25 #[.pointer (some ⟨g, 0, none⟩), .agg (lcs l)] wx fun e w' => e = .returned (.bool true) ∧ Below w4.heap.size w4 w') := fun wx hx => by
              have h := has13_below wx g B r L (HS4.out.next hx) l HLX.out
              rw [HIS.out] at h
              refine h.mono ?_
              rintro e w' ⟨he, hb⟩
              exact ⟨he, hx.trans (hb.mono hx.size)⟩
            have HN5 := hide (num13_any w4 0)
            have HC6 : Hid (∀ k u, (lcs l)[k]? = some u → w4.cell? ⟨blk, i * 4 + k, none⟩ = some u) := HC5.out w4 (Below.refl _ _)
            clear hbv hs4 hk4 HG4 HC4 HGR HHO HIS HR2 HB4
            go_wp2_with (first
              | (refine wpList_lkAt rfl rfl blk (i * 4) l rfl HC6.out ?_)
              | (refine wpList_lkAt rfl rfl blk (i * 4) l rfl HC7.out ?_)
              | (go_at_call 6; refine HN5.out.mono ?_; rintro e wq ⟨rfl, hwq⟩; have hwq := hwq.symm; subst hwq)
              | (go_at_call 24; refine HH5.out.mono ?_; rintro e w5 ⟨rfl, hb5⟩; have HB5 := hide hb5; have HC7 := hide (HC5.out w5 hb5))
              | (go_at_call 25; refine (HA5.out _ HB5.out).mono ?_; rintro e w6 ⟨rfl, hb6⟩))
            go_roundw
            case rel => exact ⟨i + 1, by omega, by go_num, HS4.out.next hb6, HR.out.2.trans (HK4.out.trans (Kp.of_below hb6) (fun _ _ e => e)) (fun _ _ e => e)⟩
            case measure => simp [intOf]; omega
          · rw [decide_eq_false hb]
            go_wp2_with fail
            go_roundw
            case rel => exact ⟨i + 1, by omega, by go_num, HR2.out.1, HR.out.2.trans HR2.out.2 (fun _ _ e => e)⟩
            case measure => simp [intOf]; omega
    · go_wp2_with (refine (works13_any wr (HCB.out _ (HK1.out.trans HR.out.2 (fun _ _ e => e)))).mono ?_; rintro e w9 ⟨rfl, hb9⟩)
      go_ret
      exact ⟨rfl, (HK1.out.trans HR.out.2 (fun _ _ e => e)).trans (Kp.of_below hb9) (fun _ _ e => e)⟩
end
section
open Go.RowKit Go
set_option maxRecDepth 1000000 in
theorem withinR_any (m : Int) (w : World) : Calls Tryz.prog 4 #[.int .i64 m, .int .i64 65536] w fun e w' => ∃ k : Nat, k < 65536 ∧ e = .returned (.int .i64 (k : Nat)) ∧ w' = w := by
  have h1 : -65536 < m.tmod 65536 ∧ m.tmod 65536 < 65536 := by
    by_cases h : 0 ≤ m
    · rw [Int.tmod_eq_emod_of_nonneg h]; omega
    · have e : m = -(-m) := by omega
      rw [e, Int.neg_tmod, Int.tmod_eq_emod_of_nonneg (by omega)]; omega
  by_cases hneg : m.tmod 65536 < 0
  · go_enter Tryz.func4, Tryz.ntmps4
    go_wp2
    go_ret
    refine ⟨(m.tmod 65536 + 65536).toNat, by omega, ?_, rfl⟩
    rw [Int.toNat_of_nonneg (by omega)]
    rfl
  · go_enter Tryz.func4, Tryz.ntmps4
    go_wp2
    go_ret
    refine ⟨(m.tmod 65536).toNat, by omega, ?_, rfl⟩
    rw [Int.toNat_of_nonneg (by omega)]
    rfl
set_option maxRecDepth 1000000 in
theorem withinN_any (m : Int) (w : World) : Calls Tryz.prog 4 #[.int .i64 m, .int .i64 66001] w fun e w' => ∃ k : Nat, k < 66001 ∧ e = .returned (.int .i64 (k : Nat)) ∧ w' = w := by
  have h1 : -66001 < m.tmod 66001 ∧ m.tmod 66001 < 66001 := by
    by_cases h : 0 ≤ m
    · rw [Int.tmod_eq_emod_of_nonneg h]; omega
    · have e : m = -(-m) := by omega
      rw [e, Int.neg_tmod, Int.tmod_eq_emod_of_nonneg (by omega)]; omega
  by_cases hneg : m.tmod 66001 < 0
  · go_enter Tryz.func4, Tryz.ntmps4
    go_wp2
    go_ret
    refine ⟨(m.tmod 66001 + 66001).toNat, by omega, ?_, rfl⟩
    rw [Int.toNat_of_nonneg (by omega)]
    rfl
  · go_enter Tryz.func4, Tryz.ntmps4
    go_wp2
    go_ret
    refine ⟨(m.tmod 66001).toNat, by omega, ?_, rfl⟩
    rw [Int.toNat_of_nonneg (by omega)]
    rfl
set_option maxRecDepth 1000000 in
theorem withinS_any (m : Int) (w : World) : Calls Tryz.prog 4 #[.int .i64 m, .int .i64 5000] w fun e w' => ∃ k : Nat, k < 5000 ∧ e = .returned (.int .i64 (k : Nat)) ∧ w' = w := by
  have h1 : -5000 < m.tmod 5000 ∧ m.tmod 5000 < 5000 := by
    by_cases h : 0 ≤ m
    · rw [Int.tmod_eq_emod_of_nonneg h]; omega
    · have e : m = -(-m) := by omega
      rw [e, Int.neg_tmod, Int.tmod_eq_emod_of_nonneg (by omega)]; omega
  by_cases hneg : m.tmod 5000 < 0
  · go_enter Tryz.func4, Tryz.ntmps4
    go_wp2
    go_ret
    refine ⟨(m.tmod 5000 + 5000).toNat, by omega, ?_, rfl⟩
    rw [Int.toNat_of_nonneg (by omega)]
    rfl
  · go_enter Tryz.func4, Tryz.ntmps4
    go_wp2
    go_ret
    refine ⟨(m.tmod 5000).toNat, by omega, ?_, rfl⟩
    rw [Int.toNat_of_nonneg (by omega)]
    rfl
theorem Lsw.ksls {w wx wy : World} {a k : Nat} {v : Value} {Cs : List (Array Value)} (h : Lsw w wx a k v Cs) (hk : k ≤ 1000000) {S : Nat → Prop} (hs : ∀ q, S q → q < w.heap.size) (hy : Kp S wx wy) : KSl wy v (nums a k) := by
  have ho : wy.ownsRow w.heap.size 43 5 v Cs.length (gfl Cs) := hy.owns h.o (fun q hq hS => by have h1 := (h.o.lt q hq).1; have h2 := hs q hS; omega)
  unfold nums
  refine own_gsl ho (fun c hc => ?_) (by rw [h.n]; simp) (by simp; omega) (fun i x c h1 h2 => ?_)
  · obtain ⟨m, hm⟩ := List.getElem?_of_mem hc
    obtain ⟨q, -, h2, -⟩ := h.c m c hm
    rw [h2]
    rfl
  · obtain ⟨q, hq, h3, h4⟩ := h.c i c h2
    have h5 := (hy.block q (blk_lt h4) (fun hS => by have h6 := hs q hS; omega)).trans h4
    rw [List.getElem?_map, List.getElem?_range (by have := (List.getElem?_eq_some_iff.1 h2).1; rw [h.n] at this; exact this)] at h1
    injection h1 with h1
    subst h1
    refine ⟨⟨_, h3, bsl_block (xs := blk4 (a + i)) h5 (blk4_byte _) (show (4 : Nat) ≤ 9223372036854775807 by decide)⟩, ?_, show (4 : Nat) ≤ 140737488351232 by decide⟩
    exact ln4_lkx (a + i)
theorem Lsw.first {w wx : World} {a k : Nat} {v : Value} {Cs : List (Array Value)} (h : Lsw w wx a k v Cs) (hk : 0 < k) : ∃ blk cap q, v = .slice (some ⟨blk, 0, none⟩) k cap ∧ w.heap.size ≤ blk ∧ w.heap.size ≤ q ∧ wx.cell? ⟨blk, 4, none⟩ = some (.slice (some ⟨q, 0, none⟩) 4 4) ∧ wx.heap[q]? = some (.cells (bv (blk4 a)).toArray 5 (0, 0)) := by
  have hn := h.n
  rcases id h.o.2 with ⟨_, h0⟩ | ⟨p, cp, cur, hv, h1, h2, h3, h4⟩
  · omega
  · obtain ⟨c, hc⟩ : ∃ c, Cs[0]? = some c := ⟨_, List.getElem?_eq_getElem (by omega)⟩
    obtain ⟨q, g1, g2, g3⟩ := h.c 0 c hc
    refine ⟨p, cp, q, by rw [hv, hn], h1, g1, ?_, g3⟩
    have h5 : (gfl Cs)[0 * 5 + 4]? = some (.slice (some ⟨q, 0, none⟩) 4 4) := gfl_get (n := 5) (fun x hx => by obtain ⟨m, hm⟩ := List.getElem?_of_mem hx; obtain ⟨_, -, e, -⟩ := h.c m x hm; rw [e]; rfl) 0 c 4 _ hc (by rw [g2]; rfl)
    rw [← h4.2.2, List.getElem?_take] at h5
    split at h5
    · exact blk_cell (j := 4) h2 (by rw [← Array.getElem?_toList]; exact h5)
    · cases h5
theorem bslw_row {w : World} {g p : Nat} {xs : List Nat} {n : Nat} {t : TypeId} (h : w.heap[p]? = some (.cells (bv xs).toArray t (0, 0))) (hp : p ≠ g) (hb : ∀ x ∈ xs, x < 256) (hl : xs.length ≤ 9223372036854775807) (hn : xs.length = n) : ∀ wy, Kp (fun q => q = g) w wy → BSl wy (.slice (some ⟨p, 0, none⟩) n n) xs := fun _ hy => by
  subst hn
  exact bsl_block ((hy.block _ (blk_lt h) hp).trans h) hb hl
end
section
open Go.RowKit Go
set_option maxRecDepth 1000000 in
set_option maxHeartbeats 4000000 in
theorem smany_any (w : World) (hcb : Cb w) (a b c : Int) : Calls Tryz.prog 3 #[.agg #[.int .i64 a, .int .i64 b, .int .i64 c]] w fun e w' => e = .returned (.bool true) ∧ Below w.heap.size w w' := by
  have HCB := hide hcb
  clear hcb
  have HNM : Hid (∀ (w : World) (n : Int), Calls Tryz.prog 6 #[.int .i64 n] w fun e w' => e = .returned (.int .i64 n) ∧ w' = w) := num13_any
  go_enter Tryz.func3, Tryz.ntmps3
  go_upto_region 2 with (go_at_call 4; refine (withinR_any _ _).mono ?_; rintro e wq ⟨r0, hr0, rfl, hwq⟩; have hwq := hwq.symm; subst hwq)
  go_upto_region 3 with (go_at_call 4; refine (withinN_any _ _).mono ?_; rintro e wq ⟨n, hn, rfl, hwq⟩; have hwq := hwq.symm; subst hwq)
  go_upto_region 4 with (go_at_call 4; refine (withinS_any _ _).mono ?_; rintro e wq ⟨s0, hs0, rfl, hwq⟩; have hwq := hwq.symm; subst hwq)
  obtain ⟨r, hr⟩ : ∃ r : Nat, r = r0 + 1 := ⟨_, rfl⟩
  obtain ⟨st, hst⟩ : ∃ st : Nat, st = s0 + 1 := ⟨_, rfl⟩
  rw [show (1 + (r0 : Int)) = (r : Int) by omega, show (1 + (s0 : Int)) = (st : Int) by omega]
  have hr1 : 1 ≤ r ∧ r ≤ 65536 := by omega
  have hs1 : 1 ≤ st ∧ st ≤ 5000 := by omega
  clear hr hst hr0 hs0
  have HB0 : Hid (Below w.heap.size w (w.alloc (.cells #[.int .i64 a, .int .i64 b, .int .i64 c] 23))) := below_alloc4 w _
  generalize w.alloc (.cells #[.int .i64 a, .int .i64 b, .int .i64 c] 23) = w0 at *
  have HNW := hide (new13_any w0 r hr1)
  go_upto_region 5 with (go_at_call 5; refine HNW.out.mono ?_; rintro e w1 ⟨rfl, hp1⟩)
  have HN1 : Hid (Nst w w1 (w0.heap.size + 1) w0.heap.size r []) := ⟨hp1.out.1, HB0.out.trans (hp1.out.2.mono HB0.out.size), by have := HB0.out.size; omega, HB0.out.size⟩
  generalize hgg : w0.heap.size + 1 = g at *
  obtain ⟨B, hB⟩ : ∃ B, w0.heap.size = B := ⟨_, rfl⟩
  rw [hB] at HN1
  have HWK := hide (works13_any w1 (HCB.out.below HN1.out.b))
  clear hp1 hgg hB HNW HB0
  go_upto_region 9 with (first
    | (go_at_call 6; refine (HNM.out _ _).mono ?_; rintro e wq ⟨rfl, hwq⟩; have hwq := hwq.symm; subst hwq)
    | (go_at_call 7; refine HWK.out.mono ?_; rintro e w2 ⟨rfl, hb2⟩))
  have HN2 : Hid (Nst w w2 g B r []) := HN1.out.next hb2
  clear HN1 HWK hb2
  rename World => w2
  go_loopw [8, 9] (fun t q wx => ∃ (i : Nat) (L : List Blk), i ≤ 71001 ∧ q = .int .i64 (i : Nat) ∧ t = .int .i64 (L.length : Nat) ∧ Hid (Nst w wx g B r L ∧ Nbs L i)) (fun _ q _ => n - (intOf q).toNat)
  case atStart => exact ⟨0, [], by omega, rfl, rfl, HN2.out, fun x hx => by simp at hx⟩
  case round =>
    obtain ⟨i, L, hi, rfl, rfl, HM⟩ := hrel
    clear HN2
    have HND := hide HM.out.1.s.m.nd
    have h65 : L.length ≤ 65536 := by have h1 := HM.out.1.s.n; omega
    by_cases hlt : i < n
    · have g1 : (i : Int) < (n : Int) := by omega
      go_upto_if 55 with fail
      obtain ⟨k, hk⟩ : ∃ k, k = min st (n - i) := ⟨_, rfl⟩
      have hk1 : 1 ≤ k ∧ k ≤ st := by omega
      go_cut [10, 55] (fun v _ wx => v = .int .i64 ((i + k : Nat) : Int) ∧ wx = wr)
      case first =>
        by_cases hto : (n : Int) < (i : Int) + (st : Int)
        · go_wp2_with fail
          go_meet
          case rel => exact ⟨by rw [show i + k = n by omega], rfl⟩
        · go_wp2_with fail
          go_meet
          case rel => exact ⟨by rw [show i + k = i + st by omega]; go_num, rfl⟩
      case rest =>
        obtain ⟨rfl, rfl⟩ := hcut
        clear hk
        have HLS := hide (lists13_any wc i (i + k) (by omega) (by omega) (HCB.out.below HM.out.1.b))
        rw [show i + k - i = k by omega] at HLS
        go_upto_region 15 with (go_at_call 8; refine HLS.out.mono ?_; rintro e w3 ⟨v, Cs, rfl, HW⟩)
        have HM3 : Hid (Nst w w3 g B r L) := HM.out.1.next HW.out.b
        have HKS : Hid (∀ wy, Kp (fun q => q = g) w3 wy → KSl wy v (nums i k)) := fun wy hy => HW.out.ksls (by omega) (fun q e => by rw [e]; exact blk_lt HM.out.1.s.c) hy
        have HAD := hide (Adds13_any w3 g B r L HM3.out.s v (nums i k) HKS.out (by rw [nums_len]; omega) (HM3.out.cb HCB.out))
        have HLY := hide (addr_nums (r := r) (k := k) HND.out HM.out.2 (by omega))
        obtain ⟨R, hR⟩ : ∃ R, addr13 r L (nums i k) = R := ⟨_, rfl⟩
        rw [hR] at HAD HLY
        obtain ⟨blk, cap, q, rfl, hb1, hq1, hc1, hq2⟩ := HW.out.first (by omega)
        have HQ1 : Hid (wc.heap.size ≤ blk ∧ wc.heap.size ≤ q) := ⟨hb1, hq1⟩
        have HC1 := hide hc1
        have HQ2 := hide hq2
        clear hR HLS HKS hb1 hq1 hc1 hq2 HW
        go_upto_region 16 with (go_at_call 9; refine HAD.out.mono ?_; rintro e w4 ⟨rfl, hs4, hk4⟩)
        have HM4 : Hid (Nst w w4 g B r R.2) := HM3.out.of hs4 hk4
        have HBG : Hid (blk ≠ g ∧ blk ≠ B ∧ q ≠ g ∧ q ≠ B) := by
          have h1 := HQ1.out
          have h2 := blk_lt HM.out.1.s.c
          have h3 := HM.out.1.s.m.lt
          show _ ∧ _ ∧ _ ∧ _
          omega
        have hc4 : w4.cell? ⟨blk, 4, none⟩ = some (.slice (some ⟨q, 0, none⟩) 4 4) := hk4.cell HC1.out (fun e => by rcases e with e | e; exact HBG.out.1 e; exact HBG.out.2.1 e)
        have HQ4 : Hid (w4.heap[q]? = some (.cells (bv (blk4 i)).toArray 5 (0, 0))) := (hk4.block q (blk_lt HQ2.out) (fun e => by rcases e with e | e; exact HBG.out.2.2.1 e; exact HBG.out.2.2.2 e)).trans HQ2.out
        clear HAD HM3 HQ1 HC1 HQ2 hs4 hk4
        rcases HLY.out with h | ⟨hr2, h⟩ | ⟨hr2, h1, h2, h3⟩
        · subst h
          have HMT : Hid (∀ w, Calls Tryz.prog 10 #[.int .i64 134] w fun x w' => x = .returned (.bool true) ∧ w' = w) := fun w => met13_any w 134
          go_wp2_with (go_at_call 10; refine (HMT.out _).mono ?_; rintro e wq ⟨rfl, hwq⟩; have hwq := hwq.symm; subst hwq)
          go_ret
          exact ⟨rfl, HM4.out.b⟩
        · subst h
          have HMT : Hid (∀ w, Calls Tryz.prog 10 #[.int .i64 135] w fun x w' => x = .returned (.bool false) ∧ w' = w) := fun w => met13_any w 135
          have gf : decide ((L.length : Int) + (k : Int) ≤ (r : Int)) = false := decide_eq_false (by omega)
          go_upto_region 19 with (first
            | (go_at_call 6; refine (HNM.out _ _).mono ?_; rintro e wq ⟨rfl, hwq⟩; have hwq := hwq.symm; subst hwq)
            | (go_at_call 10; refine (HMT.out _).mono ?_; rintro e wq ⟨rfl, hwq⟩; have hwq := hwq.symm; subst hwq))
          go_upto_region 23 with (first
            | (go_at_call 6; refine (HNM.out _ _).mono ?_; rintro e wq ⟨rfl, hwq⟩; have hwq := hwq.symm; subst hwq)
            | (go_at_call 10; refine (HMT.out _).mono ?_; rintro e wq ⟨rfl, hwq⟩; have hwq := hwq.symm; subst hwq))
          have HPT := hide (put13_any w4 g B r L HM4.out.s 85 (by decide) (.slice (some ⟨q, 0, none⟩) 4 4) (blk4 i) (bslw_row (xs := blk4 i) HQ4.out HBG.out.2.2.1 (blk4_byte i) (by show (4 : Nat) ≤ _; decide) rfl) (by show (4 : Nat) ≤ _; decide) (HM4.out.cb HCB.out))
          have HPR := hide (putr_nums (r := r) HND.out HM.out.2 (by omega))
          obtain ⟨P, hP⟩ : ∃ P, putr13 r L 85 (blk4 i) = P := ⟨_, rfl⟩
          rw [hP] at HPT HPR
          clear hP HLY HQ4 HBG HMT
          rcases HPR.out with h | ⟨hr3, h⟩ | ⟨hr3, M, h, h1, h2⟩
          · subst h
            have HMT : Hid (∀ w, Calls Tryz.prog 10 #[.int .i64 134] w fun x w' => x = .returned (.bool true) ∧ w' = w) := fun w => met13_any w 134
            have HP5 : Hid (Calls Tryz.prog 11 #[.pointer (some ⟨g, 0, none⟩), .int .u64 85, .slice (some ⟨q, 0, none⟩) 4 4] w4 fun e w' => e = .returned (.tuple #[.agg #[.int .i64 0, .int .u64 0, .int .u64 0, .string ⟨#[]⟩], .int .i64 134]) ∧ Hid (Nst w w' g B r L)) := by
              refine HPT.out.mono ?_
              rintro e w5 ⟨he, hs5, hk5⟩
              exact ⟨he, HM4.out.of hs5 hk5⟩
            clear HPT HPR
            go_upto_region 24 with (go_at_call 11; refine HP5.out.mono ?_; rintro e w5 ⟨rfl, HM5⟩)
            have HM6 : Hid (Nst w (w5.alloc (.cells #[.int .i64 0, .int .u64 0, .int .u64 0, .string ⟨#[]⟩] 38)) g B r L) := HM5.out.next (below_alloc4 w5 _)
            clear HP5 HM5
            generalize w5.alloc (.cells #[.int .i64 0, .int .u64 0, .int .u64 0, .string ⟨#[]⟩] 38) = w6 at *
            go_wp2_with (first
              | (go_at_call 6; refine (HNM.out _ _).mono ?_; rintro e wq ⟨rfl, hwq⟩; have hwq := hwq.symm; subst hwq)
              | (go_at_call 10; refine (HMT.out _).mono ?_; rintro e wq ⟨rfl, hwq⟩; have hwq := hwq.symm; subst hwq))
            go_ret
            exact ⟨rfl, HM6.out.b⟩
          · subst h
            have HMT : Hid (∀ w, Calls Tryz.prog 10 #[.int .i64 135] w fun x w' => x = .returned (.bool false) ∧ w' = w) := fun w => met13_any w 135
            have gt : decide ((L.length : Int) < (r : Int)) = false := decide_eq_false (by omega)
            have HP5 : Hid (Calls Tryz.prog 11 #[.pointer (some ⟨g, 0, none⟩), .int .u64 85, .slice (some ⟨q, 0, none⟩) 4 4] w4 fun e w' => e = .returned (.tuple #[.agg #[.int .i64 0, .int .u64 0, .int .u64 0, .string ⟨#[]⟩], .int .i64 135]) ∧ Hid (Nst w w' g B r L)) := by
              refine HPT.out.mono ?_
              rintro e w5 ⟨he, hs5, hk5⟩
              exact ⟨he, HM4.out.of hs5 hk5⟩
            clear HPT HPR
            go_upto_region 24 with (go_at_call 11; refine HP5.out.mono ?_; rintro e w5 ⟨rfl, HM5⟩)
            have HM6 : Hid (Nst w (w5.alloc (.cells #[.int .i64 0, .int .u64 0, .int .u64 0, .string ⟨#[]⟩] 38)) g B r L) := HM5.out.next (below_alloc4 w5 _)
            clear HP5 HM5
            generalize w5.alloc (.cells #[.int .i64 0, .int .u64 0, .int .u64 0, .string ⟨#[]⟩] 38) = w6 at *
            go_wp2_with (first
              | (go_at_call 6; refine (HNM.out _ _).mono ?_; rintro e wq ⟨rfl, hwq⟩; have hwq := hwq.symm; subst hwq)
              | (go_at_call 10; refine (HMT.out _).mono ?_; rintro e wq ⟨rfl, hwq⟩; have hwq := hwq.symm; subst hwq))
            go_roundw
            case rel => exact ⟨i + st, L, by omega, by go_num, rfl, HM6.out, HM.out.2.mono (by omega)⟩
            case measure => simp [intOf]; omega
          · subst h
            have HMT : Hid (∀ w, Calls Tryz.prog 10 #[.int .i64 0] w fun x w' => x = .returned (.bool false) ∧ w' = w) := fun w => met13_any w 0
            have gt : (L.length : Int) < (r : Int) := by omega
            have HMN := hide h2
            obtain ⟨l, hl⟩ : ∃ l, ln4 i = l := ⟨_, rfl⟩
            rw [hl] at HPT
            have HP5 : Hid (Calls Tryz.prog 11 #[.pointer (some ⟨g, 0, none⟩), .int .u64 85, .slice (some ⟨q, 0, none⟩) 4 4] w4 fun e w' => e = .returned (.tuple #[.agg #[.int .i64 l.v, .int .u64 (l.c : Nat), .int .u64 (l.h : Nat), .string (nstr l.d)], .int .i64 0]) ∧ Hid (Nst w w' g B r M)) := by
              refine HPT.out.mono ?_
              rintro e w5 ⟨he, hs5, hk5⟩
              exact ⟨he, HM4.out.of hs5 hk5⟩
            clear HPT HPR
            go_upto_region 24 with (go_at_call 11; refine HP5.out.mono ?_; rintro e w5 ⟨rfl, HM5⟩)
            have HM6 : Hid (Nst w (w5.alloc (.cells #[.int .i64 l.v, .int .u64 (l.c : Nat), .int .u64 (l.h : Nat), .string (nstr l.d)] 38)) g B r M) := HM5.out.next (below_alloc4 w5 _)
            clear HP5 HM5
            generalize w5.alloc (.cells #[.int .i64 l.v, .int .u64 (l.c : Nat), .int .u64 (l.h : Nat), .string (nstr l.d)] 38) = w6 at *
            go_wp2_with (first
              | (go_at_call 6; refine (HNM.out _ _).mono ?_; rintro e wq ⟨rfl, hwq⟩; have hwq := hwq.symm; subst hwq)
              | (go_at_call 10; refine (HMT.out _).mono ?_; rintro e wq ⟨rfl, hwq⟩; have hwq := hwq.symm; subst hwq))
            go_roundw
            case rel => exact ⟨i + st, M, by omega, by go_num, by rw [h1]; go_num, HM6.out, HMN.out.mono (by omega)⟩
            case measure => simp [intOf]; omega
        · obtain ⟨R1, R2⟩ := R
          simp only at h1 h2 h3 HM4
          subst h1
          have HMT : Hid (∀ w, Calls Tryz.prog 10 #[.int .i64 0] w fun x w' => x = .returned (.bool false) ∧ w' = w) := fun w => met13_any w 0
          have gf : (L.length : Int) + (k : Int) ≤ (r : Int) := by omega
          have h3 := hide h3
          go_wp2_with (first
            | (go_at_call 6; refine (HNM.out _ _).mono ?_; rintro e wq ⟨rfl, hwq⟩; have hwq := hwq.symm; subst hwq)
            | (go_at_call 10; refine (HMT.out _).mono ?_; rintro e wq ⟨rfl, hwq⟩; have hwq := hwq.symm; subst hwq))
          go_roundw
          case rel => exact ⟨i + st, R2, by omega, by go_num, by rw [h2]; go_num, HM4.out, h3.out.mono (by omega)⟩
          case measure => simp [intOf]; omega
    · go_wp2_with (go_at_call 12; refine (stands13_any wr g B r L HM.out.1.s i HM.out.2 (HM.out.1.cb HCB.out)).mono ?_; rintro e w9 ⟨rfl, hk9⟩)
      go_ret
      exact ⟨rfl, HM.out.1.b.trans (hk9.below HM.out.1.b.size (fun q e => e ▸ HM.out.1.g))⟩
end
section
open Go.ChangeShapes Go.WideShapes Go.ChangeAt Go.RowKit Go
def kki : List Int := kk.map fun n => ((n : Nat) : Int)
theorem cbN : Tryz.prog.globalNamed "trellis/digest.cubes" = some 1 := by kernel_rfl
theorem cbT : (Tryz.prog.globals[1]?).map (·.type) = some 131 := by kernel_rfl
theorem cellsU32 : Tryz.prog.cellsOf 49 = 1 := by kernel_rfl
theorem cells64 : Tryz.prog.cellsOf 131 = 64 := by kernel_rfl
theorem cb_of_laid {W : World} (h : laidMet Tryz.prog [("trellis/digest.cubes", Rows.laid_trellis_digest_cubes)] W) : Cb W := by
  have h' : laidMet Tryz.prog (("trellis/digest.cubes", Lib.tabData .u32 kki) :: []) W := h
  have t := Lib.tabIs_of_head cbN cbT Tryz.underlying131 Tryz.underlying49 cellsU32 cells64 h'
  refine ⟨fun i hi => ?_⟩
  have hc := t.cell cbN i (by rw [kki, List.length_map]; exact hi)
  rw [hc]
  congr 2
  simp only [kki, List.getD_eq_getElem?_getD, List.getElem?_map]
  have hl : i < kk.length := hi
  rw [List.getElem?_eq_getElem hl]
  rfl
noncomputable def laidWorld (os : Os) : World :=
  let w0 := World.holding Tryz.prog os ⟨#[], #[], []⟩
  { w0 with heap := w0.heap.modify 1 fun
      | .cells _ t frozen => .cells (wv kk).toArray t frozen
      | o => o }
theorem laid_met (os : Os) (args : Array Value) : laidMet Tryz.prog [("trellis/digest.cubes", Rows.laid_trellis_digest_cubes)] ((laidWorld os).forCall (fun _ _ => 0) ⟨#[], args, []⟩).memory :=
  laidMet_of_run' 8 (by kernel_rfl) (by kernel_rfl)
end
end Go.Proofs.YtnbbnainmifenaaGreatDoor

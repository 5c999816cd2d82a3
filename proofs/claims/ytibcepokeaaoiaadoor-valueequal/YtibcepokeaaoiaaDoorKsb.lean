import Derived.Test.YtibcepokeaaoiaaDoorKsa
import Derived.Test.YtibcepokeaaoiaaDoorTie
import Derived.Test.YtibcepokeaaoiaaDoorCards
import Derived.ProofKit
namespace Go.Proofs.YtibcepokeaaoiaaDoor
section
open Go.RowKit Go
theorem teq_rest_iff {a b : Tv} (ha : Trk a) (hb : Trk b) (h9 : a.k ≠ 9 ∨ b.k ≠ 9) : Teq a b ↔ a.is.length = b.is.length ∧ a.wi [] = b.wi [] ∧ ∀ (i : Nat) (u v : Tv), a.is[i]? = some u → b.is[i]? = some v → Teq u v := by
  constructor
  · intro h
    have ht := teq_top h
    have ka : a.k ≠ 9 := by
      rcases h9 with h9 | h9
      · exact h9
      · rw [← ht.k]
        exact h9
    have kb : b.k ≠ 9 := by rw [ht.k]; exact ka
    obtain ⟨h1, h2⟩ := teq_items ka h
    refine ⟨h1, tv_ext ⟨ht.k, ht.f, ht.g, ht.n, ht.b, ht.s, ht.y, ht.l⟩ ?_ rfl, h2⟩
    show a.ks = b.ks
    rw [ha.e ka, hb.e kb]
  · rintro ⟨h1, h2, h3⟩
    have hk : (a.wi []).k = (b.wi []).k := by rw [h2]
    have ff : (a.wi []).f = (b.wi []).f := by rw [h2]
    have fg : (a.wi []).g = (b.wi []).g := by rw [h2]
    have fn : (a.wi []).n = (b.wi []).n := by rw [h2]
    have fb : (a.wi []).b = (b.wi []).b := by rw [h2]
    have fs : (a.wi []).s = (b.wi []).s := by rw [h2]
    have fy : (a.wi []).y = (b.wi []).y := by rw [h2]
    have fl : (a.wi []).l = (b.wi []).l := by rw [h2]
    have hk : a.k = b.k := hk
    have ka : a.k ≠ 9 := by
      rcases h9 with h9 | h9
      · exact h9
      · rw [hk]
        exact h9
    have kb : b.k ≠ 9 := by rw [← hk]; exact ka
    exact teq_rest ka ⟨hk.symm, ff.symm, fg.symm, fn.symm, fb.symm, fs.symm, fy.symm, fl.symm⟩ (ha.e ka) (hb.e kb) h1 h3
theorem bool_of (P : Prop) : ∃ r : Bool, r = true ↔ P := by
  rcases Classical.em P with h | h
  · exact ⟨true, by simp [h]⟩
  · exact ⟨false, by simp [h]⟩
/-- What Equal stands on: its arguments' own copies. -/
structure E2 (w wx : World) (ca cb : Array Value) : Prop where
  b : Below w.heap.size w wx
  p : wx.heap[w.heap.size]? = some (.cells ca 30 (0, 0))
  q : wx.heap[w.heap.size + 1]? = some (.cells cb 30 (0, 0))
theorem E2.next {w wx wy : World} {ca cb : Array Value} (h : E2 w wx ca cb) (hb : Below wx.heap.size wx wy) : E2 w wy ca cb :=
  ⟨h.b.trans (hb.mono h.b.size), (hb.block _ (blk_lt h.p)).trans h.p, (hb.block _ (blk_lt h.q)).trans h.q⟩
theorem E2.start (w : World) (ca cb : Array Value) : E2 w ((w.alloc (.cells ca 30)).alloc (.cells cb 30)) ca cb := by
  have h0 := heap_alloc_new w (.cells ca 30)
  have e : (w.alloc (.cells ca 30)).heap.size = w.heap.size + 1 := by simp
  have h1 := heap_alloc_new (w.alloc (.cells ca 30)) (.cells cb 30)
  rw [e] at h1
  exact ⟨(below_alloc4 w _).trans ((below_alloc4 _ _).mono (by omega)), blk_alloc _ h0, h1⟩
/-- The copies whose items are taken away. -/
structure E4 (w wx : World) (ca cb : Array Value) (gx gy : Nat) (cx cy : Array Value) : Prop where
  e : E2 w wx ca cb
  x : wx.heap[gx]? = some (.cells cx 30 (0, 0))
  y : wx.heap[gy]? = some (.cells cy 30 (0, 0))
  g : w.heap.size + 1 < gx ∧ gx < gy
theorem E4.setx {w wx : World} {ca cb cx cy : Array Value} {gx gy : Nat} (h : E4 w wx ca cb gx gy cx cy) (j : Nat) (v : Value) : E4 w (wx.setCell ⟨gx, j, none⟩ v) ca cb gx gy (cx.setIfInBounds j v) cy := by
  have hk : Kp (fun q => q = gx) wx (wx.setCell ⟨gx, j, none⟩ v) := (Kp.refl _ _).setCell _ _ (fun _ => rfl)
  have hg := h.g
  exact ⟨⟨h.e.b.trans (hk.below h.e.b.size (fun k e => by omega)), blk_other j _ h.e.p (by omega), blk_other j _ h.e.q (by omega)⟩, blk_set j _ h.x, blk_other j _ h.y (by omega), hg⟩
theorem E4.sety {w wx : World} {ca cb cx cy : Array Value} {gx gy : Nat} (h : E4 w wx ca cb gx gy cx cy) (j : Nat) (v : Value) : E4 w (wx.setCell ⟨gy, j, none⟩ v) ca cb gx gy cx (cy.setIfInBounds j v) := by
  have hk : Kp (fun q => q = gy) wx (wx.setCell ⟨gy, j, none⟩ v) := (Kp.refl _ _).setCell _ _ (fun _ => rfl)
  have hg := h.g
  exact ⟨⟨h.e.b.trans (hk.below h.e.b.size (fun k e => by omega)), blk_other j _ h.e.p (by omega), blk_other j _ h.e.q (by omega)⟩, blk_other j _ h.x (by omega), blk_set j _ h.y, hg⟩
theorem E4.mk2 {w wx : World} {ca cb : Array Value} (h : E2 w wx ca cb) : E4 w (((((wx.alloc (.cells zv 30)).setRow wx.heap.size ca)).alloc (.cells zv 30)).setRow (((wx.alloc (.cells zv 30)).setRow wx.heap.size ca)).heap.size cb) ca cb wx.heap.size (((wx.alloc (.cells zv 30)).setRow wx.heap.size ca)).heap.size ca cb := by
  have i1 := itm_mk wx ca
  have i2 := itm_mk ((wx.alloc (.cells zv 30)).setRow wx.heap.size ca) cb
  have hq := blk_lt h.q
  have hz := i1.z
  exact ⟨(h.next i1.b).next i2.b, (i2.b.block _ (blk_lt i1.r)).trans i1.r, i2.r, by omega, by omega⟩
def EqlR (a : Tv) : Prop := ∀ (b : Tv) (R : Bool), (R = true ↔ Teq a b) → Trk a → Trk b → tmuch a ≤ 100000 → tmuch b ≤ 100000 → ∀ (w : World) (ca cb : Array Value), Tin w a ca → Tin w b cb → Calls Tryd.prog 17 #[.agg ca, .agg cb] w fun e w' => e = .returned (.bool R) ∧ Below w.heap.size w w'
set_option maxRecDepth 1000000 in
set_option maxHeartbeats 4000000 in
theorem equalR_rest (a : Tv) (ih : ∀ u ∈ a.is, EqlR u) (b : Tv) (h9 : a.k ≠ 9 ∨ b.k ≠ 9) (R : Bool) (hR : R = true ↔ Teq a b) (ka : Trk a) (kb : Trk b) (ma : tmuch a ≤ 100000) (mb : tmuch b ≤ 100000) (w : World) (ca cb : Array Value) (ha : Tin w a ca) (hb : Tin w b cb) : Calls Tryd.prog 17 #[.agg ca, .agg cb] w fun e w' => e = .returned (.bool R) ∧ Below w.heap.size w w' := by
  have HIH := hide ih
  have HR : Hid (R = true ↔ a.is.length = b.is.length ∧ a.wi [] = b.wi [] ∧ ∀ (i : Nat) (u v : Tv), a.is[i]? = some u → b.is[i]? = some v → Teq u v) := hR.trans (teq_rest_iff ka kb h9)
  have HKA := hide ka.i
  have HKB := hide kb.i
  have e1 := tmuch_eq a
  have e2 := tmuch_eq b
  have HMA : Hid (tmuchL a.is ≤ 100000 ∧ tmuchL b.is ≤ 100000) := ⟨by omega, by omega⟩
  have HSA := hide ha.size13
  have HSB := hide hb.size13
  have HA1 := hide ha.all1
  have HA2 := hide hb.all1
  clear ih hR ka kb ma mb e1 e2
  obtain ⟨vy, vk, vi, rfl, hy, hk, hv, hbd⟩ := ha.parts
  obtain ⟨⟨ai, ci, rfl, _, hfa⟩, hma⟩ := hv
  obtain ⟨vy2, vk2, vi2, rfl, hy2, hk2, hv2, hbd2⟩ := hb.parts
  obtain ⟨⟨bi, cj, rfl, _, hfb⟩, hmb⟩ := hv2
  have HFA := hide hfa
  have HFB := hide hfb
  have HXA : Hid (∀ wx, Below w.heap.size w wx → Tin wx (a.wi []) ((vcs a vy vk (.slice ai a.is.length ci)).setIfInBounds 12 (.slice none 0 0))) := fun wx hx => Tin.of (t := a.wi []) (hy.move (keep_below hx)) (hk.move (keep_below hx)) ⟨⟨none, 0, rfl, ⟨by simp [Tv.wi, Tv.is], fun _ => rfl⟩, .inl rfl⟩, by simp [Tv.wi, Tv.is]⟩ ⟨hbd.n, hbd.b, hbd.s, hbd.y, hbd.l, hbd.d⟩
  have HXB : Hid (∀ wx, Below w.heap.size w wx → Tin wx (b.wi []) ((vcs b vy2 vk2 (.slice bi b.is.length cj)).setIfInBounds 12 (.slice none 0 0))) := fun wx hx => Tin.of (t := b.wi []) (hy2.move (keep_below hx)) (hk2.move (keep_below hx)) ⟨⟨none, 0, rfl, ⟨by simp [Tv.wi, Tv.is], fun _ => rfl⟩, .inl rfl⟩, by simp [Tv.wi, Tv.is]⟩ ⟨hbd2.n, hbd2.b, hbd2.s, hbd2.y, hbd2.l, hbd2.d⟩
  have HC0 : Hid ((vcs a vy vk (.slice ai a.is.length ci))[0]? = some (.int .i64 a.k) ∧ (vcs b vy2 vk2 (.slice bi b.is.length cj))[0]? = some (.int .i64 b.k)) := ⟨rfl, rfl⟩
  have HC12 : Hid ((vcs a vy vk (.slice ai a.is.length ci))[12]? = some (.slice ai a.is.length ci) ∧ (vcs b vy2 vk2 (.slice bi b.is.length cj))[12]? = some (.slice bi b.is.length cj)) := ⟨rfl, rfl⟩
  generalize vcs a vy vk (.slice ai a.is.length ci) = ca at *
  generalize vcs b vy2 vk2 (.slice bi b.is.length cj) = cb at *
  clear ha hb hy hk hfa hbd hy2 hk2 hfb hbd2
  have HQ1 := hide (E2.start w ca cb)
  have q0 := blk_cell (j := 0) HQ1.out.p HC0.out.1
  have q1 := blk_cell (j := 0) HQ1.out.q HC0.out.2
  go_enter Tryd.func17, Tryd.ntmps17
  go_upto_region 1 with fail
  generalize (w.alloc (.cells ca 30)).alloc (.cells cb 30) = w1 at *
  go_cut [18] from 11 to 17 (fun xx wx => xx = .bool true ∧ wx = w1)
  case first => as_aux_lemma =>
    rcases Bool.eq_false_or_eq_true (a.k != 9) with g8 | g8
    · as_aux_lemma =>
      go_wp2_with fail
      go_meet
      case rel => exact ⟨rfl, rfl⟩
    · as_aux_lemma =>
      have g9 : (b.k != 9) = true := by
        rcases h9 with h9 | h9
        · simp at g8
          exact absurd g8 h9
        · simpa using h9
      go_wp2_with fail
      go_meet
      case rel => exact ⟨rfl, rfl⟩
  case rest =>
    obtain ⟨rfl, hww⟩ := hcut
    have hww := hww.symm
    subst hww
    clear h9 q0 q1
    have q2 := blk_cell (j := 12) HQ1.out.p HC12.out.1
    have q3 := blk_cell (j := 12) HQ1.out.q HC12.out.2
    by_cases hl : a.is.length = b.is.length
    case neg => as_aux_lemma =>
      have HF : Hid (R = false) := r_no HR.out (fun h => hl h.1)
      have g0 : ((a.is.length : Int) != (b.is.length : Int)) = true := by rw [nat_ne]; simp [hl]
      clear hl
      go_wp2_with fail
      go_ret
      exact ⟨by rw [HF.out]; rfl, HQ1.out.b⟩
    have g0 : ((a.is.length : Int) != (b.is.length : Int)) = false := by rw [nat_ne]; simp [hl]
    have HL := hide hl
    clear hl
    have HV1 : Hid (∀ j u, ca[j]? = some u → w1.cell? ⟨w.heap.size, 0 + j, none⟩ = some u) := fun j u hu => by rw [Nat.zero_add]; exact blk_cell HQ1.out.p hu
    have HG1 := hide (heap_alloc_new w1 (.cells zv 30))
    have HIN : Hid ((Tryd.prog.info? 30).map (·.size) = some ca.size) := by show _ = _; rw [HSA.out]; exact infoV
    have HZV : Hid (zv.size = ca.size) := by show _ = _; rw [HSA.out]; rfl
    have HIN2 : Hid ((Tryd.prog.info? 30).map (·.size) = some cb.size) := by show _ = _; rw [HSB.out]; exact infoV
    have HZV2 : Hid (zv.size = cb.size) := by show _ = _; rw [HSB.out]; rfl
    have HQA := hide (HQ1.out.next (itm_mk w1 ca).b)
    have HV2 : Hid (∀ j u, cb[j]? = some u → ((w1.alloc (.cells zv 30)).setRow w1.heap.size ca).cell? ⟨w.heap.size + 1, 0 + j, none⟩ = some u) := fun j u hu => by rw [Nat.zero_add]; exact blk_cell HQA.out.q hu
    have HQB : Hid (E4 w (((((w1.alloc (.cells zv 30)).setRow w1.heap.size ca)).alloc (.cells zv 30)).setRow (w1.heap.size + 1) cb) ca cb w1.heap.size (w1.heap.size + 1) ca cb) := by
      have h := E4.mk2 HQ1.out
      rw [(itm_mk w1 ca).z] at h
      exact h
    have HG2 : Hid ((((w1.alloc (.cells zv 30)).setRow w1.heap.size ca).alloc (.cells zv 30)).heap[w1.heap.size + 1]? = some (.cells zv 30 (0, 0))) := by
      have h := heap_alloc_new ((w1.alloc (.cells zv 30)).setRow w1.heap.size ca) (.cells zv 30)
      rw [(itm_mk w1 ca).z] at h
      exact h
    go_upto_region 6 with (first
      | (refine wpList_valAt rfl rfl w.heap.size 0 ca rfl HSA.out HV1.out ?_)
      | (refine wpList_storeRow rfl rfl w1.heap.size zv ca 30 rfl rfl HG1.out HIN.out HZV.out HA1.out ?_)
      | (refine wpList_valAt rfl rfl (w.heap.size + 1) 0 cb rfl HSB.out HV2.out ?_)
      | (refine wpList_storeRow rfl rfl (w1.heap.size + 1) zv cb 30 rfl rfl HG2.out HIN2.out HZV2.out HA2.out ?_))
    clear HG1 HG2 HIN HIN2 HZV HZV2 HV1 HV2 HQA q2 q3 HA1 HA2
    unfold zv at HQB
    generalize ((((w1.alloc (.cells #[.int .i64 0, .bool false, .bool false, .int .u64 0, .int .u64 0, .string ⟨#[]⟩, .slice none 0 0, .int .i64 0, .int .u64 0, .int .u64 0, .string ⟨#[]⟩, .slice none 0 0, .slice none 0 0] 30)).setRow w1.heap.size ca)).alloc (.cells #[.int .i64 0, .bool false, .bool false, .int .u64 0, .int .u64 0, .string ⟨#[]⟩, .slice none 0 0, .int .i64 0, .int .u64 0, .int .u64 0, .string ⟨#[]⟩, .slice none 0 0, .slice none 0 0] 30)).setRow (w1.heap.size + 1) cb = w2 at *
    clear HQ1
    generalize w1.heap.size + 1 = gy at *
    generalize w1.heap.size = gx at *
    have HQC := hide (HQB.out.setx 12 (.slice none 0 0))
    have HQD := hide (HQC.out.sety 12 (.slice none 0 0))
    have c1 := blk_cell (j := 12) HQB.out.x HC12.out.1
    have c2 := blk_cell (j := 12) HQC.out.y HC12.out.2
    have f1 := blk_frozen 12 HQB.out.x
    have f2 := blk_frozen 12 HQC.out.y
    have HS1 : Hid ((ca.setIfInBounds 12 (.slice none 0 0)).size = 13) := by show _ = _; rw [Array.size_setIfInBounds]; exact HSA.out
    have HS2 : Hid ((cb.setIfInBounds 12 (.slice none 0 0)).size = 13) := by show _ = _; rw [Array.size_setIfInBounds]; exact HSB.out
    have HV3 : Hid (∀ j u, (ca.setIfInBounds 12 (.slice none 0 0))[j]? = some u → ((w2.setCell ⟨gx, 12, none⟩ (.slice none 0 0)).setCell ⟨gy, 12, none⟩ (.slice none 0 0)).cell? ⟨gx, 0 + j, none⟩ = some u) := fun j u hu => by rw [Nat.zero_add]; exact blk_cell HQD.out.x hu
    have HV4 : Hid (∀ j u, (cb.setIfInBounds 12 (.slice none 0 0))[j]? = some u → ((w2.setCell ⟨gx, 12, none⟩ (.slice none 0 0)).setCell ⟨gy, 12, none⟩ (.slice none 0 0)).cell? ⟨gy, 0 + j, none⟩ = some u) := fun j u hu => by rw [Nat.zero_add]; exact blk_cell HQD.out.y hu
    go_wp2_with (first
      | (refine wpList_valAt rfl rfl gx 0 (ca.setIfInBounds 12 (.slice none 0 0)) rfl HS1.out HV3.out ?_)
      | (refine wpList_valAt rfl rfl gy 0 (cb.setIfInBounds 12 (.slice none 0 0)) rfl HS2.out HV4.out ?_))
    generalize (w2.setCell ⟨gx, 12, none⟩ (.slice none 0 0)).setCell ⟨gy, 12, none⟩ (.slice none 0 0) = w3 at *
    have HQE := hide HQD.out.e
    clear HQB HQC HQD HV3 HV4 c1 c2 f1 f2 w2
    obtain ⟨r, hr⟩ := bool_of (a.wi [] = b.wi [])
    refine (eqValue_any (a.wi []) (b.wi []) r hr w3 _ _ (HXA.out w3 HQE.out.b) (HXB.out w3 HQE.out.b)).mono ?_
    rintro e w4 ⟨rfl, hb4⟩
    have HQ4 := hide (HQE.out.next hb4)
    clear hb4 HQE HXA HXB HS1 HS2
    rcases Bool.eq_false_or_eq_true r with hr1 | hr1
    case inr => as_aux_lemma =>
      have HF : Hid (R = false) := r_no HR.out (fun h => by have := hr.2 h.2.1; rw [hr1] at this; cases this)
      rw [hr1]
      clear hr hr1
      go_wp2_with fail
      go_ret
      exact ⟨by rw [HF.out]; rfl, HQ4.out.b⟩
    have HW := hide (hr.1 hr1)
    rw [hr1]
    clear hr hr1
    go_wp2_with fail
    go_loopw [7] (fun ii wx => ∃ i : Nat, i ≤ a.is.length ∧ ii = .int .i64 (i : Nat) ∧ Hid (∀ (j : Nat) (u v : Tv), j < i → a.is[j]? = some u → b.is[j]? = some v → Teq u v) ∧ Hid (E2 w wx ca cb)) (fun ii _ => a.is.length - (intOf ii).toNat)
    case atStart => exact ⟨0, by omega, rfl, fun j u v hj => absurd hj (by omega), HQ4⟩
    case round =>
      obtain ⟨i, hi, rfl, HI, HQ⟩ := hrel
      clear HQ4
      have p1 := blk_cell (j := 12) HQ.out.p HC12.out.1
      by_cases hlt : i < a.is.length
      · have g1 : (i : Int) < (a.is.length : Int) := by omega
        have hlt2 : i < b.is.length := by rw [← HL.out]; exact hlt
        have g2 : (i : Int) < (b.is.length : Int) := by omega
        obtain ⟨u, hu⟩ : ∃ u, a.is[i]? = some u := ⟨a.is[i], List.getElem?_eq_getElem hlt⟩
        obtain ⟨v, hv⟩ : ∃ v, b.is[i]? = some v := ⟨b.is[i], List.getElem?_eq_getElem hlt2⟩
        obtain ⟨b1, o1, rfl, hc1⟩ := HFA.out.resolve_left (fun h => by rw [h] at hlt; simp at hlt)
        obtain ⟨b2, o2, rfl, hc2⟩ := HFB.out.resolve_left (fun h => by rw [h] at hlt2; simp at hlt2)
        obtain ⟨cu, tu, hcu⟩ := hc1 i u hu
        obtain ⟨cv, tv, hcv⟩ := hc2 i v hv
        obtain ⟨r, hr⟩ := bool_of (Teq u v)
        have hub := tmuchL_mem (List.mem_of_getElem? hu)
        have hvb := tmuchL_mem (List.mem_of_getElem? hv)
        have HCE : Hid (∀ t : Ext wr, Calls Tryd.prog 17 #[.agg cu, .agg cv] t.w' fun e w'' => e = .returned (.bool r) ∧ ∃ t' : Ext wr, w'' = t'.w') := fun t => Calls.ext_below (HIH.out u (List.mem_of_getElem? hu) v r hr (HKA.out u (List.mem_of_getElem? hu)) (HKB.out v (List.mem_of_getElem? hv)) (by have := HMA.out; omega) (by have := HMA.out; omega) t.w' cu cv (tu.move (fun p x hx => keep_below t.h _ _ (keep_below HQ.out.b _ _ hx))) (tv.move (fun p x hx => keep_below t.h _ _ (keep_below HQ.out.b _ _ hx))))
        have HQ1 : Hid (∀ wx, (∃ t : Ext wr, wx = t.w') → ∀ j x, cu[j]? = some x → wx.cell? ⟨b1, o1 + i * 13 + j, none⟩ = some x) := by
          rintro _ ⟨t, rfl⟩ j x hx
          exact keep_below t.h _ _ (keep_below HQ.out.b _ _ (hcu j x hx))
        have HQ2 : Hid (∀ wx, (∃ t : Ext wr, wx = t.w') → ∀ j x, cv[j]? = some x → wx.cell? ⟨b2, o2 + i * 13 + j, none⟩ = some x) := by
          rintro _ ⟨t, rfl⟩ j x hx
          exact keep_below t.h _ _ (keep_below HQ.out.b _ _ (hcv j x hx))
        have z1 : ∀ t : Ext wr, t.w'.cell? ⟨w.heap.size, 12, none⟩ = some (.slice (some ⟨b1, o1, none⟩) a.is.length ci) := fun t => Ext.cell (blk_cell (j := 12) HQ.out.p HC12.out.1) t
        have z2 : ∀ t : Ext wr, t.w'.cell? ⟨w.heap.size + 1, 12, none⟩ = some (.slice (some ⟨b2, o2, none⟩) b.is.length cj) := fun t => Ext.cell (blk_cell (j := 12) HQ.out.q HC12.out.2) t
        have HZU := hide tu.size13
        have HZW := hide tv.size13
        have HRR := hide hr
        have HU := hide hu
        have HVV := hide hv
        clear hc1 hc2 hcu hcv tu tv hub hvb hr hu hv
        go_wp2_with fail
        refine region_ext (by kernel_rfl) (by kernel_rfl) ?_
        repeat (
          with_reducible refine wpQuiet_step (fun K hK => ?_)
          first
            | (refine qstep_valAt rfl rfl b1 (o1 + i * 13) cu HZU.out rfl HQ1.out (hK _ ?_); clear hK K)
            | (refine qstep_valAt rfl rfl b2 (o2 + i * 13) cv HZW.out rfl HQ2.out (hK _ ?_); clear hK K)
            | (go_simp
               first
                 | (with_reducible refine hK _ ?_; clear hK K)
                 | (apply Exists.intro
                    refine ⟨fun _ => ?_, hK _ ?_⟩
                    (go_at_call 17; exact HCE.out _)
                    clear hK K)))
        refine wpQuiet_nil ?_
        rintro _ ⟨tq, rfl⟩
        have HQN := hide (HQ.out.next tq.h)
        clear HCE HQ1 HQ2 z1 z2 HQ p1
        generalize tq.w' = w6 at *
        clear tq
        rcases Bool.eq_false_or_eq_true r with hr1 | hr1
        · as_aux_lemma =>
          have HI2 : Hid (∀ (j : Nat) (x y : Tv), j < i + 1 → a.is[j]? = some x → b.is[j]? = some y → Teq x y) := fun j x y hj hx hy => by
            by_cases hji : j = i
            · subst hji
              rw [HU.out] at hx
              rw [HVV.out] at hy
              injection hx with hx
              injection hy with hy
              subst hx hy
              exact HRR.out.1 hr1
            · exact HI.out j x y (by omega) hx hy
          rw [hr1]
          clear hr1 HI
          go_wp2_with fail
          go_roundw
          case rel => exact ⟨i + 1, by omega, by go_num, HI2, HQN⟩
          case measure => simp [intOf]; omega
        · as_aux_lemma =>
          have HF : Hid (R = false) := r_no HR.out (fun h => by have := HRR.out.2 (h.2.2 i u v HU.out HVV.out); rw [hr1] at this; cases this)
          rw [hr1]
          clear hr1 HI
          go_wp2_with fail
          go_ret
          exact ⟨by rw [HF.out]; rfl, HQN.out.b⟩
      · as_aux_lemma =>
        have g1 : ¬ (i : Int) < (a.is.length : Int) := by omega
        have HF : Hid (R = true) := HR.out.2 ⟨HL.out, HW.out, fun j u v hu hv => HI.out j u v (by have := (List.getElem?_eq_some_iff.1 hu).1; omega) hu hv⟩
        clear HI
        go_wp2_with fail
        go_ret
        exact ⟨by rw [HF.out]; rfl, HQ.out.b⟩
end
section
open Go.RowKit Go
set_option maxRecDepth 1000000 in
set_option maxHeartbeats 8000000 in
theorem equalR_map (a : Tv) (ih : ∀ u ∈ a.is, EqlR u) (b : Tv) (h9a : a.k = 9) (h9b : b.k = 9) (R : Bool) (hR : R = true ↔ Teq a b) (ka : Trk a) (kb : Trk b) (ma : tmuch a ≤ 100000) (mb : tmuch b ≤ 100000) (w : World) (ca cb : Array Value) (ha : Tin w a ca) (hb : Tin w b cb) : Calls Tryd.prog 17 #[.agg ca, .agg cb] w fun e w' => e = .returned (.bool R) ∧ Below w.heap.size w w' := by
  have HIH := hide ih
  have HR := hide hR
  have HTA := hide ka
  have HTB := hide kb
  have H9 : Hid (a.k = 9 ∧ b.k = 9) := ⟨h9a, h9b⟩
  have hla := (ka.m h9a).1
  have hlb := (kb.m h9b).1
  have e1 := tmuch_eq a
  have e2 := tmuch_eq b
  have HMA : Hid (tmuchL a.is ≤ 100000 ∧ tmuchL b.is ≤ 100000 ∧ a.ks.length ≤ 100000 ∧ b.ks.length ≤ 100000) := ⟨by omega, by omega, by omega, by omega⟩
  have HLL : Hid (a.ks.length = a.is.length ∧ b.ks.length = b.is.length) := ⟨hla, hlb⟩
  have g9a : (a.k != 9) = false := by rw [h9a]; rfl
  have g9b : (b.k != 9) = false := by rw [h9b]; rfl
  clear ih hR ka kb ma mb e1 e2 hla hlb h9a h9b
  obtain ⟨vy, vk, vi, rfl, hy, hk, hv, hbd⟩ := ha.parts
  have HKS := hide hk
  obtain ⟨⟨ak, ck, rfl, _, hka⟩, hmk, _⟩ := hk
  obtain ⟨⟨ai, ci, rfl, _, hfa⟩, hma⟩ := hv
  obtain ⟨vy2, vk2, vi2, rfl, hy2, hk2, hv2, hbd2⟩ := hb.parts
  have HKS2 := hide hk2
  obtain ⟨⟨bk, cl, rfl, _, hkb⟩, hmk2, _⟩ := hk2
  obtain ⟨⟨bi, cj, rfl, _, hfb⟩, hmb⟩ := hv2
  have HFA := hide hfa
  have HFB := hide hfb
  have HGA := hide hka
  have HGB := hide hkb
  have HC0 : Hid ((vcs a vy (.slice ak a.ks.length ck) (.slice ai a.is.length ci))[0]? = some (.int .i64 a.k) ∧ (vcs b vy2 (.slice bk b.ks.length cl) (.slice bi b.is.length cj))[0]? = some (.int .i64 b.k)) := ⟨rfl, rfl⟩
  have HC11 : Hid ((vcs a vy (.slice ak a.ks.length ck) (.slice ai a.is.length ci))[11]? = some (.slice ak a.ks.length ck) ∧ (vcs b vy2 (.slice bk b.ks.length cl) (.slice bi b.is.length cj))[11]? = some (.slice bk b.ks.length cl)) := ⟨rfl, rfl⟩
  have HC12 : Hid ((vcs a vy (.slice ak a.ks.length ck) (.slice ai a.is.length ci))[12]? = some (.slice ai a.is.length ci) ∧ (vcs b vy2 (.slice bk b.ks.length cl) (.slice bi b.is.length cj))[12]? = some (.slice bi b.is.length cj)) := ⟨rfl, rfl⟩
  generalize vcs a vy (.slice ak a.ks.length ck) (.slice ai a.is.length ci) = ca at *
  generalize vcs b vy2 (.slice bk b.ks.length cl) (.slice bi b.is.length cj) = cb at *
  clear ha hb hy hka hfa hbd hy2 hkb hfb hbd2
  have HQ1 := hide (E2.start w ca cb)
  have q0 := blk_cell (j := 0) HQ1.out.p HC0.out.1
  have q1 := blk_cell (j := 0) HQ1.out.q HC0.out.2
  have q2 := blk_cell (j := 11) HQ1.out.p HC11.out.1
  have q3 := blk_cell (j := 11) HQ1.out.q HC11.out.2
  go_enter Tryd.func17, Tryd.ntmps17
  go_upto_region 1 with fail
  generalize (w.alloc (.cells ca 30)).alloc (.cells cb 30) = w1 at *
  by_cases hl : a.ks.length = b.ks.length
  case neg => as_aux_lemma =>
    have HF : Hid (R = false) := r_no HR.out (fun h => by
      have sa := pls_srp (t := a) (by have := H9.out; omega)
      have sb := pls_srp (t := b) (by have := H9.out; omega)
      have h1 := ((teq_map HTA.out HTB.out H9.out.1 H9.out.2 sa sb).1 h).1
      have l1 := sa.len
      have l2 := sb.len
      have := HLL.out
      omega)
    have g0 : ((a.ks.length : Int) != (b.ks.length : Int)) = true := by rw [nat_ne]; simp [hl]
    clear hl
    go_wp2_with fail
    go_ret
    exact ⟨by rw [HF.out]; rfl, HQ1.out.b⟩
  have g0 : ((a.ks.length : Int) != (b.ks.length : Int)) = false := by rw [nat_ne]; simp [hl]
  have HL := hide hl
  clear hl
  go_wp2_with fail
  refine (orderR_any a.ks w1 _ (HKS.out.move (keep_below HQ1.out.b)) HMA.out.2.2.1).mono ?_
  rintro e w2 ⟨va, pa, rfl, hsa, hoa, hb2⟩
  have HSA := hide hsa
  have hpa : pa.length ≤ 100000 := by have := hsa.len; have := HMA.out; omega
  have HIA := hide (ISl.own hoa rfl (by omega))
  have HQ2 := hide (HQ1.out.next hb2)
  have r3 := blk_cell (j := 11) HQ2.out.q HC11.out.2
  clear hsa hoa hb2 q0 q1 q2 q3 HQ1
  go_wp2_with fail
  refine (orderR_any b.ks w2 _ (HKS2.out.move (keep_below HQ2.out.b)) HMA.out.2.2.2).mono ?_
  rintro e w3 ⟨vb, pb, rfl, hsb, hob, hb3⟩
  have HSB := hide hsb
  have hpb : pb.length ≤ 100000 := by have := hsb.len; have := HMA.out; omega
  have hib := ISl.own hob rfl (by omega)
  have hia := HIA.out.move (keep_below hb3)
  have HQ3 := hide (HQ2.out.next hb3)
  have HLP : Hid (pa.length = pb.length) := by show _ = _; rw [HSA.out.len, HSB.out.len]; exact HL.out
  have HRM : Hid (R = true ↔ pa.length = pb.length ∧ ∀ (i p q : Nat), pa[i]? = some p → pb[i]? = some q → a.ks.getD p ⟨#[]⟩ = b.ks.getD q ⟨#[]⟩ ∧ ∀ u v, a.is[p]? = some u → b.is[q]? = some v → Teq u v) := HR.out.trans (teq_map HTA.out HTB.out H9.out.1 H9.out.2 (by have h := HSA.out; rw [show min a.ks.length a.is.length = a.ks.length by have := HLL.out; omega]; exact h) (by have h := HSB.out; rw [show min b.ks.length b.is.length = b.ks.length by have := HLL.out; omega]; exact h))
  clear hsb hob hb3 HIA HQ2 r3
  obtain ⟨⟨fa, ga, rfl, _, hca⟩, _⟩ := hia
  obtain ⟨⟨fb, gb, rfl, _, hcb⟩, _⟩ := hib
  have HCA := hide hca
  have HCB := hide hcb
  clear hca hcb
  go_wp2_with fail
  go_loopw [10] (fun ii wx => ∃ i : Nat, i ≤ pa.length ∧ ii = .int .i64 (i : Nat) ∧ Hid (∀ (j p q : Nat), j < i → pa[j]? = some p → pb[j]? = some q → a.ks.getD p ⟨#[]⟩ = b.ks.getD q ⟨#[]⟩ ∧ ∀ u v, a.is[p]? = some u → b.is[q]? = some v → Teq u v) ∧ Hid (E2 w wx ca cb) ∧ Hid (Below w3.heap.size w3 wx)) (fun ii _ => pa.length - (intOf ii).toNat)
  case atStart => exact ⟨0, by omega, rfl, fun j p q hj => absurd hj (by omega), HQ3, Below.refl _ _⟩
  case round =>
    obtain ⟨i, hi, rfl, HI, HQ, HBw⟩ := hrel
    clear HQ3
    by_cases hlt : i < pa.length
    · have g1 : (i : Int) < (pa.length : Int) := by omega
      have hlt2 : i < pb.length := by rw [← HLP.out]; exact hlt
      have g2 : (i : Int) < (pb.length : Int) := by omega
      obtain ⟨p, hp⟩ : ∃ p, pa[i]? = some p := ⟨pa[i], List.getElem?_eq_getElem hlt⟩
      obtain ⟨q, hq⟩ : ∃ q, pb[i]? = some q := ⟨pb[i], List.getElem?_eq_getElem hlt2⟩
      have lp := HSA.out.lt p (List.mem_of_getElem? hp)
      have lq := HSB.out.lt q (List.mem_of_getElem? hq)
      have lp2 : p < a.is.length := by have := HLL.out; omega
      have lq2 : q < b.is.length := by have := HLL.out; omega
      obtain ⟨u, hu⟩ : ∃ u, a.is[p]? = some u := ⟨a.is[p], List.getElem?_eq_getElem lp2⟩
      obtain ⟨v, hv⟩ : ∃ v, b.is[q]? = some v := ⟨b.is[q], List.getElem?_eq_getElem lq2⟩
      obtain ⟨g3, o3, rfl, hd1⟩ := HCA.out.resolve_left (fun h => by rw [h] at hlt; simp at hlt)
      obtain ⟨g4, o4, rfl, hd2⟩ := HCB.out.resolve_left (fun h => by rw [h] at hlt2; simp at hlt2)
      obtain ⟨k1, y1, rfl, hd3⟩ := HGA.out.resolve_left (fun h => by rw [h] at lp; simp at lp)
      obtain ⟨k2, y2, rfl, hd4⟩ := HGB.out.resolve_left (fun h => by rw [h] at lq; simp at lq)
      obtain ⟨i1, x1, rfl, hc1⟩ := HFA.out.resolve_left (fun h => by rw [h] at lp2; simp at lp2)
      obtain ⟨i2, x2, rfl, hc2⟩ := HFB.out.resolve_left (fun h => by rw [h] at lq2; simp at lq2)
      obtain ⟨cu, tu, hcu⟩ := hc1 p u hu
      obtain ⟨cv, tv, hcv⟩ := hc2 q v hv
      obtain ⟨r, hr⟩ := bool_of (Teq u v)
      have hub := tmuchL_mem (List.mem_of_getElem? hu)
      have hvb := tmuchL_mem (List.mem_of_getElem? hv)
      have hkw : ∀ p x, w.cell? p = some x → ∀ t : Ext wr, t.w'.cell? p = some x := fun p x hx t => keep_below t.h _ _ (keep_below HQ.out.b _ _ hx)
      have HCE0 : Hid (∀ t : Ext wr, Calls Tryd.prog 17 #[.agg cu, .agg cv] t.w' fun e w'' => e = .returned (.bool r) ∧ ∃ t' : Ext wr, w'' = t'.w') := fun t => Calls.ext_below (HIH.out u (List.mem_of_getElem? hu) v r hr (HTA.out.i u (List.mem_of_getElem? hu)) (HTB.out.i v (List.mem_of_getElem? hv)) (by have := HMA.out; omega) (by have := HMA.out; omega) t.w' cu cv (tu.move (fun p x hx => hkw p x hx t)) (tv.move (fun p x hx => hkw p x hx t)))
      have HQ1 : Hid (∀ wx, (∃ t : Ext wr, wx = t.w') → ∀ j x, cu[j]? = some x → wx.cell? ⟨i1, x1 + p * 13 + j, none⟩ = some x) := by
        rintro _ ⟨t, rfl⟩ j x hx
        exact hkw _ _ (hcu j x hx) t
      have HQ2 : Hid (∀ wx, (∃ t : Ext wr, wx = t.w') → ∀ j x, cv[j]? = some x → wx.cell? ⟨i2, x2 + q * 13 + j, none⟩ = some x) := by
        rintro _ ⟨t, rfl⟩ j x hx
        exact hkw _ _ (hcv j x hx) t
      have z1 : ∀ t : Ext wr, t.w'.cell? ⟨w.heap.size, 11, none⟩ = some (.slice (some ⟨k1, y1, none⟩) a.ks.length ck) := fun t => Ext.cell (blk_cell (j := 11) HQ.out.p HC11.out.1) t
      have z2 : ∀ t : Ext wr, t.w'.cell? ⟨w.heap.size + 1, 11, none⟩ = some (.slice (some ⟨k2, y2, none⟩) b.ks.length cl) := fun t => Ext.cell (blk_cell (j := 11) HQ.out.q HC11.out.2) t
      have z3 : ∀ t : Ext wr, t.w'.cell? ⟨w.heap.size, 12, none⟩ = some (.slice (some ⟨i1, x1, none⟩) a.is.length ci) := fun t => Ext.cell (blk_cell (j := 12) HQ.out.p HC12.out.1) t
      have z4 : ∀ t : Ext wr, t.w'.cell? ⟨w.heap.size + 1, 12, none⟩ = some (.slice (some ⟨i2, x2, none⟩) b.is.length cj) := fun t => Ext.cell (blk_cell (j := 12) HQ.out.q HC12.out.2) t
      have z5 : ∀ t : Ext wr, t.w'.cell? ⟨g3, o3 + i, none⟩ = some (.int .i64 (p : Nat)) := fun t => Ext.cell (keep_below HBw.out _ _ (hd1 i p hp)) t
      have z6 : ∀ t : Ext wr, t.w'.cell? ⟨g4, o4 + i, none⟩ = some (.int .i64 (q : Nat)) := fun t => Ext.cell (keep_below HBw.out _ _ (hd2 i q hq)) t
      have z7 : ∀ t : Ext wr, t.w'.cell? ⟨k1, y1 + p, none⟩ = some (.string (a.ks.getD p ⟨#[]⟩)) := hkw _ _ (hd3 p _ (by simp [List.getD, List.getElem?_eq_getElem lp]))
      have z8 : ∀ t : Ext wr, t.w'.cell? ⟨k2, y2 + q, none⟩ = some (.string (b.ks.getD q ⟨#[]⟩)) := hkw _ _ (hd4 q _ (by simp [List.getD, List.getElem?_eq_getElem lq]))
      have HBx : Hid (∀ t : Ext wr, Below w3.heap.size w3 t.w') := fun t => HBw.out.trans (t.h.mono HBw.out.size)
      have j1 : (p : Int) < (a.ks.length : Int) := by omega
      have j2 : (q : Int) < (b.ks.length : Int) := by omega
      have j3 : (p : Int) < (a.is.length : Int) := by omega
      have j4 : (q : Int) < (b.is.length : Int) := by omega
      have HZU := hide tu.size13
      have HZW := hide tv.size13
      have HRR := hide hr
      have HU := hide hu
      have HVV := hide hv
      have HPP := hide hp
      have HQQ := hide hq
      clear hc1 hc2 hcu hcv tu tv hub hvb hr hu hv hp hq hd1 hd2 hd3 hd4 hkw lp lq lp2 lq2
      by_cases he : a.ks.getD p ⟨#[]⟩ = b.ks.getD q ⟨#[]⟩
      · have hne : ((a.ks.getD p ⟨#[]⟩).toList == (b.ks.getD q ⟨#[]⟩).toList) = true := by rw [he]; simp
        have hne2 : ((a.ks.getD p ⟨#[]⟩).toList != (b.ks.getD q ⟨#[]⟩).toList) = false := by rw [he]; simp
        have HKE := hide he
        clear he
        rcases Bool.eq_false_or_eq_true r with hr1 | hr1
        · as_aux_lemma =>
          have HCE := HCE0
          rw [hr1] at HCE
          have HI2 : Hid (∀ (j p q : Nat), j < i + 1 → pa[j]? = some p → pb[j]? = some q → a.ks.getD p ⟨#[]⟩ = b.ks.getD q ⟨#[]⟩ ∧ ∀ u v, a.is[p]? = some u → b.is[q]? = some v → Teq u v) := fun j p' q' hj h1 h2 => by
            by_cases hji : j = i
            · subst hji
              rw [HPP.out] at h1
              rw [HQQ.out] at h2
              injection h1 with h1
              injection h2 with h2
              subst h1 h2
              refine ⟨HKE.out, fun x y hx hy => ?_⟩
              rw [HU.out] at hx
              rw [HVV.out] at hy
              injection hx with hx
              injection hy with hy
              subst hx hy
              exact HRR.out.1 hr1
            · exact HI.out j p' q' (by omega) h1 h2
          clear hr1 HI HCE0 HKE HRR HU HVV HPP HQQ
          generalize a.ks.getD p ⟨#[]⟩ = s1 at *
          generalize b.ks.getD q ⟨#[]⟩ = s2 at *
          go_wp2_with fail
          refine region_ext (by kernel_rfl) (by kernel_rfl) ?_
          repeat (
            with_reducible refine wpQuiet_step (fun K hK => ?_)
            first
              | (refine qstep_valAt rfl rfl i1 (x1 + p * 13) cu HZU.out rfl HQ1.out (hK _ ?_); clear hK K)
              | (refine qstep_valAt rfl rfl i2 (x2 + q * 13) cv HZW.out rfl HQ2.out (hK _ ?_); clear hK K)
              | (go_simp
                 first
                   | (with_reducible refine hK _ ?_; clear hK K)
                   | (rw [if_neg (by decide)]; with_reducible refine hK _ ?_; clear hK K)
                   | (apply Exists.intro
                      refine ⟨fun _ => ?_, hK _ ?_⟩
                      (go_at_call 17; exact HCE.out _)
                      clear hK K)))
          refine wpQuiet_nil ?_
          rintro _ ⟨tq, rfl⟩
          have HQN := hide (HQ.out.next tq.h)
          have HBN := hide (HBx.out tq)
          clear HBx HCE HQ1 HQ2 z1 z2 z3 z4 z5 z6 z7 z8 HQ HBw
          generalize tq.w' = w6 at *
          clear tq
          go_wp2_with fail
          go_roundw
          case rel => exact ⟨i + 1, by omega, by go_num, HI2, HQN, HBN⟩
          case measure => simp [intOf]; omega
        · as_aux_lemma =>
          have HCE := HCE0
          rw [hr1] at HCE
          have HF : Hid (R = false) := r_no HRM.out (fun h => by have := HRR.out.2 ((h.2 i p q HPP.out HQQ.out).2 u v HU.out HVV.out); rw [hr1] at this; cases this)
          clear hr1 HI HCE0 HKE HRR HU HVV HPP HQQ HRM HR
          generalize a.ks.getD p ⟨#[]⟩ = s1 at *
          generalize b.ks.getD q ⟨#[]⟩ = s2 at *
          go_wp2_with fail
          refine region_ext (by kernel_rfl) (by kernel_rfl) ?_
          repeat (
            with_reducible refine wpQuiet_step (fun K hK => ?_)
            first
              | (refine qstep_valAt rfl rfl i1 (x1 + p * 13) cu HZU.out rfl HQ1.out (hK _ ?_); clear hK K)
              | (refine qstep_valAt rfl rfl i2 (x2 + q * 13) cv HZW.out rfl HQ2.out (hK _ ?_); clear hK K)
              | (go_simp
                 first
                   | (with_reducible refine hK _ ?_; clear hK K)
                   | (rw [if_neg (by decide)]; with_reducible refine hK _ ?_; clear hK K)
                   | (apply Exists.intro
                      refine ⟨fun _ => ?_, hK _ ?_⟩
                      (go_at_call 17; exact HCE.out _)
                      clear hK K)))
          refine wpQuiet_nil ?_
          rintro _ ⟨tq, rfl⟩
          have HQN := hide (HQ.out.next tq.h)
          have HBN := hide (HBx.out tq)
          clear HBx HCE HQ1 HQ2 z1 z2 z3 z4 z5 z6 z7 z8 HQ HBw
          generalize tq.w' = w6 at *
          clear tq
          go_wp2_with fail
          go_ret
          exact ⟨by rw [HF.out]; rfl, HQN.out.b⟩
      · as_aux_lemma =>
        have hne : ((a.ks.getD p ⟨#[]⟩).toList == (b.ks.getD q ⟨#[]⟩).toList) = false := str_beq_no he
        have hne2 : ((a.ks.getD p ⟨#[]⟩).toList != (b.ks.getD q ⟨#[]⟩).toList) = true := by rw [bne, hne]; rfl
        have HF : Hid (R = false) := r_no HRM.out (fun h => he (h.2 i p q HPP.out HQQ.out).1)
        have HCE := HCE0
        clear he HI HCE0 HRR HU HVV HPP HQQ HRM HR
        generalize a.ks.getD p ⟨#[]⟩ = s1 at *
        generalize b.ks.getD q ⟨#[]⟩ = s2 at *
        go_wp2_with fail
        refine region_ext (by kernel_rfl) (by kernel_rfl) ?_
        repeat (
          with_reducible refine wpQuiet_step (fun K hK => ?_)
          first
            | (refine qstep_valAt rfl rfl i1 (x1 + p * 13) cu HZU.out rfl HQ1.out (hK _ ?_); clear hK K)
            | (refine qstep_valAt rfl rfl i2 (x2 + q * 13) cv HZW.out rfl HQ2.out (hK _ ?_); clear hK K)
            | (go_simp
               first
                 | (with_reducible refine hK _ ?_; clear hK K)
                 | (rw [if_neg (by decide)]; with_reducible refine hK _ ?_; clear hK K)
                 | (apply Exists.intro
                    refine ⟨fun _ => ?_, hK _ ?_⟩
                    (go_at_call 17; exact HCE.out _)
                    clear hK K)))
        refine wpQuiet_nil ?_
        rintro _ ⟨tq, rfl⟩
        have HQN := hide (HQ.out.next tq.h)
        have HBN := hide (HBx.out tq)
        clear HBx HCE HQ1 HQ2 z1 z2 z3 z4 z5 z6 z7 z8 HQ HBw
        generalize tq.w' = w6 at *
        clear tq
        go_wp2_with fail
        go_ret
        exact ⟨by rw [HF.out]; rfl, HQN.out.b⟩
    · as_aux_lemma =>
      have g1 : ¬ (i : Int) < (pa.length : Int) := by omega
      have HF : Hid (R = true) := HRM.out.2 ⟨HLP.out, fun j p q h1 h2 => HI.out j p q (by have := (List.getElem?_eq_some_iff.1 h1).1; omega) h1 h2⟩
      clear HI
      go_wp2_with fail
      go_ret
      exact ⟨by rw [HF.out]; rfl, HQ.out.b⟩
theorem equalR_any (a : Tv) : EqlR a := by
  have h : ∀ N, ∀ t : Tv, SizeOf.sizeOf t = N → EqlR t := by
    intro N
    induction N using Nat.strongRecOn with
    | _ N ih =>
      intro t hN b R hR ka kb ma mb w ca cb ha hb
      have ih2 : ∀ u ∈ t.is, EqlR u := fun u hu => ih _ (by rw [← hN]; exact Tv.is_lt hu) u rfl
      by_cases h9 : t.k = 9 ∧ b.k = 9
      · exact equalR_map t ih2 b h9.1 h9.2 R hR ka kb ma mb w ca cb ha hb
      · refine equalR_rest t ih2 b ?_ R hR ka kb ma mb w ca cb ha hb
        by_cases h : t.k = 9
        · exact .inr (fun h2 => h9 ⟨h, h2⟩)
        · exact .inl h
  exact h _ a rfl
end
section
open Go.RowKit Go
/-- The values that pass. -/
def tre (is : List Tv) : List Tv := is.filter fun u => chkf u 0 == 0
theorem tre_take {is : List Tv} {i : Nat} {u : Tv} (hu : is[i]? = some u) : tre (is.take (i + 1)) = tre (is.take i) ++ (if chkf u 0 = 0 then [u] else []) := by
  rw [takeT _ _ _ hu]
  unfold tre
  rw [List.filter_append]
  congr 1
  by_cases h : chkf u 0 = 0
  · simp [h]
  · simp [h]
/-- Values in a row of their own, what they point to elsewhere. -/
structure Trw (w0 wx : World) (B : Nat) (v : Value) (ms : List Tv) (L : List (Array Value)) : Prop where
  o : wx.ownsRow B 30 13 v L.length (vfl L)
  n : L.length = ms.length
  h : ∀ c ∈ L, c.size = 13
  t : ∀ (i : Nat) (u : Tv) (c : Array Value), ms[i]? = some u → L[i]? = some c → Tin w0 u c
theorem Trw.next {w0 wx wy : World} {B : Nat} {v : Value} {ms : List Tv} {L : List (Array Value)} (h : Trw w0 wx B v ms L) (hb : Below wx.heap.size wx wy) : Trw w0 wy B v ms L :=
  ⟨(Kp.of_below (S := fun _ => False) hb).owns h.o (fun _ _ e => e), h.n, h.h, h.t⟩
theorem Trw.vsl {w0 wx : World} {B : Nat} {v : Value} {ms : List Tv} {L : List (Array Value)} (h : Trw w0 wx B v ms L) (hb : Below w0.heap.size w0 wx) (hl : ms.length ≤ 140737488351232) : VSl wx v ms := by
  have hn := h.n
  rcases id h.o.2 with ⟨e, h0⟩ | ⟨g, cap, cur, e, _, _, h1, _⟩
  · subst e
    have e2 : ms = [] := List.length_eq_zero_iff.1 (by omega)
    subst e2
    exact ⟨⟨none, 0, rfl, ⟨by simp, fun _ => rfl⟩, .inl rfl⟩, hl⟩
  · subst e
    refine ⟨⟨_, cap, by rw [hn], ⟨by omega, fun h => by cases h⟩, .inr ⟨g, 0, rfl, fun i u hu => ?_⟩⟩, hl⟩
    have hil := (List.getElem?_eq_some_iff.1 hu).1
    have hc : L[i]? = some (L[i]'(by omega)) := List.getElem?_eq_getElem (by omega)
    refine ⟨_, (h.t i u _ hu hc).move (keep_below hb), fun j v hj => ?_⟩
    rw [Nat.zero_add]
    exact own_val h.o h.h hc j v hj
theorem Trw.snoc {w0 wx wy : World} {B : Nat} {v v2 : Value} {ms : List Tv} {L : List (Array Value)} {u : Tv} {c : Array Value} (h : Trw w0 wx B v ms L) (ho : wy.ownsRow B 30 13 v2 (L.length + 1) (vfl L ++ c.toList)) (hc : c.size = 13) (hu : Tin w0 u c) : Trw w0 wy B v2 (ms ++ [u]) (L ++ [c]) := by
  refine ⟨?_, by simp [h.n], ?_, ?_⟩
  · rw [List.length_append, vfl_app]
    have e : vfl [c] = c.toList := by simp [vfl]
    rw [e]
    exact ho
  · intro d hd
    rcases List.mem_append.1 hd with hd | hd
    · exact h.h d hd
    · rw [List.mem_singleton.1 hd]
      exact hc
  · intro i x d hx hd
    have hn := h.n
    rcases Nat.lt_or_ge i ms.length with h1 | h1
    · rw [List.getElem?_append_left h1] at hx
      rw [List.getElem?_append_left (by omega)] at hd
      exact h.t i x d hx hd
    · rw [List.getElem?_append_right h1] at hx
      rw [List.getElem?_append_right (by omega)] at hd
      have e1 := (List.getElem?_eq_some_iff.1 hx).1
      simp at e1
      have e2 : i - ms.length = 0 := by omega
      have e3 : i - L.length = 0 := by omega
      rw [e2] at hx
      rw [e3] at hd
      simp at hx hd
      rw [← hx, ← hd]
      exact hu
set_option maxRecDepth 1000000 in
set_option maxHeartbeats 2000000 in
theorem trees_any (w : World) (vL : Value) (is : List Tv) (hv : VSl w vL is) (hm : tmuchL is ≤ 100000) : Calls Tryd.prog 15 #[vL] w fun e w' => ∃ v', e = .returned v' ∧ VSl w' v' (tre is) ∧ Below w.heap.size w w' := by
  obtain ⟨⟨a, cap, rfl, _, hform⟩, hmax⟩ := hv
  have HF := hide hform
  have HM := hide hm
  have HLI : Hid (is.length ≤ 100000) := by
    have h := tmuchL_len is
    show _ ≤ _
    omega
  clear hform hm
  go_enter Tryd.func15, Tryd.ntmps15
  go_wp2_with fail
  go_loopw [3, 4] (fun vv ii wx => ∃ (i : Nat) (L : List (Array Value)), i ≤ is.length ∧ ii = .int .i64 (i : Nat) ∧ Hid (Trw w wx w.heap.size vv (tre (is.take i)) L) ∧ Hid (Below w.heap.size w wx)) (fun _ ii _ => is.length - (intOf ii).toNat)
  case atStart => exact ⟨0, [], by omega, rfl, ⟨World.ownsRow_nil _ _ _ _, by simp [tre], by simp, by simp⟩, Below.refl _ _⟩
  case round =>
    rename World => wa
    obtain ⟨i, L, hi, rfl, HL, HWa⟩ := hrel
    obtain ⟨ax, cx, hvx⟩ := own_slice HL.out.o
    subst hvx
    have HLL : Hid (L.length ≤ 100000) := by
      have h1 := HL.out.n
      have h2 : (tre (is.take i)).length ≤ (is.take i).length := List.length_filter_le _ _
      rw [List.length_take] at h2
      have := HLI.out
      show _ ≤ _
      omega
    by_cases hlt : i < is.length
    · have g1 : (i : Int) < (is.length : Int) := by omega
      obtain ⟨u, hu⟩ : ∃ u, is[i]? = some u := ⟨is[i], List.getElem?_eq_getElem hlt⟩
      obtain ⟨b, off, rfl, hcells⟩ := HF.out.resolve_left (fun h => by rw [h] at hlt; simp at hlt)
      obtain ⟨cu, hcu, hcc⟩ := hcells i u hu
      have HTU := hide hcu
      have HCU := hide hcc
      have HMu : Hid (tmuch u ≤ 100000) := Nat.le_trans (tmuchL_mem (List.mem_of_getElem? hu)) HM.out
      have HTT := hide (tre_take hu)
      clear hcells hcu hcc hu HF
      have HSU := hide HTU.out.size13
      have HCA : Hid (∀ k x, cu[k]? = some x → wa.cell? ⟨b, off + i * 13 + k, none⟩ = some x) := fun k x hx => keep_below HWa.out _ _ (HCU.out k x hx)
      go_wp2_with (refine wpList_valAt rfl rfl b (off + i * 13) cu rfl HSU.out HCA.out ?_)
      refine (rcheck_any u wa cu (HTU.out.move (keep_below HWa.out)) HMu.out).mono ?_
      rintro e wb ⟨rfl, hbb⟩
      have HWb : Hid (Below w.heap.size w wb) := HWa.out.trans (hbb.mono HWa.out.size)
      have HLb := hide (HL.out.next hbb)
      clear hbb HL HWa HCA
      by_cases hz : chkf u 0 = 0
      · as_aux_lemma =>
        rw [if_pos hz] at HTT
        rw [hz]
        have HCB : Hid (∀ k x, cu[k]? = some x → wb.cell? ⟨b, off + i * 13 + k, none⟩ = some x) := fun k x hx => keep_below HWb.out _ _ (HCU.out k x hx)
        have HON : Hid (one13 cu) := ⟨HSU.out, fun x hx => by have h := HTU.out.all1; rw [Array.all_eq_true_iff_forall_mem] at h; exact h x (by simpa using hx)⟩
        have HG6 : Hid ((wb.alloc (.cells cu 30)).heap[wb.heap.size]? = some (.cells cu 30 (0, 0))) := heap_alloc_new wb _
        clear hz
        go_wp2_with (first
          | (refine wpList_valAt rfl rfl b (off + i * 13) cu rfl HSU.out HCB.out ?_)
          | (refine wpList_val1 rfl rfl cu HSU.out rfl ?_)
          | (at_builtin; refine append_val rfl _ _ rfl w.heap.size _ L.length (vfl L) rfl (HLb.out.o.alloc _) wb.heap.size cu HON.out rfl HG6.out ?b1 ?b2 ?_))
        case b1 => have := HLL.out; omega
        case b2 => have := HWb.out.size; simp; omega
        intro v2 w2 ho2 hg2 _
        have hb2 : Below w.heap.size w w2 := (HWb.out.alloc (by have := HWb.out.size; omega) _).grown hg2 (by have := HWb.out.size; simp; omega) (fun q hq => (HLb.out.o.lt q hq).1)
        have HL2 : Hid (Trw w w2 w.heap.size v2 (tre (is.take (i + 1))) (L ++ [cu])) := by
          show Trw _ _ _ _ _ _
          rw [HTT.out]
          exact HLb.out.snoc ho2 HSU.out HTU.out
        have HB2 := hide hb2
        clear hg2 ho2 hb2 HCB
        go_wp2_with fail
        go_roundw
        case rel => exact ⟨i + 1, _, by omega, by go_num, HL2, HB2⟩
        case measure => simp [intOf]; omega
      · as_aux_lemma =>
        rw [if_neg hz, List.append_nil] at HTT
        have g2 : ((chkf u 0 : Int) == 0) = false := beq_eq_false_iff_ne.2 (by omega)
        have HL2 : Hid (Trw w wb w.heap.size (.slice ax L.length cx) (tre (is.take (i + 1))) L) := by
          show Trw _ _ _ _ _ _
          rw [HTT.out]
          exact HLb.out
        clear hz
        generalize chkf u 0 = n at *
        go_wp2_with fail
        go_roundw
        case rel => exact ⟨i + 1, L, by omega, by go_num, HL2, HWb⟩
        case measure => simp [intOf]; omega
    · as_aux_lemma =>
      have g1 : ¬ (i : Int) < (is.length : Int) := by omega
      have e1 : i = is.length := by omega
      have HV : Hid (VSl wa (.slice ax L.length cx) (tre is)) := by
        have h := HL.out
        rw [e1, List.take_length] at h
        exact h.vsl HWa.out (by have := h.n; have := HLL.out; omega)
      clear e1
      go_wp2_with fail
      go_ret
      exact ⟨_, rfl, HV.out, HWa.out⟩
end
section
open Go.RowKit Go
/-- Where a key stands first, or -1. -/
def Fnd (ks : List ByteArray) (key : ByteArray) (r : Int) : Prop := (r = -1 ∧ key ∉ ks) ∨ ∃ i : Nat, r = i ∧ ks[i]? = some key ∧ ∀ j s, j < i → ks[j]? = some s → s ≠ key
set_option maxRecDepth 1000000 in
theorem index6_any (w : World) (v : Value) (ks : List ByteArray) (key : ByteArray) (hv : SSl w v ks) : Calls Tryd.prog 59 #[v, .string key] w fun e w' => ∃ r : Int, e = .returned (.int .i64 r) ∧ Fnd ks key r ∧ Below w.heap.size w w' := by
  obtain ⟨⟨a, cap, rfl, _, hc⟩, hmax, _⟩ := hv
  have HC := hide hc
  clear hc
  go_enter Tryd.func59, Tryd.ntmps59
  go_wp2_with fail
  go_loopw [8] (fun ii wx => ∃ i : Nat, i ≤ ks.length ∧ ii = .int .i64 (i : Nat) ∧ Hid (∀ j s, j < i → ks[j]? = some s → s ≠ key) ∧ Hid (Below w.heap.size w wx)) (fun ii _ => ks.length - (intOf ii).toNat)
  case atStart => exact ⟨0, by omega, rfl, fun j s hj => absurd hj (by omega), Below.refl _ _⟩
  case round =>
    obtain ⟨i, hi, rfl, HI, HBw⟩ := hrel
    by_cases hlt : i < ks.length
    · have g1 : (i : Int) < (ks.length : Int) := by omega
      obtain ⟨s, hs⟩ : ∃ s, ks[i]? = some s := ⟨ks[i], List.getElem?_eq_getElem hlt⟩
      obtain ⟨b, off, rfl, hcc⟩ := HC.out.resolve_left (fun h => by rw [h] at hlt; simp at hlt)
      have c1 := keep_below HBw.out _ _ (hcc i s hs)
      clear hcc HC
      by_cases he : key = s
      · as_aux_lemma =>
        have hne : (key.toList == s.toList) = true := by rw [he]; simp
        have HA : Hid (Fnd ks key i) := Or.inr ⟨i, rfl, by rw [hs, he], HI.out⟩
        clear he hs HI
        go_wp2_with fail
        go_ret
        exact ⟨_, rfl, HA.out, HBw.out⟩
      · as_aux_lemma =>
        have hne : (key.toList == s.toList) = false := by have h := str_bne key s; simp [he] at h; exact beq_eq_false_iff_ne.2 h
        have HI2 : Hid (∀ j s, j < i + 1 → ks[j]? = some s → s ≠ key) := fun j s' hj h1 => by
          by_cases hji : j = i
          · subst hji
            rw [hs] at h1
            injection h1 with h1
            rw [← h1]
            exact fun e => he e.symm
          · exact HI.out j s' (by omega) h1
        clear he hs HI
        go_wp2_with fail
        go_roundw
        case rel => exact ⟨i + 1, by omega, by go_num, HI2, HBw⟩
        case measure => simp [intOf]; omega
    · as_aux_lemma =>
      have g1 : ¬ (i : Int) < (ks.length : Int) := by omega
      have HA : Hid (Fnd ks key (-1)) := Or.inl ⟨rfl, fun h => by
        obtain ⟨j, hj⟩ := List.mem_iff_getElem?.1 h
        have := (List.getElem?_eq_some_iff.1 hj).1
        exact HI.out j _ (by omega) hj rfl⟩
      go_wp2_with fail
      go_ret
      exact ⟨_, rfl, HA.out, HBw.out⟩
theorem end_fd {wx : World} {R : Nat} {c : Array Value} {x : Value} {tmps : Array Value} (hn : c.size = 13) (hr : wx.heap[R]? = some (.cells c 30 (0, 0))) (hp : tmps.getD 4 undef = .pointer (some ⟨R, 0, none⟩)) (hx : tmps.getD 5 undef = x) : (results Tryd.f29 tmps).run Tryd.prog wx = .ok (.tuple #[.agg c, x]) wx :=
  end_c2 (fn := Tryd.f29) (p := 4) (q := 5) rfl Tryd.underlying30 infoV hn hr hp hx
/-- What Find answers. -/
def Fdd (t : Tv) (key : ByteArray) (lo : Nat) (e : Ending) (w' : World) : Prop :=
  ∃ r : Int, Fnd t.ks key r ∧ ((∃ (i : Nat) (u : Tv) (c : Array Value), r = i ∧ t.k = 9 ∧ t.is[i]? = some u ∧ e = .returned (.tuple #[.agg c, .bool true]) ∧ Ntv w' lo w'.heap.size u c) ∨ ((t.k ≠ 9 ∨ r < 0 ∨ (t.is.length : Int) ≤ r) ∧ e = .returned (.tuple #[.agg zv, .bool false])))
set_option maxRecDepth 1000000 in
set_option maxHeartbeats 1000000 in
theorem find6_any (t : Tv) (key : ByteArray) (w : World) (cs : Array Value) (ht : Tin w t cs) (hm : tmuch t ≤ 100000) : Calls Tryd.prog 29 #[.agg cs, .string key] w fun e w' => Fdd t key w.heap.size e w' ∧ Below w.heap.size w w' := by
  have hlen : t.is.length ≤ 100000 := by have := tmuch_eq t; have := tmuchL_len t.is; omega
  have HML : Hid (tmuchL t.is ≤ 100000) := by have := tmuch_eq t; show _ ≤ _; omega
  obtain ⟨vy, vk, vi, rfl, hy, hk, hv, hb⟩ := ht.parts
  have HD := hide hb.l.d
  have HK := hide hk
  obtain ⟨⟨a, cap, rfl, _, hform⟩, hmax⟩ := hv
  have HF := hide hform
  have HC0 : Hid ((vcs t vy vk (.slice a t.is.length cap))[0]? = some (.int .i64 t.k)) := rfl
  have HC11 : Hid ((vcs t vy vk (.slice a t.is.length cap))[11]? = some vk) := rfl
  have HC12 : Hid ((vcs t vy vk (.slice a t.is.length cap))[12]? = some (.slice a t.is.length cap)) := rfl
  generalize vcs t vy vk (.slice a t.is.length cap) = cs at *
  clear ht hm hy hk hb hform
  have HW0 := hide (Rm.start w cs)
  have q11 := blk_cell (j := 11) HW0.out.p HC11.out
  unfold zv at HW0 q11
  go_enter Tryd.func29, Tryd.ntmps29
  go_wp2_with fail
  generalize (w.alloc (.cells cs 30)).alloc (.cells #[.int .i64 0, .bool false, .bool false, .int .u64 0, .int .u64 0, .string ⟨#[]⟩, .slice none 0 0, .int .i64 0, .int .u64 0, .int .u64 0, .string ⟨#[]⟩, .slice none 0 0, .slice none 0 0] 30) = w2 at *
  refine (index6_any w2 vk t.ks key (HK.out.move (keep_below HW0.out.b))).mono ?_
  rintro e w3 ⟨r, rfl, hr, hb3⟩
  have HW3 := hide (HW0.out.next hb3)
  have HFD := hide hr
  clear q11 HW0 hb3
  have q0 := blk_cell (j := 0) HW3.out.p HC0.out
  have q12 := blk_cell (j := 12) HW3.out.p HC12.out
  have HR4 := hide HW3.out.r
  have HIZ : Hid ((Tryd.prog.info? 30).map (·.size) = some zv.size) := infoV
  have HAZ : Hid (zv.all (·.oneCell') = true) := by show _ = _; simp [zv, Value.oneCell']
  by_cases hk9 : t.k = 9
  · have g0 : (t.k != 9) = false := by simp [hk9]
    rcases hr with ⟨hr1, hr2⟩ | ⟨i, hr1, hr2, hr3⟩
    · as_aux_lemma =>
      have HN : Hid (∀ w', Fdd t key w.heap.size (.returned (.tuple #[.agg zv, .bool false])) w') := fun w' => ⟨r, HFD.out, Or.inr ⟨Or.inr (Or.inl (by omega)), rfl⟩⟩
      have g1 : r < 0 := by omega
      clear hr1
      clear hr2
      go_wp2_with (refine wpList_storeRow rfl rfl (w.heap.size + 1) zv zv 30 rfl rfl HR4.out HIZ.out rfl HAZ.out ?_)
      have hkr := row_kp w3 (w.heap.size + 1) zv
      exact bodyPost_ret (end_fd rfl (row_same HR4.out) rfl rfl) rfl ⟨HN.out _, HW3.out.b.trans (hkr.below HW3.out.b.size (fun q e => by omega))⟩
    · by_cases hlt : i < t.is.length
      · as_aux_lemma =>
        subst hr1
        have g1 : ¬ (i : Int) < 0 := by omega
        have g2 : ¬ (t.is.length : Int) ≤ (i : Int) := by omega
        have g3 : (i : Int) < (t.is.length : Int) := by omega
        obtain ⟨u, hu⟩ : ∃ u, t.is[i]? = some u := ⟨t.is[i], List.getElem?_eq_getElem hlt⟩
        obtain ⟨b, off, rfl, hcells⟩ := HF.out.resolve_left (fun h => by rw [h] at hlt; simp at hlt)
        obtain ⟨cu, hcu, hcc⟩ := hcells i u hu
        have hkb : ∀ p x, w.cell? p = some x → w3.cell? p = some x := keep_below HW3.out.b
        have HCC : Hid (∀ j x, cu[j]? = some x → w3.cell? ⟨b, off + i * 13 + j, none⟩ = some x) := fun j x hx => hkb _ _ (hcc j x hx)
        have hmem := List.mem_of_getElem? hu
        have HSZ := hide hcu.size13
        have HCA := hide (fresh_any u w3 cu (hcu.move hkb) (Nat.le_trans (tmuchL_mem hmem) HML.out))
        have HU := hide hu
        have HK9 := hide hk9
        clear hu hcells hcu hcc hmem hkb hr2 hr3 hk9
        go_wp2_with (refine wpList_valAt rfl rfl b (off + i * 13) cu rfl HSZ.out HCC.out ?_)
        refine HCA.out.mono ?_
        rintro e w4 ⟨c, s, rfl, rfl, hnt, hb4⟩
        have HW4 := hide (HW3.out.next hb4)
        have HZ4 : Hid (w.heap.size + 2 ≤ w3.heap.size) := HW3.out.z
        have HNT := hide hnt
        have HA1 := hide hnt.tin.all1
        have HS1 := hide hnt.size
        have HIN : Hid ((Tryd.prog.info? 30).map (·.size) = some c.size) := by show _ = _; rw [HS1.out]; exact infoV
        have HZV : Hid (zv.size = c.size) := by show _ = _; rw [HS1.out]; rfl
        have HR5 := hide HW4.out.r
        clear hnt hb4 HCA HCC q0 q12
        go_wp2_with (refine wpList_storeRow rfl rfl (w.heap.size + 1) zv c 30 rfl rfl HR5.out HIN.out HZV.out HA1.out ?_)
        have hkr := row_kp w4 (w.heap.size + 1) c
        have hz4 := HZ4.out
        refine bodyPost_ret (end_fd HS1.out (row_same HR5.out) rfl rfl) rfl ⟨⟨(i : Int), HFD.out, Or.inl ⟨i, _, c, rfl, HK9.out, HU.out, rfl, (HNT.out.kp hkr (fun q h1 h2 e => by omega)).mono (by omega) hkr.size⟩⟩, HW4.out.b.trans (hkr.below HW4.out.b.size (fun q e => by omega))⟩
      · as_aux_lemma =>
        subst hr1
        have HN : Hid (∀ w', Fdd t key w.heap.size (.returned (.tuple #[.agg zv, .bool false])) w') := fun w' => ⟨(i : Int), HFD.out, Or.inr ⟨Or.inr (Or.inr (by omega)), rfl⟩⟩
        have g1 : ¬ (i : Int) < 0 := by omega
        have g2 : (t.is.length : Int) ≤ (i : Int) := by omega
        clear hr2 hr3
        go_wp2_with (refine wpList_storeRow rfl rfl (w.heap.size + 1) zv zv 30 rfl rfl HR4.out HIZ.out rfl HAZ.out ?_)
        have hkr := row_kp w3 (w.heap.size + 1) zv
        exact bodyPost_ret (end_fd rfl (row_same HR4.out) rfl rfl) rfl ⟨HN.out _, HW3.out.b.trans (hkr.below HW3.out.b.size (fun q e => by omega))⟩
  · as_aux_lemma =>
    have HN : Hid (∀ w', Fdd t key w.heap.size (.returned (.tuple #[.agg zv, .bool false])) w') := fun w' => ⟨r, HFD.out, Or.inr ⟨Or.inl hk9, rfl⟩⟩
    have g0 : (t.k != 9) = true := by simp [hk9]
    clear hr
    go_wp2_with (refine wpList_storeRow rfl rfl (w.heap.size + 1) zv zv 30 rfl rfl HR4.out HIZ.out rfl HAZ.out ?_)
    have hkr := row_kp w3 (w.heap.size + 1) zv
    exact bodyPost_ret (end_fd rfl (row_same HR4.out) rfl rfl) rfl ⟨HN.out _, HW3.out.b.trans (hkr.below HW3.out.b.size (fun q e => by omega))⟩
end
section
open Go.RowKit Go
/-- What the whole walk of ValueRaw stands on: the argument's own copy. -/
structure Rw (w wx : World) (cs : Array Value) : Prop where
  p : wx.heap[w.heap.size]? = some (.cells cs 52 (0, 0))
  b : Below w.heap.size w wx
theorem Rw.next {w wx wy : World} {cs : Array Value} (h : Rw w wx cs) (hb : Below wx.heap.size wx wy) : Rw w wy cs :=
  ⟨(hb.block _ (blk_lt h.p)).trans h.p, h.b.trans (hb.mono h.b.size)⟩
theorem Rw.start (w : World) (cs : Array Value) : Rw w (w.alloc (.cells cs 52)) cs := ⟨heap_alloc_new w _, below_alloc4 w _⟩
/-- A variable that holds a lent value. -/
structure Vr (wx : World) (g : Nat) (c : Array Value) (u : Tv) : Prop where
  x : wx.heap[g]? = some (.cells c 30 (0, 0))
  l : ∃ lo hi, Ltv wx lo hi u c
theorem Vr.next {wx wy : World} {g : Nat} {c : Array Value} {u : Tv} (h : Vr wx g c u) (hb : Below wx.heap.size wx wy) : Vr wy g c u :=
  ⟨(hb.block _ (blk_lt h.x)).trans h.x, by obtain ⟨lo, hi, hl⟩ := h.l; exact ⟨lo, hi, hl.kept hb⟩⟩
theorem Vr.start {w : World} {lo hi : Nat} {c : Array Value} {u : Tv} (h : Ltv w lo hi u c) : Vr ((w.alloc (.cells zv 30)).setRow w.heap.size c) w.heap.size c u :=
  ⟨(itm_mk w c).r, lo, hi, h.kept (itm_mk w c).b⟩
theorem Vr.size {wx : World} {g : Nat} {c : Array Value} {u : Tv} (h : Vr wx g c u) : c.size = 13 := by obtain ⟨lo, hi, hl⟩ := h.l; exact hl.size
theorem Vr.tin {wx : World} {g : Nat} {c : Array Value} {u : Tv} (h : Vr wx g c u) : Tin wx u c := by obtain ⟨lo, hi, hl⟩ := h.l; exact hl.tin
theorem Vr.cells {wx : World} {g : Nat} {c : Array Value} {u : Tv} (h : Vr wx g c u) : ∀ j x, c[j]? = some x → wx.cell? ⟨g, 0 + j, none⟩ = some x := fun j x hx => by rw [Nat.zero_add]; exact blk_cell h.x hx
theorem exec_valAt {o : Oper} {a : Act} {p : Operand} {g off : Nat} {cs : Array Value} {w : World} (ho : o.op = .load 30 p) (hp : a.eval p = .pointer (some ⟨g, off, none⟩)) (hn : cs.size = 13) (hc : ∀ j u, cs[j]? = some u → w.cell? ⟨g, off + j, none⟩ = some u) : (execOp a.eval o).run Tryd.prog w = .ok (.value (.agg cs)) w := by
  unfold execOp
  have hr := load_val (w := w) g off cs hn hc
  simp only [ho, Sem.run_bind, hp, hr, Result.andThen_ok]
  rfl
theorem wp_storeRow {o : Oper} {a : Act} {K : Act → World → Prop} {Q : Exit → Act → World → Prop} {w : World} {T : TypeId} {p x : Operand} (ho : o.op = .store T p x) (g : Nat) (old cs : Array Value) (t : TypeId)
    (hp : a.eval p = .pointer (some ⟨g, 0, none⟩)) (hx : a.eval x = .agg cs) (hg : w.heap[g]? = some (.cells old t (0, 0))) (hi : (Tryd.prog.info? T).map (·.size) = some cs.size) (hn : old.size = cs.size) (h1 : cs.all (·.oneCell') = true)
    (h : K (a.put o.dst undef) (w.setRow g cs)) : Oper.wp Tryd.prog o a w K Q := by
  unfold Oper.wp execOp
  have hr : (Instr.storeAt T (.pointer (some ⟨g, 0, none⟩)) (.agg cs)).run Tryd.prog w = .ok () (w.setRow g cs) := by
    simp only [Instr.storeAt, Instr.sureAddr, Sem.run_bind, Sem.run_pure, Result.andThen]
    exact run_storeVar_row (P := Tryd.prog) w g t T old cs hg hi hn h1
  simp only [ho, Sem.run_bind, hp, hx, hr, Result.andThen_ok]
  exact h
theorem step_storeRow {ops : Array Oper} {o : Oper} {a : Act} {K : Act → World → Prop} {Q : Exit → Act → World → Prop} {w : World} {T : TypeId} {p x : Operand} (hw : Region.wanted o (yielded ops a.tmps) = true) (ho : o.op = .store T p x) (g : Nat) (old cs : Array Value) (t : TypeId)
    (hp : a.eval p = .pointer (some ⟨g, 0, none⟩)) (hx : a.eval x = .agg cs) (hg : w.heap[g]? = some (.cells old t (0, 0))) (hi : (Tryd.prog.info? T).map (·.size) = some cs.size) (hn : old.size = cs.size) (h1 : cs.all (·.oneCell') = true)
    (h : K (a.put o.dst undef) (w.setRow g cs)) : if Region.wanted o (yielded ops a.tmps) = true then Oper.wp Tryd.prog o a w K Q else K (a.put o.dst undef) w := by
  rw [if_pos hw]
  exact wp_storeRow ho g old cs t hp hx hg hi hn h1 h
theorem tdepthL_much : ∀ (l : List Tv), (∀ u ∈ l, tdepth u ≤ tmuch u) → tdepthL l ≤ tmuchL l
  | [], _ => by simp [tdepthL]
  | t :: r, h => by
    have h1 := h t (List.mem_cons_self ..)
    have h2 := tdepthL_much r (fun u hu => h u (List.mem_cons_of_mem _ hu))
    rw [tdepthL, tmuchL]
    omega
theorem tdepth_much (t : Tv) : tdepth t ≤ tmuch t := by
  have h : ∀ N, ∀ t : Tv, SizeOf.sizeOf t = N → tdepth t ≤ tmuch t := by
    intro N
    induction N using Nat.strongRecOn with
    | _ N ih =>
      intro t hN
      have h1 := tdepthL_much t.is (fun u hu => ih _ (by rw [← hN]; exact Tv.is_lt hu) u rfl)
      have h2 := tmuch_eq t
      rw [tdepth_eq]
      split <;> omega
  exact h _ t rfl
end
section
open Go.RowKit Go
theorem bne_self6 (b : Bool) : (b != b) = false := by cases b <;> rfl
theorem tre_mem {is : List Tv} {u : Tv} (h : u ∈ tre is) : u ∈ is ∧ Trk u := by
  obtain ⟨h1, h2⟩ := List.mem_filter.1 h
  exact ⟨h1, chk_trk (a := 0) (by simpa using h2)⟩
set_option maxRecDepth 1000000 in
set_option maxHeartbeats 4000000 in
theorem vequal_any (w : World) (vL : Value) (is : List Tv) (hv : VSl w vL is) (hT : Tabs w) : Calls Tryd.prog 4 #[vL] w fun e w' => e = .returned (.bool true) ∧ Below w.heap.size w w' := by
  have HT := hide hT
  have HVL := hide hv
  obtain ⟨⟨a, cap, rfl, _, hform⟩, hmax⟩ := hv
  clear hT hform
  go_enter Tryd.func4, Tryd.ntmps4
  go_wp2_with fail
  refine (much_any is w _ 3000 HVL.out (by omega)).mono ?_
  rintro e w2 ⟨r, rfl, hmu, hb2⟩
  have HW2 := hide hb2
  have HMU := hide hmu
  clear hmu hb2
  by_cases hr : 3000 < r
  · as_aux_lemma =>
    have g0 : (3000 : Int) < (r : Int) := by omega
    go_wp2_with fail
    go_ret
    exact ⟨rfl, HW2.out⟩
  have g0 : ¬ (3000 : Int) < (r : Int) := by omega
  have HM : Hid (tmuchL is ≤ 3000) := by have := HMU.out.eq (by omega); show _ ≤ _; omega
  clear HMU
  go_wp2_with fail
  refine (trees_any w2 _ is (HVL.out.move (keep_below HW2.out)) (by have := HM.out; omega)).mono ?_
  rintro e w3 ⟨vm, rfl, hvm, hb3⟩
  have HW3 : Hid (Below w.heap.size w w3) := HW2.out.trans (hb3.mono HW2.out.size)
  have HTM : Hid (∀ u ∈ tre is, Trk u ∧ tmuch u ≤ 3000) := fun u hu => ⟨(tre_mem hu).2, Nat.le_trans (tmuchL_mem (tre_mem hu).1) HM.out⟩
  have HTB := hide (HT.out.next HW3.out)
  generalize tre is = ms at *
  obtain ⟨⟨am, cm, rfl, _, hfm⟩, hmm⟩ := hvm
  have HF := hide hfm
  clear hfm hb3 hr g0 HM HW2 HVL
  go_wp2_with fail
  go_loopw [4] (fun ii wx => ∃ i : Nat, i ≤ 20 ∧ ii = .int .i64 (i : Nat) ∧ Hid (Below w3.heap.size w3 wx)) (fun ii _ => 20 - (intOf ii).toNat)
  case atStart => exact ⟨0, by omega, rfl, Below.refl _ _⟩
  case round =>
    rename World => wa
    obtain ⟨i, hi, rfl, HBa⟩ := hrel
    by_cases hlt : i < ms.length ∧ i < 20
    · have g1 : (i : Int) < (ms.length : Int) := by omega
      have g2 : (i : Int) < 20 := by omega
      have hl1 := hlt.1
      have hl2 := hlt.2
      clear hlt
      go_wp2_with fail
      go_loopw [5] (fun ii wx => ∃ k : Nat, k ≤ 20 ∧ ii = .int .i64 (k : Nat) ∧ Hid (Below w3.heap.size w3 wx)) (fun ii _ => 20 - (intOf ii).toNat)
      case atStart => exact ⟨0, by omega, rfl, HBa⟩
      case round =>
        rename World => wb
        obtain ⟨k, hk, rfl, HBb⟩ := hrel
        by_cases hltk : k < ms.length ∧ k < 20
        · as_aux_lemma =>
          have g3 : (k : Int) < (ms.length : Int) := by omega
          have g4 : (k : Int) < 20 := by omega
          obtain ⟨u, hu⟩ : ∃ u, ms[i]? = some u := ⟨ms[i], List.getElem?_eq_getElem hl1⟩
          obtain ⟨v, hv⟩ : ∃ v, ms[k]? = some v := ⟨ms[k], List.getElem?_eq_getElem hltk.1⟩
          obtain ⟨b, off, rfl, hcc⟩ := HF.out.resolve_left (fun h => by rw [h] at hl1; simp at hl1)
          obtain ⟨cu, tu, hcu⟩ := hcc i u hu
          obtain ⟨cv, tv, hcv⟩ := hcc k v hv
          have HKU := hide (HTM.out u (List.mem_of_getElem? hu))
          have HKV := hide (HTM.out v (List.mem_of_getElem? hv))
          have HTU := hide tu
          have HTV := hide tv
          have HCU := hide hcu
          have HCV := hide hcv
          have HSU := hide tu.size13
          have HSV := hide tv.size13
          clear hcc hu hv tu tv hcu hcv HF hltk
          have HC1 : Hid (∀ j x, cu[j]? = some x → wb.cell? ⟨b, off + i * 13 + j, none⟩ = some x) := fun j x hx => keep_below HBb.out _ _ (HCU.out j x hx)
          go_wp2_with (refine wpList_valAt rfl rfl b (off + i * 13) cu rfl HSU.out HC1.out ?_)
          refine (lendValue_any u wb cu (HTU.out.move (keep_below HBb.out)) (by have := HKU.out.2; omega)).mono ?_
          rintro e wc ⟨c, rfl, hlc, hbc⟩
          have HBc : Hid (Below w3.heap.size w3 wc) := HBb.out.trans (hbc.mono HBb.out.size)
          have HBd : Hid (Below w3.heap.size w3 ((wc.alloc (.cells zv 30)).setRow wc.heap.size c)) := HBc.out.trans ((itm_mk wc c).b.mono HBc.out.size)
          have HX := hide (Vr.start hlc)
          have HG0 := hide (heap_alloc_new wc (.cells zv 30))
          have HS1 := hide hlc.size
          have HA1 := hide hlc.tin.all1
          have HIN : Hid ((Tryd.prog.info? 30).map (·.size) = some c.size) := by show _ = _; rw [HS1.out]; exact infoV
          have HZV : Hid (zv.size = c.size) := by show _ = _; rw [HS1.out]; rfl
          have HC2 : Hid (∀ j x, cv[j]? = some x → ((wc.alloc (.cells zv 30)).setRow wc.heap.size c).cell? ⟨b, off + k * 13 + j, none⟩ = some x) := fun j x hx => keep_below HBd.out _ _ (HCV.out j x hx)
          clear hlc hbc HC1 HBb HBc
          go_wp2_with (first
            | (refine wpList_storeRow rfl rfl wc.heap.size zv c 30 rfl rfl HG0.out HIN.out HZV.out HA1.out ?_)
            | (refine wpList_valAt rfl rfl b (off + k * 13) cv rfl HSV.out HC2.out ?_))
          clear HG0 HIN HZV HA1 HC2
          unfold zv at HX HBd
          generalize (wc.alloc (.cells #[.int .i64 0, .bool false, .bool false, .int .u64 0, .int .u64 0, .string ⟨#[]⟩, .slice none 0 0, .int .i64 0, .int .u64 0, .int .u64 0, .string ⟨#[]⟩, .slice none 0 0, .slice none 0 0] 30)).setRow wc.heap.size c = wd at *
          generalize wc.heap.size = gx at *
          refine (lendValue_any v wd cv (HTV.out.move (keep_below HBd.out)) (by have := HKV.out.2; omega)).mono ?_
          rintro e we ⟨d, rfl, hld, hbe⟩
          have HBe : Hid (Below w3.heap.size w3 we) := HBd.out.trans (hbe.mono HBd.out.size)
          have HBf : Hid (Below w3.heap.size w3 ((we.alloc (.cells zv 30)).setRow we.heap.size d)) := HBe.out.trans ((itm_mk we d).b.mono HBe.out.size)
          have HXf := hide ((HX.out.next hbe).next (itm_mk we d).b)
          have HY := hide (Vr.start hld)
          have HG0 := hide (heap_alloc_new we (.cells zv 30))
          have HS2 := hide hld.size
          have HA2 := hide hld.tin.all1
          have HIN : Hid ((Tryd.prog.info? 30).map (·.size) = some d.size) := by show _ = _; rw [HS2.out]; exact infoV
          have HZV : Hid (zv.size = d.size) := by show _ = _; rw [HS2.out]; rfl
          clear hld hbe HX HBd HBe
          go_wp2_with (refine wpList_storeRow rfl rfl we.heap.size zv d 30 rfl rfl HG0.out HIN.out HZV.out HA2.out ?_)
          clear HG0 HIN HZV HA2
          unfold zv at HXf HY HBf
          generalize (we.alloc (.cells #[.int .i64 0, .bool false, .bool false, .int .u64 0, .int .u64 0, .string ⟨#[]⟩, .slice none 0 0, .int .i64 0, .int .u64 0, .int .u64 0, .string ⟨#[]⟩, .slice none 0 0, .slice none 0 0] 30)).setRow we.heap.size d = wf at *
          generalize we.heap.size = gy at *
          have HQ1 : Hid (∀ wx, (∃ t : Ext wf, wx = t.w') → ∀ j x, c[j]? = some x → wx.cell? ⟨gx, 0 + j, none⟩ = some x) := by
            rintro _ ⟨t, rfl⟩ j x hx
            rw [Nat.zero_add]
            exact blk_cell (HXf.out.next t.h).x hx
          have HQ2 : Hid (∀ wx, (∃ t : Ext wf, wx = t.w') → ∀ j x, d[j]? = some x → wx.cell? ⟨gy, 0 + j, none⟩ = some x) := by
            rintro _ ⟨t, rfl⟩ j x hx
            rw [Nat.zero_add]
            exact blk_cell (HY.out.next t.h).x hx
          have HQ3 : Hid (∀ wx, (∃ t : Ext wf, wx = t.w') → ∀ j x, cu[j]? = some x → wx.cell? ⟨b, off + i * 13 + j, none⟩ = some x) := by
            rintro _ ⟨t, rfl⟩ j x hx
            exact keep_below t.h _ _ (keep_below HBf.out _ _ (HCU.out j x hx))
          have HQ4 : Hid (∀ wx, (∃ t : Ext wf, wx = t.w') → ∀ j x, cv[j]? = some x → wx.cell? ⟨b, off + k * 13 + j, none⟩ = some x) := by
            rintro _ ⟨t, rfl⟩ j x hx
            exact keep_below t.h _ _ (keep_below HBf.out _ _ (HCV.out j x hx))
          have HP1 : Hid (∀ t : Ext wf, Calls Tryd.prog 16 #[.agg c, .agg d] t.w' fun e w'' => e = .returned (.bool (eqf u v)) ∧ ∃ t' : Ext wf, w'' = t'.w') := fun t => Calls.ext_below (equal6_any u v t.w' c d (HXf.out.next t.h).tin (HY.out.next t.h).tin (by have := HKU.out.2; omega) (by have := HKV.out.2; omega))
          have HP2 : Hid (∀ t : Ext wf, Calls Tryd.prog 17 #[.agg cu, .agg cv] t.w' fun e w'' => e = .returned (.bool (eqf u v)) ∧ ∃ t' : Ext wf, w'' = t'.w') := fun t => Calls.ext_below (equalR_any u v (eqf u v) (eqf_teq u v HKU.out.1 HKV.out.1) HKU.out.1 HKV.out.1 (by have := HKU.out.2; omega) (by have := HKV.out.2; omega) t.w' cu cv (HTU.out.move (fun p x hx => keep_below t.h _ _ (keep_below HBf.out _ _ hx))) (HTV.out.move (fun p x hx => keep_below t.h _ _ (keep_below HBf.out _ _ hx))))
          have HP3 : Hid (∀ t : Ext wf, Calls Tryd.prog 13 #[.agg c, .agg cu] t.w' fun e w'' => e = .returned (.bool true) ∧ ∃ t' : Ext wf, w'' = t'.w') := fun t => by
            obtain ⟨lo, hh, hl⟩ := (HXf.out.next t.h).l
            exact Calls.ext_below (backValue_any u t.w' lo hh c cu hl (HTU.out.move (fun p x hx => keep_below t.h _ _ (keep_below HBf.out _ _ hx))))
          have HP4 : Hid (∀ t : Ext wf, Calls Tryd.prog 13 #[.agg d, .agg cv] t.w' fun e w'' => e = .returned (.bool true) ∧ ∃ t' : Ext wf, w'' = t'.w') := fun t => by
            obtain ⟨lo, hh, hl⟩ := (HY.out.next t.h).l
            exact Calls.ext_below (backValue_any v t.w' lo hh d cv hl (HTV.out.move (fun p x hx => keep_below t.h _ _ (keep_below HBf.out _ _ hx))))
          generalize eqf u v = E at *
          have gE := bne_self6 E
          refine region_ext (by kernel_rfl) (by kernel_rfl) ?_
          repeat (
            with_reducible refine wpQuiet_step (fun K hK => ?_)
            first
              | (refine qstep_valAt rfl rfl gx 0 c HS1.out rfl HQ1.out (hK _ ?_); clear hK K)
              | (refine qstep_valAt rfl rfl gy 0 d HS2.out rfl HQ2.out (hK _ ?_); clear hK K)
              | (refine qstep_valAt rfl rfl b (off + i * 13) cu HSU.out rfl HQ3.out (hK _ ?_); clear hK K)
              | (refine qstep_valAt rfl rfl b (off + k * 13) cv HSV.out rfl HQ4.out (hK _ ?_); clear hK K)
              | (go_simp
                 first
                   | (with_reducible refine hK _ ?_; clear hK K)
                   | (apply Exists.intro
                      refine ⟨fun _ => ?_, hK _ ?_⟩
                      (first
                        | (go_at_call 16; exact HP1.out _)
                        | (go_at_call 17; exact HP2.out _)
                        | (go_at_call 13; with_reducible exact HP3.out _)
                        | (go_at_call 13; with_reducible exact HP4.out _))
                      clear hK K)))
          refine wpQuiet_nil ?_
          rintro _ ⟨tq, rfl⟩
          have HBn : Hid (Below w3.heap.size w3 tq.w') := HBf.out.trans (tq.h.mono HBf.out.size)
          clear HQ1 HQ2 HQ3 HQ4 HP1 HP2 HP3 HP4 HXf HY HBf
          go_wp2_with fail
          go_roundw
          case rel => exact ⟨k + 1, by omega, by go_num, HBn⟩
          case measure => simp [intOf]; omega
        · rcases Nat.lt_or_ge k ms.length with h1 | h1
          · as_aux_lemma =>
            have g3 : (k : Int) < (ms.length : Int) := by omega
            have g4 : ¬ (k : Int) < 20 := by omega
            clear hltk
            go_wp2_with fail
            go_roundw
            case rel => exact ⟨i + 1, by omega, by go_num, HBb⟩
            case measure => simp [intOf]; omega
          · as_aux_lemma =>
            have g3 : ¬ (k : Int) < (ms.length : Int) := by omega
            clear hltk
            go_wp2_with fail
            go_roundw
            case rel => exact ⟨i + 1, by omega, by go_num, HBb⟩
            case measure => simp [intOf]; omega
    · have HWZ : Hid (Below w.heap.size w wa) := HW3.out.trans (HBa.out.mono HW3.out.size)
      have HTZ := hide (HTB.out.next HBa.out)
      rcases Nat.lt_or_ge i ms.length with h1 | h1
      · as_aux_lemma =>
        have g1 : (i : Int) < (ms.length : Int) := by omega
        have g2 : ¬ (i : Int) < 20 := by omega
        clear hlt
        go_wp2_with fail
        refine (wakes_any wa HTZ.out).mono ?_
        rintro e wb ⟨rfl, hbb⟩
        have HWb : Hid (Below w.heap.size w wb) := HWZ.out.trans (hbb.mono HWZ.out.size)
        clear hbb
        go_wp2_with fail
        go_ret
        exact ⟨rfl, HWb.out⟩
      · as_aux_lemma =>
        have g1 : ¬ (i : Int) < (ms.length : Int) := by omega
        clear hlt
        go_wp2_with fail
        refine (wakes_any wa HTZ.out).mono ?_
        rintro e wb ⟨rfl, hbb⟩
        have HWb : Hid (Below w.heap.size w wb) := HWZ.out.trans (hbb.mono HWZ.out.size)
        clear hbb
        go_wp2_with fail
        go_ret
        exact ⟨rfl, HWb.out⟩
end
section
open Go.ChangeShapes Go.WideShapes Go.ChangeAt Go.RowKit Go.Deep Go.Joins
set_option maxRecDepth 100000 in
theorem vequal_lifted (os : Os) (started : os.Started) (H : Type) (enc : TypeId × Value → H) :
    ReturnsInHanded {} Tryd.checked os 4 .any (fun w args => (Rows.valueEqualSpec.pre enc Tryd.prog Tryd.f4 Rows.valueEqualRow.domain false w args ∧ laidMet Tryd.prog Rows.valueEqualRow.laid w) ∧ sizedMet enc Tryd.prog Tryd.f4 (OpenSpec.ofChange Rows.valueEqualSpec) false w args)
      (Rows.valueEqualSpec.post enc Tryd.prog Tryd.f4 false true false false) := by
  refine returnsInHanded_of_change_and (C := Tryd.checked) (X := fun w _ => laidMet Tryd.prog Rows.valueEqualRow.laid w) (fun _ _ _ hh h => h.of_heap hh) Tryd.own started (by kernel_rfl) Tryd.func4
    (ChangeSpec.witness_at (enc := enc) (C := Tryd.checked) (os := os) (X := fun w _ => laidMet Tryd.prog Rows.valueEqualRow.laid w) false (laidWorld6 os) #[.slice none 0 0] 8 rfl (by kernel_rfl) (by kernel_rfl) (by kernel_rfl) (by kernel_rfl) (by kernel_rfl) (laid_met6 os _)) ?_
  intro W base args ds gs before hval0 hW _ hsz0 hLd _
  have hval : ∀ (j : Nat) t v, Tryd.f4.params[j]? = some t → args[j]? = some v → Value.okWide Tryd.prog W .any base t v := hval0
  have hsz : (DataW.weightsEach Tryd.prog (Tryd.f4.params.toList ++ Rows.valueEqualSpec.plain.varTypes Tryd.prog) (ds ++ gs)).all (· ≤ reachBytes) = true := hsz0
  have hW' := hW
  have hcb : Tabs W := tabs_of_laid hLd
  obtain ⟨p, q, hA0, hV, rfl, hfz, hnd⟩ := hW
  have hA : DataW.TrodAll enc Tryd.prog W 0 (fun _ => true) true Tryd.f4.params.toList args.toList ds p := hA0
  rw [Tryd.params4] at hA hval hsz
  obtain ⟨v0, d0, rfl, rfl, h0⟩ := trodAll_one hA
  obtain ⟨rfl, rfl⟩ := trodVars_none hV
  have k0 := h0
  have lt0 : ∀ x ∈ p, x.block < W.heap.size := by obtain ⟨m, hm⟩ := k0; exact DataW.trod_lt m _ _ _ hm
  have hwalk : Calls Tryd.prog 4 #[v0] W fun e w' => e = .returned (.bool true) ∧ Below W.heap.size W w' := by
    have hs1 : (d0.weights Tryd.prog 22).all (· ≤ reachBytes) = true := by
      have e : DataW.weightsEach Tryd.prog ([22] ++ Rows.valueEqualSpec.plain.varTypes Tryd.prog) ([d0] ++ []) = d0.weights Tryd.prog 22 ++ DataW.weightsEach Tryd.prog (Rows.valueEqualSpec.plain.varTypes Tryd.prog) [] := rfl
      rw [e, List.all_append, Bool.and_eq_true] at hsz
      exact hsz.1
    obtain ⟨a0, l0, c0, rfl⟩ := okWide_slice Tryd.underlying22 (hval 0 22 v0 rfl rfl)
    obtain ⟨m, hm⟩ := h0
    obtain ⟨is, his⟩ := values_open (x := (d0, _)) hm hs1
    exact vequal_any W _ is his hcb
  clear hA0 hval0
  refine hwalk.mono fun e W' ⟨he, bel⟩ => ?_
  subst he
  exact ⟨_, rfl, _, _, _, [], _, [], hW', trodAll_mk1 (shut_bool Tryd.underlying4 _), trodAll_mk1 (Below.trod Tryd.laidOut (by kernel_rfl) (of_decide_eq_true (by kernel_rfl)) k0 bel lt0), rfl, bel.frame _, fun h => by cases h⟩

theorem vequal_row : Rows.ValueEqualSaid :=
  OpenClaim.holds_of_wide 4 Tryd.f4 rfl rfl rfl rfl rfl rfl rfl ⟨rfl, rfl, rfl, rfl, rfl⟩ rfl rfl rfl rfl rfl (by kernel_rfl) Tryd.func4 (by kernel_rfl)
    (of_decide_eq_true (by kernel_rfl)) (by unfold Func.isWrapper; first | (rw [if_pos (by decide +kernel)]; kernel_rfl) | (rw [if_neg (by decide +kernel)]; exact ⟨rfl, rfl⟩))
    (fun os started H enc _ => vequal_lifted os started H enc)

theorem vequal_holds : Rows.ValueEqualCardSaid :=
  Claim7.holds_tied_plain_at .later [] [.data, .pinned] true (true, "b3ee312d3bffdb8642e2128002d5112f32414f5e6bfe2d0ec5abd38274d5102d") false
    vequal_row (fun _ h => by cases h) (by kernel_rfl) (fun _ h => by cases h) valueEqual_row_tie rfl ⟨rfl, rfl⟩ (by kernel_rfl) rfl
    (fun f fn hf hfn => by
      obtain rfl : f = 4 := Option.some.inj ((show Tryd.prog.funcNamed "trellis/trellislaw6.ValueEqual" = some 4 by kernel_rfl).symm.trans hf) |>.symm
      obtain rfl : fn = Tryd.f4 := (Option.some.inj (Tryd.func4.symm.trans hfn)).symm
      exact ⟨by kernel_rfl, fun j t ht => by
        rw [Tryd.params4] at ht
        have h3 : t = 22 := by
          rcases j with _ | j
          · simpa using ht.symm
          · simp at ht
        subst h3
        exact (show Tryd.prog.wantsStandIn 22 = false by kernel_rfl)⟩)
    (by kernel_rfl)
#print axioms vequal_holds
end
end Go.Proofs.YtibcepokeaaoiaaDoor

import Derived.Test.YtgcccndbahphaaaGreatDoorJh
import Derived.Test.YtgcccndbahphaaaGreatDoorJg
import Derived.Test.YtgcccndbahphaaaGreatDoorJi
import Derived.Test.YtgcccndbahphaaaGreatDoorJl
import Derived.Test.YtgcccndbahphaaaGreatDoorJm
import Derived.Test.YtgcccndbahphaaaGreatDoorJj
import Derived.Test.YtgcccndbahphaaaGreatDoorJc
import Derived.Test.YtgcccndbahphaaaGreatDoorJd
import Derived.Test.YtgcccndbahphaaaGreatDoorJe
import Derived.Test.YtgcccndbahphaaaGreatDoorJf
namespace Go.Proofs.YtgcccndbahphaaaGreatDoor
section
open Go.RowKit Go
theorem Nor.nos {w : World} {lo hi : Nat} {t : Tv} {c : Array Value} (h : Nor w lo hi t c) : Nos w lo (fun q => lo ≤ q ∧ q < hi) t c := h
/-- A sorted map in new memory. -/
theorem nor_pick {wx w5 : World} {lo g3 hi : Nat} {t : Tv} {js : List Tv} {ps : List Nat} {L : List (Array Value)} {E : Nat → Nat → Prop} {vy vA vB : Value} (hbd : Tbd t) (hyb : ∀ x ∈ t.y, x < 256) (hy : wx.ownsRow lo 5 1 vy t.y.length (bv t.y)) (hgy : ∀ q, vy.ownBlock = some q → q < hi)
    (hA : wx.ownsRow lo 9 1 vA ps.length (sv (pickS t.ks ps))) (hgA : ∀ q, vA.ownBlock = some q → q < hi ∧ g3 ≤ q) (hB : wx.ownsRow lo 55 13 vB ps.length (vfl (pickL L ps))) (hgB : ∀ q, vB.ownBlock = some q → q < hi ∧ g3 ≤ q) (hpl : ps.length ≤ 6000000) (hks : ∀ s ∈ t.ks, s.size ≤ 140737488351232) (hpk : ∀ p ∈ ps, p < t.ks.length) (hpj : ∀ p ∈ ps, p < js.length)
    (hL : L.length = js.length) (h13 : ∀ c ∈ L, one13 c) (hk : Kp (fun q => q = g3) w5 wx) (hcs : ∀ (i : Nat) (u : Tv) (c : Array Value), js[i]? = some u → L[i]? = some c → Nos w5 lo (E i) u c) (hE : ∀ i, i < js.length → ∀ q, E i q → (lo ≤ q ∧ q < g3) ∧ vy.ownBlock ≠ some q) (hdj : ∀ i j, i < j → j < js.length → ∀ q, E i q → ¬ E j q) (hnd : ps.Nodup) (hgh : g3 ≤ hi) : Nor wx lo hi (t.wp js ps) (vcs t vy vA vB) := by
  have e : (pickT js ps).length = ps.length := by simp [pickT]
  have hps : ∀ i (hi : i < ps.length), ps.getD i 0 = ps[i] ∧ ps[i] < js.length := fun i hi => ⟨by simp [List.getD, List.getElem?_eq_getElem hi], hpj _ (List.getElem_mem hi)⟩
  refine Nos.mk _ (t.wp js ps) vy vA vB (pickL L ps) (fun i => E (ps.getD i 0)) ⟨hbd.n, hbd.b, hbd.s, hbd.y, hbd.l, hbd.d⟩ hyb hy ?_ ?_ ?_ ?_ ?_ ?_ ?_ (fun q hq => ⟨(hy.lt q hq).1, hgy q hq⟩) (fun q hq => ⟨(hA.lt q hq).1, (hgA q hq).1⟩) (fun q hq => ⟨(hB.lt q hq).1, (hgB q hq).1⟩) ?_ ?_ ?_
  · show World.ownsRow _ _ _ _ _ (pickS t.ks ps).length _
    rw [pickS_len]
    exact hA
  · show (pickS t.ks ps).length ≤ _
    rw [pickS_len]
    omega
  · intro s hs
    exact hks s (pickS_mem hs hpk)
  · show World.ownsRow _ _ _ _ _ (pickT js ps).length _
    rw [e]
    exact hB
  · show (pickT js ps).length ≤ _
    omega
  · show (pickL L ps).length = (pickT js ps).length
    simp [pickL, pickT]
  · intro c hc
    obtain ⟨p, hp, rfl⟩ := List.mem_map.1 hc
    have := hpj p hp
    exact h13 _ (by simp [List.getD, List.getElem?_eq_getElem (show p < L.length by omega)])
  · intro i hi q hq
    have hi' : i < ps.length := by rw [← e]; exact hi
    have h1 := hps i hi'
    have hq' : E (ps.getD i 0) q := hq
    rw [h1.1] at hq'
    have h2 := hE _ h1.2 q hq'
    refine ⟨⟨h2.1.1, by omega⟩, h2.2, fun hb => ?_, fun hb => ?_⟩
    · have := (hgA q hb).2
      omega
    · have := (hgB q hb).2
      omega
  · intro i j hij hj q hq hq2
    have hj' : j < ps.length := by rw [← e]; exact hj
    have h1 := hps i (by omega)
    have h2 := hps j hj'
    have hqa : E (ps.getD i 0) q := hq
    have hqb : E (ps.getD j 0) q := hq2
    rw [h1.1] at hqa
    rw [h2.1] at hqb
    have hne : ps[i] ≠ ps[j] := List.pairwise_iff_getElem.1 hnd i j (by omega) hj' hij
    rcases Nat.lt_or_gt_of_ne hne with h | h
    · exact hdj _ _ h h2.2 q hqa hqb
    · exact hdj _ _ h h1.2 q hqb hqa
  · intro i u c h1 h2
    have hi : i < ps.length := by
      have := (List.getElem?_eq_some_iff.1 h2).1
      rw [pickL_len] at this
      exact this
    have hp : ps[i]? = some ps[i] := List.getElem?_eq_getElem hi
    have hm := hpj _ (List.mem_of_getElem? hp)
    have h1' : (pickT js ps)[i]? = some u := h1
    rw [pickT_get hp hm] at h1'
    rw [pickL_get hp (by omega)] at h2
    have hpp := hps i hi
    show Nos wx lo (E (ps.getD i 0)) u c
    rw [hpp.1]
    exact (hcs _ u c h1' h2).kp hk (fun q h e => by have := (hE _ hm q h).1; omega)
set_option maxRecDepth 1000000 in
set_option maxHeartbeats 1000000 in
theorem sortedO_step (t : Tv) (ih : ∀ u ∈ t.is, AgainO 20 SrtR u) : AgainO 20 SrtR t := by
  intro w cs ht hm
  have eF : ∀ args w, (callFunc 20 args).run Tryz.prog w = .ok (.enter 20 args) w := enters_of Tryz.func20 (by kernel_rfl) rfl
  have HIH := hide ih
  have HTN := hide ht
  have hme := tmuch_eq t
  have HKL : Hid (t.ks.length ≤ 6000000) := by show _ ≤ _; omega
  have HMM := hide hm
  have HSZ := hide ht.size13
  have HK0 : Hid (cs[0]? = some (.int .i64 t.k)) := by
    obtain ⟨vy, vk, vi, rfl, _⟩ := ht.parts
    exact rfl
  clear ih ht hm hme
  have HW0 := hide (Rm.start w cs)
  have HZ0 : Hid (((w.alloc (.cells cs 55)).alloc (.cells zv 55)).heap.size = w.heap.size + 2) := by show _ = _; simp
  have HCB : Hid (∀ j u, cs[j]? = some u → ((w.alloc (.cells cs 55)).alloc (.cells zv 55)).cell? ⟨w.heap.size, 0 + j, none⟩ = some u) := fun j u hu => by rw [Nat.zero_add]; exact blk_cell HW0.out.p hu
  unfold zv at HW0 HZ0 HCB
  go_enter Tryz.func20, Tryz.ntmps20
  go_wp2_with (refine wpList_valAt rfl rfl w.heap.size 0 cs rfl HSZ.out HCB.out ?_)
  generalize (w.alloc (.cells cs 55)).alloc (.cells #[.int .i64 0, .bool false, .bool false, .int .u64 0, .int .u64 0, .string ⟨#[]⟩, .slice none 0 0, .int .i64 0, .int .u64 0, .int .u64 0, .string ⟨#[]⟩, .slice none 0 0, .slice none 0 0] 55) = w2 at *
  refine (remadeO_any 20 eF SrtR t HIH.out w2 cs (HTN.out.move (keep_below HW0.out.b)) HMM.out).mono ?_
  rintro e w3 ⟨c, js, rfl, hmd, hnt, hb3⟩
  have HMD := hide hmd
  have HW3 := hide (HW0.out.next hb3)
  have HNT : Hid (Nor w3 (w.heap.size + 2) w3.heap.size (t.wi js) c) := hnt.mono (by rw [HZ0.out]; omega) (Nat.le_refl _)
  have HA1 := hide hnt.tin.all1
  have HS1 := hide hnt.size
  clear hmd hnt hb3 HW0 HCB HZ0
  have HIT := hide (itm_mk w3 c)
  have HG0 := hide (heap_alloc_new w3 (.cells zv 55))
  have HIN : Hid ((Tryz.prog.info? 55).map (·.size) = some c.size) := by show _ = _; rw [HS1.out]; exact infoV
  have HZV : Hid (zv.size = c.size) := by show _ = _; rw [HS1.out]; rfl
  have HW4 := hide (HW3.out.next HIT.out.b)
  have HN4 := hide (HNT.out.kept HIT.out.b)
  have q0 := blk_cell (j := 0) HW4.out.p HK0.out
  unfold zv at q0
  by_cases hk9 : t.k = 9
  · have g9 : (t.k == 9) = true := by rw [hk9]; rfl
    have HCX : Hid (∀ j u, cs[j]? = some u → ((w3.alloc (.cells zv 55)).setRow w3.heap.size c).cell? ⟨w.heap.size, 0 + j, none⟩ = some u) := fun j u hu => by rw [Nat.zero_add]; exact blk_cell HW4.out.p hu
    go_wp2_with (first
      | (refine wpList_storeRow rfl rfl w3.heap.size zv c 55 rfl rfl HG0.out HIN.out HZV.out HA1.out ?_)
      | (refine wpList_valAt rfl rfl w.heap.size 0 cs rfl HSZ.out HCX.out ?_))
    refine (order6_any t _ cs (HTN.out.move (keep_below HW4.out.b)) (by have := HKL.out; omega)).mono ?_
    rintro e w5 ⟨vp, ps, rfl, hpo, hsrp, hop, hb5⟩
    clear hpo
    have HW5 := hide (HW4.out.next hb5)
    have HN5 := hide (HN4.out.kept hb5)
    have HR5 : Hid (w5.heap[w3.heap.size]? = some (.cells c 55 (0, 0))) := (hb5.block _ (blk_lt HIT.out.r)).trans HIT.out.r
    have HZ5 : Hid (w3.heap.size < w5.heap.size) := blk_lt HR5.out
    have HSP := hide hsrp
    have hpl : ps.length ≤ 6000000 := by have := hsrp.len; have := HKL.out; omega
    have HIS := hide (ISl.own hop rfl (by omega))
    obtain ⟨pa, pc, hvp⟩ := own_slice hop
    subst hvp
    clear hop hsrp hb5 HW4 HN4 HIT HG0 q0 HCX HZV HIN
    have HNk := hide HN5.out
    generalize htj : t.wi js = tj at HNk
    obtain ⟨_, _, vy, vk, vi, L, E, hbd, hyb, hy, hk, hkl, hks, hv, hil, hL, h13, hDy, hDk, hDi, hE, hdj, hcs⟩ := Nor.nos HNk.out
    have hgy : ∀ q, vy.ownBlock = some q → q < w3.heap.size := fun q hq => (hDy q hq).2
    have hgk : True := trivial
    have hgi : True := trivial
    subst htj
    obtain ⟨ya, yc, hvy⟩ := own_slice hy
    obtain ⟨ka, kc, hvk⟩ := own_slice hk
    obtain ⟨ia, ic, hvi⟩ := own_slice hv
    subst hvy hvk hvi
    have HO1 : Hid (∀ c ∈ L, one13 c) := h13
    have HEE : Hid (∀ i, i < js.length → ∀ q, E i q → (w.heap.size + 2 ≤ q ∧ q < w3.heap.size) ∧ (Value.slice ya t.y.length yc).ownBlock ≠ some q) := fun i hi q e => ⟨(hE i hi q e).1, (hE i hi q e).2.1⟩
    have HED : Hid (∀ i j, i < j → j < js.length → ∀ q, E i q → ¬ E j q) := hdj
    have HP1 : Hid (∀ wx, Below w5.heap.size w5 wx → Calls Tryz.prog 45 #[.slice ka t.ks.length kc, .slice pa ps.length pc] wx fun e w' => ∃ v', e = .returned v' ∧ w'.ownsRow wx.heap.size 9 1 v' ps.length (sv (pickS t.ks ps)) ∧ Below wx.heap.size wx w') := fun wx hb => pickedS_any wx _ _ t.ks ps ((SSl.own hk rfl hkl hks).move (keep_below hb)) (HIS.out.move (keep_below hb)) (fun p hp => by have := HSP.out.lt p hp; omega) hpl
    have HP2 : Hid (∀ wx, Below w5.heap.size w5 wx → Calls Tryz.prog 46 #[.slice ia js.length ic, .slice pa ps.length pc] wx fun e w' => ∃ v', e = .returned v' ∧ w'.ownsRow wx.heap.size 55 13 v' ps.length (vfl (pickL L ps)) ∧ Below wx.heap.size wx w') := fun wx hb => pickedV_any wx _ _ L ps _ (by rw [hL]; exact (Kp.of_below (S := fun _ => False) hb).owns hv (fun _ _ h => h)) HO1.out (HIS.out.move (keep_below hb)) (fun p hp => by have := HSP.out.lt p hp; have : L.length = js.length := hL; have := HMD.out.n; omega) hpl
    have HRB : Hid (∀ wx, Below w5.heap.size w5 wx → wx.heap[w3.heap.size]? = some (.cells (vcs (t.wi js) (.slice ya (t.wi js).y.length yc) (.slice ka (t.wi js).ks.length kc) (.slice ia (t.wi js).is.length ic)) 55 (0, 0))) := fun wx hb => (hb.block _ HZ5.out).trans HR5.out
    have HBD := hide hbd
    have HYB := hide hyb
    have HYO := hide hy
    have HYG := hide hgy
    have HKSZ := hide hks
    have HCS := hide hcs
    have HLL := hide hL
    have H13 := hide h13
    clear hbd hyb hy hgy hk hgk hkl hks hv hgi hil hL h13 hcs HNk hDy hDk hDi hE hdj
    have c11 : w5.cell? ⟨w3.heap.size, 11, none⟩ = some (.slice ka t.ks.length kc) := blk_cell HR5.out rfl
    have c12 : w5.cell? ⟨w3.heap.size, 12, none⟩ = some (.slice ia js.length ic) := blk_cell HR5.out rfl
    generalize hg3 : w3.heap.size = g3 at *
    have HG3 := hide hg3
    clear hg3
    have HB0 : Hid (Below w5.heap.size w5 w5.drew) := by
      refine Below.drew ?_
      exact Below.refl _ _
    have c11d : w5.drew.cell? ⟨g3, 11, none⟩ = some (.slice ka t.ks.length kc) := c11
    have c12d : w5.drew.cell? ⟨g3, 12, none⟩ = some (.slice ia js.length ic) := c12
    go_wp2_with fail
    refine heldStart (S := fun _ => True) (by kernel_rfl) ?_
    have hS : True := trivial
    refine heldTake 0 _ rfl (by kernel_rfl) (by kernel_rfl) (by kernel_rfl) (fun _ _ _ h => h) rfl hS (fun wy hy => by first | (go_simp; done) | (go_simp; rfl) | rfl) ?_
    (try simp only [Act.put]); (try simp only [List.setIfInBounds_toArray, List.set_cons_zero, List.set_cons_succ])
    refine heldTake 2 _ rfl (by kernel_rfl) (by kernel_rfl) (by kernel_rfl) (fun _ _ _ h => h) rfl hS (fun wy hy => by first | (go_simp; done) | (go_simp; rfl) | rfl) ?_
    (try simp only [Act.put]); (try simp only [List.setIfInBounds_toArray, List.set_cons_zero, List.set_cons_succ])
    refine heldTake 4 _ rfl (by kernel_rfl) (by kernel_rfl) (by kernel_rfl) (fun _ _ _ h => h) rfl hS (fun wy hy => by first | (go_simp; done) | (go_simp; rfl) | rfl) ?_
    (try simp only [Act.put]); (try simp only [List.setIfInBounds_toArray, List.set_cons_zero, List.set_cons_succ])
    refine heldTake 6 _ rfl (by kernel_rfl) (by kernel_rfl) (by kernel_rfl) (fun _ _ _ h => h) rfl hS (fun wy hy => by first | (go_simp; done) | (go_simp; rfl) | rfl) ?_
    (try simp only [Act.put]); (try simp only [List.setIfInBounds_toArray, List.set_cons_zero, List.set_cons_succ])
    refine wpAnyH_ready (rs := [1, 5]) (by kernel_rfl) (by simp) ?_
    refine AllReadyH.cons rfl (fun K hK => ?_) (AllReadyH.cons rfl (fun K hK => ?_) AllReadyH.nil)
    · go_simp
      refine (Shut.out hK) _ _ trivial (fun _ => ?_)
      clear hK K
      (try simp only [Act.put]); (try simp only [List.setIfInBounds_toArray, List.set_cons_zero, List.set_cons_succ])
      refine wpAnyH_ready (rs := [3, 5]) (by kernel_rfl) (by simp) ?_
      refine AllReadyH.cons rfl (fun K hK => ?_) (AllReadyH.cons rfl (fun K hK => ?_) AllReadyH.nil)
      · as_aux_lemma =>
        go_simp
        refine (HP1.out _ HB0.out).mono ?_
        rintro e wA ⟨vA, rfl, hoA, hbA⟩
        obtain ⟨kA, cA, hvA⟩ := own_slice hoA
        subst hvA
        have c12A : wA.cell? ⟨g3, 12, none⟩ = some (.slice ia js.length ic) := keep_below hbA _ _ c12d
        have hbA5 : Below w5.heap.size w5 wA := HB0.out.trans (hbA.mono HB0.out.size)
        refine (Shut.out hK) _ _ trivial (fun _ => ?_)
        clear hK K
        (try simp only [Act.put]); (try simp only [List.setIfInBounds_toArray, List.set_cons_zero, List.set_cons_succ])
        refine heldStep 5 rfl (by kernel_rfl) (fun K hK => ?_)
        go_simp
        refine (Hid.out hK) _ _ trivial (fun _ => ?_)
        clear hK K
        (try simp only [Act.put]); (try simp only [List.setIfInBounds_toArray, List.set_cons_zero, List.set_cons_succ])
        refine heldTake 8 _ rfl (by kernel_rfl) (by kernel_rfl) (by kernel_rfl) (fun _ _ _ h => h) rfl hS (fun wy hy => by first | (go_simp; done) | (go_simp; rfl) | rfl) ?_
        (try simp only [Act.put]); (try simp only [List.setIfInBounds_toArray, List.set_cons_zero, List.set_cons_succ])
        refine heldStep 7 rfl (by kernel_rfl) (fun K hK => ?_)
        go_simp
        refine (HP2.out _ hbA5).mono ?_
        rintro e wB ⟨vB, rfl, hoB, hbB⟩
        obtain ⟨kB, cB, hvB⟩ := own_slice hoB
        subst hvB
        refine (Hid.out hK) _ _ trivial (fun _ => ?_)
        clear hK K
        (try simp only [Act.put]); (try simp only [List.setIfInBounds_toArray, List.set_cons_zero, List.set_cons_succ])
        have hSB : (fun _ : World => True) wB := trivial
        have hb5B : Below w5.heap.size w5 wB := hbA5.trans (hbB.mono hbA5.size)
        have hzA := HB0.out.size
        have hzA2 := hbA.size
        have hzB := hbB.size
        have hRB := HRB.out wB hb5B
        have c11B := blk_cell (j := 11) hRB rfl
        have f11B := blk_frozen 11 hRB
        have hR1 := blk_set 11 (.slice kA ps.length cA) hRB
        have c12B : (wB.setCell ⟨g3, 11, none⟩ (.slice kA ps.length cA)).cell? ⟨g3, 12, none⟩ = some (.slice ia js.length ic) := blk_cell hR1 rfl
        have f12B := blk_frozen 12 hR1
        have hR2 := blk_set 12 (.slice kB ps.length cB) hR1
        have HR2 : Hid (((wB.setCell ⟨g3, 11, none⟩ (.slice kA ps.length cA)).setCell ⟨g3, 12, none⟩ (.slice kB ps.length cB)).heap[g3]? = some (.cells (vcs t (.slice ya t.y.length yc) (.slice kA ps.length cA) (.slice kB ps.length cB)) 55 (0, 0))) := hR2
        have hk1 : Kp (fun q => q = g3) wB (wB.setCell ⟨g3, 11, none⟩ (.slice kA ps.length cA)) := (Kp.refl _ _).setCell _ _ (fun _ => rfl)
        have hk2 : Kp (fun q => q = g3) wB ((wB.setCell ⟨g3, 11, none⟩ (.slice kA ps.length cA)).setCell ⟨g3, 12, none⟩ (.slice kB ps.length cB)) := hk1.setCell _ _ (fun _ => rfl)
        have hzs := hk2.size
        have HK2 := hide hk2
        have HOA : Hid (wB.ownsRow w5.heap.size 9 1 (.slice kA ps.length cA) ps.length (sv (pickS t.ks ps))) := own_mono ((Kp.of_below (S := fun _ => False) hbB).owns hoA (fun _ _ h => h)) hzA
        have HOB : Hid (wB.ownsRow w5.heap.size 55 13 (.slice kB ps.length cB) ps.length (vfl (pickL L ps))) := own_mono hoB (by omega)
        have HB5 := hide hb5B
        have HZS : Hid (w5.heap.size ≤ wB.heap.size ∧ wB.heap.size ≤ ((wB.setCell ⟨g3, 11, none⟩ (.slice kA ps.length cA)).setCell ⟨g3, 12, none⟩ (.slice kB ps.length cB)).heap.size) := ⟨hb5B.size, hzs⟩
        clear hRB hR1 hR2 hk1 hk2 hoA hoB hbA hbB hb5B hbA5 hzA hzA2 hzB hzs c11 c12 c11d c12d c12A
        refine heldStep 9 rfl (by kernel_rfl) (fun K hK => ?_)
        go_simp
        refine (Hid.out hK) _ _ trivial (fun _ => ?_)
        clear hK K
        (try simp only [Act.put]); (try simp only [List.setIfInBounds_toArray, List.set_cons_zero, List.set_cons_succ])
        refine heldTake 10 _ rfl (by kernel_rfl) (by kernel_rfl) (by kernel_rfl) (fun _ _ _ h => h) rfl hS (fun wy hy => by first | (go_simp; done) | (go_simp; rfl) | rfl) ?_
        (try simp only [Act.put]); (try simp only [List.setIfInBounds_toArray, List.set_cons_zero, List.set_cons_succ])
        refine heldStep 11 rfl (by kernel_rfl) (fun K hK => ?_)
        go_simp
        refine (Hid.out hK) _ _ trivial (fun _ => ?_)
        clear hK K
        (try simp only [Act.put]); (try simp only [List.setIfInBounds_toArray, List.set_cons_zero, List.set_cons_succ])
        refine heldDone (by kernel_rfl) ?_
        clear c11B f11B c12B f12B
        have hz := HZS.out
        have hg5 := HZ5.out
        have hg3 : w.heap.size + 2 ≤ g3 := by have := HW3.out.z; have := HG3.out; omega
        have HK5 : Hid (Kp (fun q => q = g3) w5 ((wB.setCell ⟨g3, 11, none⟩ (.slice kA ps.length cA)).setCell ⟨g3, 12, none⟩ (.slice kB ps.length cB))) := (Kp.of_below HB5.out).trans HK2.out (fun _ _ h => h)
        have HNT : Hid (Nor ((wB.setCell ⟨g3, 11, none⟩ (.slice kA ps.length cA)).setCell ⟨g3, 12, none⟩ (.slice kB ps.length cB)) (w.heap.size + 2) ((wB.setCell ⟨g3, 11, none⟩ (.slice kA ps.length cA)).setCell ⟨g3, 12, none⟩ (.slice kB ps.length cB)).heap.size (t.wp js ps) (vcs t (.slice ya t.y.length yc) (.slice kA ps.length cA) (.slice kB ps.length cB))) := by
          refine nor_pick ⟨HBD.out.n, HBD.out.b, HBD.out.s, HBD.out.y, HBD.out.l, HBD.out.d⟩ HYB.out ?_ ?_ ?_ ?_ ?_ ?_ hpl HKSZ.out (fun p hp => by have := HSP.out.lt p hp; omega) (fun p hp => by have := HSP.out.lt p hp; have := HMD.out.n; omega) HLL.out H13.out HK5.out HCS.out HEE.out HED.out ((HSP.out.p.nodup_iff).2 List.nodup_range) (by omega)
          · exact HK5.out.owns HYO.out (fun q hq e => by have := HYG.out q hq; omega)
          · intro q hq
            have := HYG.out q hq
            omega
          · exact own_mono (HK2.out.owns HOA.out (fun q hq e => by have := HOA.out.lt q hq; omega)) (by omega)
          · intro q hq
            have := HOA.out.lt q hq
            exact ⟨by omega, by omega⟩
          · exact own_mono (HK2.out.owns HOB.out (fun q hq e => by have := HOB.out.lt q hq; omega)) (by omega)
          · intro q hq
            have := HOB.out.lt q hq
            exact ⟨by omega, by omega⟩
        have HXL : Hid (∀ j v, (vcs t (.slice ya t.y.length yc) (.slice kA ps.length cA) (.slice kB ps.length cB))[j]? = some v → ((wB.setCell ⟨g3, 11, none⟩ (.slice kA ps.length cA)).setCell ⟨g3, 12, none⟩ (.slice kB ps.length cB)).cell? ⟨g3, 0 + j, none⟩ = some v) := fun j v hv => by
          rw [Nat.zero_add]
          exact blk_cell HR2.out hv
        have HONA := hide HNT.out.tin.all1
        have HIN : Hid ((Tryz.prog.info? 55).map (·.size) = some (vcs t (.slice ya t.y.length yc) (.slice kA ps.length cA) (.slice kB ps.length cB)).size) := infoV
        have HRR : Hid (((wB.setCell ⟨g3, 11, none⟩ (.slice kA ps.length cA)).setCell ⟨g3, 12, none⟩ (.slice kB ps.length cB)).heap[w.heap.size + 1]? = some (.cells zv 55 (0, 0))) := (HK5.out.block _ (by omega) (fun e => by omega)).trans HW5.out.r
        have HZV : Hid (zv.size = (vcs t (.slice ya t.y.length yc) (.slice kA ps.length cA) (.slice kB ps.length cB)).size) := rfl
        have HBF : Hid (Below w.heap.size w ((wB.setCell ⟨g3, 11, none⟩ (.slice kA ps.length cA)).setCell ⟨g3, 12, none⟩ (.slice kB ps.length cB))) := HW5.out.b.trans (HK5.out.below HW5.out.b.size (fun q e => by omega))
        clear hz hg5 hg3
        go_wp2_with (first
          | (refine wpList_valAt rfl rfl g3 0 (vcs t (.slice ya t.y.length yc) (.slice kA ps.length cA) (.slice kB ps.length cB)) rfl rfl HXL.out ?_)
          | (refine wpList_storeRow rfl rfl (w.heap.size + 1) zv (vcs t (.slice ya t.y.length yc) (.slice kA ps.length cA) (.slice kB ps.length cB)) 55 rfl rfl HRR.out HIN.out HZV.out HONA.out ?_))
        have hkr := row_kp ((wB.setCell ⟨g3, 11, none⟩ (.slice kA ps.length cA)).setCell ⟨g3, 12, none⟩ (.slice kB ps.length cB)) (w.heap.size + 1) (vcs t (.slice ya t.y.length yc) (.slice kA ps.length cA) (.slice kB ps.length cB))
        have hzr := hkr.size
        exact bodyPost_ret (end_so rfl (row_same HRR.out) rfl) rfl ⟨_, rfl, t.wp js ps, srt_pick hk9 HMD.out HSP.out, (HNT.out.kp hkr (fun q h1 h2 e => by omega)).mono (by omega) hzr, HBF.out.trans (hkr.below HBF.out.size (fun q e => by omega))⟩
      · as_aux_lemma =>
        go_simp
        refine (Shut.out hK) _ _ trivial (fun _ => ?_)
        clear hK K
        (try simp only [Act.put]); (try simp only [List.setIfInBounds_toArray, List.set_cons_zero, List.set_cons_succ])
        refine heldStep 3 rfl (by kernel_rfl) (fun K hK => ?_)
        go_simp
        refine (HP1.out _ HB0.out).mono ?_
        rintro e wA ⟨vA, rfl, hoA, hbA⟩
        obtain ⟨kA, cA, hvA⟩ := own_slice hoA
        subst hvA
        have c12A : wA.cell? ⟨g3, 12, none⟩ = some (.slice ia js.length ic) := keep_below hbA _ _ c12d
        have hbA5 : Below w5.heap.size w5 wA := HB0.out.trans (hbA.mono HB0.out.size)
        refine (Hid.out hK) _ _ trivial (fun _ => ?_)
        clear hK K
        (try simp only [Act.put]); (try simp only [List.setIfInBounds_toArray, List.set_cons_zero, List.set_cons_succ])
        refine heldTake 8 _ rfl (by kernel_rfl) (by kernel_rfl) (by kernel_rfl) (fun _ _ _ h => h) rfl hS (fun wy hy => by first | (go_simp; done) | (go_simp; rfl) | rfl) ?_
        (try simp only [Act.put]); (try simp only [List.setIfInBounds_toArray, List.set_cons_zero, List.set_cons_succ])
        refine heldStep 7 rfl (by kernel_rfl) (fun K hK => ?_)
        go_simp
        refine (HP2.out _ hbA5).mono ?_
        rintro e wB ⟨vB, rfl, hoB, hbB⟩
        obtain ⟨kB, cB, hvB⟩ := own_slice hoB
        subst hvB
        refine (Hid.out hK) _ _ trivial (fun _ => ?_)
        clear hK K
        (try simp only [Act.put]); (try simp only [List.setIfInBounds_toArray, List.set_cons_zero, List.set_cons_succ])
        have hSB : (fun _ : World => True) wB := trivial
        have hb5B : Below w5.heap.size w5 wB := hbA5.trans (hbB.mono hbA5.size)
        have hzA := HB0.out.size
        have hzA2 := hbA.size
        have hzB := hbB.size
        have hRB := HRB.out wB hb5B
        have c11B := blk_cell (j := 11) hRB rfl
        have f11B := blk_frozen 11 hRB
        have hR1 := blk_set 11 (.slice kA ps.length cA) hRB
        have c12B : (wB.setCell ⟨g3, 11, none⟩ (.slice kA ps.length cA)).cell? ⟨g3, 12, none⟩ = some (.slice ia js.length ic) := blk_cell hR1 rfl
        have f12B := blk_frozen 12 hR1
        have hR2 := blk_set 12 (.slice kB ps.length cB) hR1
        have HR2 : Hid (((wB.setCell ⟨g3, 11, none⟩ (.slice kA ps.length cA)).setCell ⟨g3, 12, none⟩ (.slice kB ps.length cB)).heap[g3]? = some (.cells (vcs t (.slice ya t.y.length yc) (.slice kA ps.length cA) (.slice kB ps.length cB)) 55 (0, 0))) := hR2
        have hk1 : Kp (fun q => q = g3) wB (wB.setCell ⟨g3, 11, none⟩ (.slice kA ps.length cA)) := (Kp.refl _ _).setCell _ _ (fun _ => rfl)
        have hk2 : Kp (fun q => q = g3) wB ((wB.setCell ⟨g3, 11, none⟩ (.slice kA ps.length cA)).setCell ⟨g3, 12, none⟩ (.slice kB ps.length cB)) := hk1.setCell _ _ (fun _ => rfl)
        have hzs := hk2.size
        have HK2 := hide hk2
        have HOA : Hid (wB.ownsRow w5.heap.size 9 1 (.slice kA ps.length cA) ps.length (sv (pickS t.ks ps))) := own_mono ((Kp.of_below (S := fun _ => False) hbB).owns hoA (fun _ _ h => h)) hzA
        have HOB : Hid (wB.ownsRow w5.heap.size 55 13 (.slice kB ps.length cB) ps.length (vfl (pickL L ps))) := own_mono hoB (by omega)
        have HB5 := hide hb5B
        have HZS : Hid (w5.heap.size ≤ wB.heap.size ∧ wB.heap.size ≤ ((wB.setCell ⟨g3, 11, none⟩ (.slice kA ps.length cA)).setCell ⟨g3, 12, none⟩ (.slice kB ps.length cB)).heap.size) := ⟨hb5B.size, hzs⟩
        clear hRB hR1 hR2 hk1 hk2 hoA hoB hbA hbB hb5B hbA5 hzA hzA2 hzB hzs c11 c12 c11d c12d c12A
        refine heldStep 9 rfl (by kernel_rfl) (fun K hK => ?_)
        go_simp
        refine (Hid.out hK) _ _ trivial (fun _ => ?_)
        clear hK K
        (try simp only [Act.put]); (try simp only [List.setIfInBounds_toArray, List.set_cons_zero, List.set_cons_succ])
        refine heldTake 10 _ rfl (by kernel_rfl) (by kernel_rfl) (by kernel_rfl) (fun _ _ _ h => h) rfl hS (fun wy hy => by first | (go_simp; done) | (go_simp; rfl) | rfl) ?_
        (try simp only [Act.put]); (try simp only [List.setIfInBounds_toArray, List.set_cons_zero, List.set_cons_succ])
        refine heldStep 11 rfl (by kernel_rfl) (fun K hK => ?_)
        go_simp
        refine (Hid.out hK) _ _ trivial (fun _ => ?_)
        clear hK K
        (try simp only [Act.put]); (try simp only [List.setIfInBounds_toArray, List.set_cons_zero, List.set_cons_succ])
        refine heldDone (by kernel_rfl) ?_
        clear c11B f11B c12B f12B
        have hz := HZS.out
        have hg5 := HZ5.out
        have hg3 : w.heap.size + 2 ≤ g3 := by have := HW3.out.z; have := HG3.out; omega
        have HK5 : Hid (Kp (fun q => q = g3) w5 ((wB.setCell ⟨g3, 11, none⟩ (.slice kA ps.length cA)).setCell ⟨g3, 12, none⟩ (.slice kB ps.length cB))) := (Kp.of_below HB5.out).trans HK2.out (fun _ _ h => h)
        have HNT : Hid (Nor ((wB.setCell ⟨g3, 11, none⟩ (.slice kA ps.length cA)).setCell ⟨g3, 12, none⟩ (.slice kB ps.length cB)) (w.heap.size + 2) ((wB.setCell ⟨g3, 11, none⟩ (.slice kA ps.length cA)).setCell ⟨g3, 12, none⟩ (.slice kB ps.length cB)).heap.size (t.wp js ps) (vcs t (.slice ya t.y.length yc) (.slice kA ps.length cA) (.slice kB ps.length cB))) := by
          refine nor_pick ⟨HBD.out.n, HBD.out.b, HBD.out.s, HBD.out.y, HBD.out.l, HBD.out.d⟩ HYB.out ?_ ?_ ?_ ?_ ?_ ?_ hpl HKSZ.out (fun p hp => by have := HSP.out.lt p hp; omega) (fun p hp => by have := HSP.out.lt p hp; have := HMD.out.n; omega) HLL.out H13.out HK5.out HCS.out HEE.out HED.out ((HSP.out.p.nodup_iff).2 List.nodup_range) (by omega)
          · exact HK5.out.owns HYO.out (fun q hq e => by have := HYG.out q hq; omega)
          · intro q hq
            have := HYG.out q hq
            omega
          · exact own_mono (HK2.out.owns HOA.out (fun q hq e => by have := HOA.out.lt q hq; omega)) (by omega)
          · intro q hq
            have := HOA.out.lt q hq
            exact ⟨by omega, by omega⟩
          · exact own_mono (HK2.out.owns HOB.out (fun q hq e => by have := HOB.out.lt q hq; omega)) (by omega)
          · intro q hq
            have := HOB.out.lt q hq
            exact ⟨by omega, by omega⟩
        have HXL : Hid (∀ j v, (vcs t (.slice ya t.y.length yc) (.slice kA ps.length cA) (.slice kB ps.length cB))[j]? = some v → ((wB.setCell ⟨g3, 11, none⟩ (.slice kA ps.length cA)).setCell ⟨g3, 12, none⟩ (.slice kB ps.length cB)).cell? ⟨g3, 0 + j, none⟩ = some v) := fun j v hv => by
          rw [Nat.zero_add]
          exact blk_cell HR2.out hv
        have HONA := hide HNT.out.tin.all1
        have HIN : Hid ((Tryz.prog.info? 55).map (·.size) = some (vcs t (.slice ya t.y.length yc) (.slice kA ps.length cA) (.slice kB ps.length cB)).size) := infoV
        have HRR : Hid (((wB.setCell ⟨g3, 11, none⟩ (.slice kA ps.length cA)).setCell ⟨g3, 12, none⟩ (.slice kB ps.length cB)).heap[w.heap.size + 1]? = some (.cells zv 55 (0, 0))) := (HK5.out.block _ (by omega) (fun e => by omega)).trans HW5.out.r
        have HZV : Hid (zv.size = (vcs t (.slice ya t.y.length yc) (.slice kA ps.length cA) (.slice kB ps.length cB)).size) := rfl
        have HBF : Hid (Below w.heap.size w ((wB.setCell ⟨g3, 11, none⟩ (.slice kA ps.length cA)).setCell ⟨g3, 12, none⟩ (.slice kB ps.length cB))) := HW5.out.b.trans (HK5.out.below HW5.out.b.size (fun q e => by omega))
        clear hz hg5 hg3
        go_wp2_with (first
          | (refine wpList_valAt rfl rfl g3 0 (vcs t (.slice ya t.y.length yc) (.slice kA ps.length cA) (.slice kB ps.length cB)) rfl rfl HXL.out ?_)
          | (refine wpList_storeRow rfl rfl (w.heap.size + 1) zv (vcs t (.slice ya t.y.length yc) (.slice kA ps.length cA) (.slice kB ps.length cB)) 55 rfl rfl HRR.out HIN.out HZV.out HONA.out ?_))
        have hkr := row_kp ((wB.setCell ⟨g3, 11, none⟩ (.slice kA ps.length cA)).setCell ⟨g3, 12, none⟩ (.slice kB ps.length cB)) (w.heap.size + 1) (vcs t (.slice ya t.y.length yc) (.slice kA ps.length cA) (.slice kB ps.length cB))
        have hzr := hkr.size
        exact bodyPost_ret (end_so rfl (row_same HRR.out) rfl) rfl ⟨_, rfl, t.wp js ps, srt_pick hk9 HMD.out HSP.out, (HNT.out.kp hkr (fun q h1 h2 e => by omega)).mono (by omega) hzr, HBF.out.trans (hkr.below HBF.out.size (fun q e => by omega))⟩
    · as_aux_lemma =>
      go_simp
      refine (Shut.out hK) _ _ trivial (fun _ => ?_)
      clear hK K
      (try simp only [Act.put]); (try simp only [List.setIfInBounds_toArray, List.set_cons_zero, List.set_cons_succ])
      refine heldStep 1 rfl (by kernel_rfl) (fun K hK => ?_)
      go_simp
      refine (Hid.out hK) _ _ trivial (fun _ => ?_)
      clear hK K
      (try simp only [Act.put]); (try simp only [List.setIfInBounds_toArray, List.set_cons_zero, List.set_cons_succ])
      refine heldStep 3 rfl (by kernel_rfl) (fun K hK => ?_)
      go_simp
      refine (HP1.out _ HB0.out).mono ?_
      rintro e wA ⟨vA, rfl, hoA, hbA⟩
      obtain ⟨kA, cA, hvA⟩ := own_slice hoA
      subst hvA
      have c12A : wA.cell? ⟨g3, 12, none⟩ = some (.slice ia js.length ic) := keep_below hbA _ _ c12d
      have hbA5 : Below w5.heap.size w5 wA := HB0.out.trans (hbA.mono HB0.out.size)
      refine (Hid.out hK) _ _ trivial (fun _ => ?_)
      clear hK K
      (try simp only [Act.put]); (try simp only [List.setIfInBounds_toArray, List.set_cons_zero, List.set_cons_succ])
      refine heldTake 8 _ rfl (by kernel_rfl) (by kernel_rfl) (by kernel_rfl) (fun _ _ _ h => h) rfl hS (fun wy hy => by first | (go_simp; done) | (go_simp; rfl) | rfl) ?_
      (try simp only [Act.put]); (try simp only [List.setIfInBounds_toArray, List.set_cons_zero, List.set_cons_succ])
      refine heldStep 7 rfl (by kernel_rfl) (fun K hK => ?_)
      go_simp
      refine (HP2.out _ hbA5).mono ?_
      rintro e wB ⟨vB, rfl, hoB, hbB⟩
      obtain ⟨kB, cB, hvB⟩ := own_slice hoB
      subst hvB
      refine (Hid.out hK) _ _ trivial (fun _ => ?_)
      clear hK K
      (try simp only [Act.put]); (try simp only [List.setIfInBounds_toArray, List.set_cons_zero, List.set_cons_succ])
      have hSB : (fun _ : World => True) wB := trivial
      have hb5B : Below w5.heap.size w5 wB := hbA5.trans (hbB.mono hbA5.size)
      have hzA := HB0.out.size
      have hzA2 := hbA.size
      have hzB := hbB.size
      have hRB := HRB.out wB hb5B
      have c11B := blk_cell (j := 11) hRB rfl
      have f11B := blk_frozen 11 hRB
      have hR1 := blk_set 11 (.slice kA ps.length cA) hRB
      have c12B : (wB.setCell ⟨g3, 11, none⟩ (.slice kA ps.length cA)).cell? ⟨g3, 12, none⟩ = some (.slice ia js.length ic) := blk_cell hR1 rfl
      have f12B := blk_frozen 12 hR1
      have hR2 := blk_set 12 (.slice kB ps.length cB) hR1
      have HR2 : Hid (((wB.setCell ⟨g3, 11, none⟩ (.slice kA ps.length cA)).setCell ⟨g3, 12, none⟩ (.slice kB ps.length cB)).heap[g3]? = some (.cells (vcs t (.slice ya t.y.length yc) (.slice kA ps.length cA) (.slice kB ps.length cB)) 55 (0, 0))) := hR2
      have hk1 : Kp (fun q => q = g3) wB (wB.setCell ⟨g3, 11, none⟩ (.slice kA ps.length cA)) := (Kp.refl _ _).setCell _ _ (fun _ => rfl)
      have hk2 : Kp (fun q => q = g3) wB ((wB.setCell ⟨g3, 11, none⟩ (.slice kA ps.length cA)).setCell ⟨g3, 12, none⟩ (.slice kB ps.length cB)) := hk1.setCell _ _ (fun _ => rfl)
      have hzs := hk2.size
      have HK2 := hide hk2
      have HOA : Hid (wB.ownsRow w5.heap.size 9 1 (.slice kA ps.length cA) ps.length (sv (pickS t.ks ps))) := own_mono ((Kp.of_below (S := fun _ => False) hbB).owns hoA (fun _ _ h => h)) hzA
      have HOB : Hid (wB.ownsRow w5.heap.size 55 13 (.slice kB ps.length cB) ps.length (vfl (pickL L ps))) := own_mono hoB (by omega)
      have HB5 := hide hb5B
      have HZS : Hid (w5.heap.size ≤ wB.heap.size ∧ wB.heap.size ≤ ((wB.setCell ⟨g3, 11, none⟩ (.slice kA ps.length cA)).setCell ⟨g3, 12, none⟩ (.slice kB ps.length cB)).heap.size) := ⟨hb5B.size, hzs⟩
      clear hRB hR1 hR2 hk1 hk2 hoA hoB hbA hbB hb5B hbA5 hzA hzA2 hzB hzs c11 c12 c11d c12d c12A
      refine heldStep 9 rfl (by kernel_rfl) (fun K hK => ?_)
      go_simp
      refine (Hid.out hK) _ _ trivial (fun _ => ?_)
      clear hK K
      (try simp only [Act.put]); (try simp only [List.setIfInBounds_toArray, List.set_cons_zero, List.set_cons_succ])
      refine heldTake 10 _ rfl (by kernel_rfl) (by kernel_rfl) (by kernel_rfl) (fun _ _ _ h => h) rfl hS (fun wy hy => by first | (go_simp; done) | (go_simp; rfl) | rfl) ?_
      (try simp only [Act.put]); (try simp only [List.setIfInBounds_toArray, List.set_cons_zero, List.set_cons_succ])
      refine heldStep 11 rfl (by kernel_rfl) (fun K hK => ?_)
      go_simp
      refine (Hid.out hK) _ _ trivial (fun _ => ?_)
      clear hK K
      (try simp only [Act.put]); (try simp only [List.setIfInBounds_toArray, List.set_cons_zero, List.set_cons_succ])
      refine heldDone (by kernel_rfl) ?_
      clear c11B f11B c12B f12B
      have hz := HZS.out
      have hg5 := HZ5.out
      have hg3 : w.heap.size + 2 ≤ g3 := by have := HW3.out.z; have := HG3.out; omega
      have HK5 : Hid (Kp (fun q => q = g3) w5 ((wB.setCell ⟨g3, 11, none⟩ (.slice kA ps.length cA)).setCell ⟨g3, 12, none⟩ (.slice kB ps.length cB))) := (Kp.of_below HB5.out).trans HK2.out (fun _ _ h => h)
      have HNT : Hid (Nor ((wB.setCell ⟨g3, 11, none⟩ (.slice kA ps.length cA)).setCell ⟨g3, 12, none⟩ (.slice kB ps.length cB)) (w.heap.size + 2) ((wB.setCell ⟨g3, 11, none⟩ (.slice kA ps.length cA)).setCell ⟨g3, 12, none⟩ (.slice kB ps.length cB)).heap.size (t.wp js ps) (vcs t (.slice ya t.y.length yc) (.slice kA ps.length cA) (.slice kB ps.length cB))) := by
        refine nor_pick ⟨HBD.out.n, HBD.out.b, HBD.out.s, HBD.out.y, HBD.out.l, HBD.out.d⟩ HYB.out ?_ ?_ ?_ ?_ ?_ ?_ hpl HKSZ.out (fun p hp => by have := HSP.out.lt p hp; omega) (fun p hp => by have := HSP.out.lt p hp; have := HMD.out.n; omega) HLL.out H13.out HK5.out HCS.out HEE.out HED.out ((HSP.out.p.nodup_iff).2 List.nodup_range) (by omega)
        · exact HK5.out.owns HYO.out (fun q hq e => by have := HYG.out q hq; omega)
        · intro q hq
          have := HYG.out q hq
          omega
        · exact own_mono (HK2.out.owns HOA.out (fun q hq e => by have := HOA.out.lt q hq; omega)) (by omega)
        · intro q hq
          have := HOA.out.lt q hq
          exact ⟨by omega, by omega⟩
        · exact own_mono (HK2.out.owns HOB.out (fun q hq e => by have := HOB.out.lt q hq; omega)) (by omega)
        · intro q hq
          have := HOB.out.lt q hq
          exact ⟨by omega, by omega⟩
      have HXL : Hid (∀ j v, (vcs t (.slice ya t.y.length yc) (.slice kA ps.length cA) (.slice kB ps.length cB))[j]? = some v → ((wB.setCell ⟨g3, 11, none⟩ (.slice kA ps.length cA)).setCell ⟨g3, 12, none⟩ (.slice kB ps.length cB)).cell? ⟨g3, 0 + j, none⟩ = some v) := fun j v hv => by
        rw [Nat.zero_add]
        exact blk_cell HR2.out hv
      have HONA := hide HNT.out.tin.all1
      have HIN : Hid ((Tryz.prog.info? 55).map (·.size) = some (vcs t (.slice ya t.y.length yc) (.slice kA ps.length cA) (.slice kB ps.length cB)).size) := infoV
      have HRR : Hid (((wB.setCell ⟨g3, 11, none⟩ (.slice kA ps.length cA)).setCell ⟨g3, 12, none⟩ (.slice kB ps.length cB)).heap[w.heap.size + 1]? = some (.cells zv 55 (0, 0))) := (HK5.out.block _ (by omega) (fun e => by omega)).trans HW5.out.r
      have HZV : Hid (zv.size = (vcs t (.slice ya t.y.length yc) (.slice kA ps.length cA) (.slice kB ps.length cB)).size) := rfl
      have HBF : Hid (Below w.heap.size w ((wB.setCell ⟨g3, 11, none⟩ (.slice kA ps.length cA)).setCell ⟨g3, 12, none⟩ (.slice kB ps.length cB))) := HW5.out.b.trans (HK5.out.below HW5.out.b.size (fun q e => by omega))
      clear hz hg5 hg3
      go_wp2_with (first
        | (refine wpList_valAt rfl rfl g3 0 (vcs t (.slice ya t.y.length yc) (.slice kA ps.length cA) (.slice kB ps.length cB)) rfl rfl HXL.out ?_)
        | (refine wpList_storeRow rfl rfl (w.heap.size + 1) zv (vcs t (.slice ya t.y.length yc) (.slice kA ps.length cA) (.slice kB ps.length cB)) 55 rfl rfl HRR.out HIN.out HZV.out HONA.out ?_))
      have hkr := row_kp ((wB.setCell ⟨g3, 11, none⟩ (.slice kA ps.length cA)).setCell ⟨g3, 12, none⟩ (.slice kB ps.length cB)) (w.heap.size + 1) (vcs t (.slice ya t.y.length yc) (.slice kA ps.length cA) (.slice kB ps.length cB))
      have hzr := hkr.size
      exact bodyPost_ret (end_so rfl (row_same HRR.out) rfl) rfl ⟨_, rfl, t.wp js ps, srt_pick hk9 HMD.out HSP.out, (HNT.out.kp hkr (fun q h1 h2 e => by omega)).mono (by omega) hzr, HBF.out.trans (hkr.below HBF.out.size (fun q e => by omega))⟩
  · as_aux_lemma =>
    have g9 : (t.k == 9) = false := by simpa using hk9
    have HCX : Hid (∀ j u, c[j]? = some u → ((w3.alloc (.cells zv 55)).setRow w3.heap.size c).cell? ⟨w3.heap.size, 0 + j, none⟩ = some u) := HIT.out.cells
    have HR4 := hide HW4.out.r
    go_wp2_with (first
      | (refine wpList_storeRow rfl rfl w3.heap.size zv c 55 rfl rfl HG0.out HIN.out HZV.out HA1.out ?_)
      | (refine wpList_valAt rfl rfl w3.heap.size 0 c rfl HS1.out HCX.out ?_)
      | (refine wpList_storeRow rfl rfl (w.heap.size + 1) zv c 55 rfl rfl HR4.out HIN.out HZV.out HA1.out ?_))
    have hkr := row_kp ((w3.alloc (.cells zv 55)).setRow w3.heap.size c) (w.heap.size + 1) c
    have hzr := hkr.size
    have hz4 := HIT.out.z
    have hz3 := HW3.out.z
    have hfin : w3.heap.size ≤ (((w3.alloc (.cells zv 55)).setRow w3.heap.size c).setRow (w.heap.size + 1) c).heap.size := by omega
    refine bodyPost_ret (end_so HS1.out (row_same HR4.out) rfl) rfl ⟨_, t.wi js, rfl, SrtR.rest t (t.wi js) hk9 ⟨rfl, rfl, rfl, rfl, rfl, rfl, rfl, rfl⟩ rfl HMD.out.n HMD.out.r, (HN4.out.kp hkr (fun q h1 h2 e => by omega)).mono (by omega) hfin, HW4.out.b.trans (hkr.below HW4.out.b.size (fun q e => by omega))⟩
theorem sortedO_any (t : Tv) : AgainO 20 SrtR t := by
  have h : ∀ N, ∀ t : Tv, SizeOf.sizeOf t = N → AgainO 20 SrtR t := by
    intro N
    induction N using Nat.strongRecOn with
    | _ N ih => exact fun t hN => sortedO_step t (fun u hu => ih _ (by rw [← hN]; exact Tv.is_lt hu) u rfl)
  exact h _ t rfl
end
section
open Go.RowKit Go
theorem bkBytes_any {w : World} {base B : Nat} {C : Array Value} {f : Fin 4 → Fs} {t d u : Nat} (h : Bkq w base B C f t d u) (l : Value) (n : Nat) (xs : List Value) (hl : w.ownsRow base 5 1 l n xs) (hn : n < 68719476736) (hd : ∀ q, l.ownBlock = some q → ¬ Ft4 B f q) (ht : t + 1 < 68719476736) :
    Calls Tryz.prog 51 #[.pointer (some ⟨B, 0, none⟩), l] w fun e w' => e = .returned (.tuple #[]) ∧ Hid (Pt4 w base B f t d (fun q => l.ownBlock = some q) 1 w') :=
  (bytesM_any h.blk h.n (h.r 0).1 (h.r 0).2.1 h.c54 h.c56 (h.k 0) l n xs hl hn (fun e he q h1 h2 => hd q h2 (.inr ⟨0, .inr (.inr ⟨e, he, h1⟩)⟩)) ht h.hu h.sz).mono (fun _ _ h1 => ⟨h1.1, h.put 0 h1.2.out hd ht⟩)
theorem bkTexts_any {w : World} {base B : Nat} {C : Array Value} {f : Fin 4 → Fs} {t d u : Nat} (h : Bkq w base B C f t d u) (l : Value) (n : Nat) (xs : List Value) (hl : w.ownsRow base 9 1 l n xs) (hn : n < 68719476736) (hd : ∀ q, l.ownBlock = some q → ¬ Ft4 B f q) (ht : t + 1 < 68719476736) :
    Calls Tryz.prog 52 #[.pointer (some ⟨B, 0, none⟩), l] w fun e w' => e = .returned (.tuple #[]) ∧ Hid (Pt4 w base B f t d (fun q => l.ownBlock = some q) 1 w') :=
  (textsM_any h.blk h.n (h.r 1).1 (h.r 1).2.1 h.c54 h.c56 (h.k 1) l n xs hl hn (fun e he q h1 h2 => hd q h2 (.inr ⟨1, .inr (.inr ⟨e, he, h1⟩)⟩)) ht h.hu h.sz).mono (fun _ _ h1 => ⟨h1.1, h.put 1 h1.2.out hd ht⟩)
theorem bkLinks_any {w : World} {base B : Nat} {C : Array Value} {f : Fin 4 → Fs} {t d u : Nat} (h : Bkq w base B C f t d u) (l : Value) (n : Nat) (xs : List Value) (hl : w.ownsRow base 53 4 l n xs) (hn : n < 68719476736) (hd : ∀ q, l.ownBlock = some q → ¬ Ft4 B f q) (ht : t + 1 < 68719476736) :
    Calls Tryz.prog 27 #[.pointer (some ⟨B, 0, none⟩), l] w fun e w' => e = .returned (.tuple #[]) ∧ Hid (Pt4 w base B f t d (fun q => l.ownBlock = some q) 1 w') :=
  (linksM_any h.blk h.n (h.r 2).1 (h.r 2).2.1 h.c54 h.c56 (h.k 2) l n xs hl hn (fun e he q h1 h2 => hd q h2 (.inr ⟨2, .inr (.inr ⟨e, he, h1⟩)⟩)) ht h.hu h.sz).mono (fun _ _ h1 => ⟨h1.1, h.put 2 h1.2.out hd ht⟩)
theorem Oti.kp {w w' : World} {base : Nat} {D S : Nat → Prop} {is : List Tv} {vi : Value} {L : List (Array Value)} {E : Nat → Nat → Prop} (h : Oti w base D is vi L E) (hk : Kp S w w') (h1 : ∀ q, vi.ownBlock = some q → ¬ S q) (h2 : ∀ i, i < is.length → ∀ q, E i q → ¬ S q) : Oti w' base D is vi L E :=
  ⟨hk.owns h.hv h1, h.hL, h.h13, h.hD, h.hE, h.hdj, fun i u c e1 e2 => (h.hcs i u c e1 e2).kp hk (h2 i (List.getElem?_eq_some_iff.1 e1).1)⟩
set_option maxRecDepth 1000000 in
set_option maxHeartbeats 1000000 in
theorem bvalue_step (t : Tv) (ih : ∀ u ∈ t.is, BvC u) : BvC t := by
  intro w base B C f tt d u D c hok hots hD hm htt
  obtain ⟨vy, vk, vi, L, E, rfl, hbd, hy, hk, hi, hDy, hDk, hE⟩ := hots.parts
  have hme := tmuch_eq t
  have hb0 := below_alloc4 w (.cells (vcs t vy vk vi) 55)
  have hk0 : Kp (fun _ => False) w (w.alloc (.cells (vcs t vy vk vi) 55)) := Kp.of_below hb0
  have HG0 := hide (heap_alloc_new w (.cells (vcs t vy vk vi) 55))
  have HOK := hide (hok.next hb0)
  have HY := hide (hk0.owns hy (fun _ _ e => e))
  have HKK := hide (hk0.owns hk (fun _ _ e => e))
  have HI := hide (hi.kp hk0 (fun _ _ e => e) (fun _ _ _ _ e => e))
  have HDD : Hid (∀ q, D q → q < w.heap.size ∧ ¬ Ft4 B f q) := hD
  have HFP : Hid (¬ Ft4 B f w.heap.size) := fun e => by have := (hok.lt _ e).2; omega
  have HSZ0 : Hid ((w.alloc (.cells (vcs t vy vk vi) 55)).heap.size = w.heap.size + 1) := by show _ = _; simp
  have HP0 : Hid (∀ L0 n wx, Pt4 (w.alloc (.cells (vcs t vy vk vi) 55)) base B f tt d L0 n wx → (∀ q, L0 q → D q) → Pt4 w base B f tt d D n wx) := fun L0 n wx hp hL => by
    obtain ⟨C', f', u', h1, h2, h3⟩ := hp
    refine ⟨C', f', u', h1, (hk0.mono (fun _ _ e => e.elim)).trans h2 (fun q _ e => e.imp id (hL q)), fun q e => ?_⟩
    rcases h3 q e with h | h | h
    · exact .inl h
    · exact .inr (.inl (hL q h))
    · exact .inr (.inr (Nat.le_trans hb0.size h))
  have HIH := hide ih
  have HDY := hide hDy
  have HDK := hide hDk
  have HEE := hide hE
  have HTT := hide htt
  have hml := tmuchL_len t.is
  have HYL : Hid (t.y.length < 68719476736) := by have := hbd.y; show _ < _; omega
  have HKL : Hid (t.ks.length < 68719476736) := by show _ < _; omega
  have HML : Hid (tmuchL t.is ≤ 100000 ∧ 1 + tmuchL t.is ≤ tmuch t) := ⟨by omega, by omega⟩
  obtain ⟨ay, cy, hvy⟩ := own_slice hy
  obtain ⟨ak, ck, hvk⟩ := own_slice hk
  obtain ⟨ai, ci, hvi⟩ := own_slice hi.hv
  subst hvy
  subst hvk
  subst hvi
  clear hok hots hD hm hbd htt hy hk hi hDy hDk hE hme hb0 hk0 ih hml
  have HC0 : Hid ((vcs t (.slice ay t.y.length cy) (.slice ak t.ks.length ck) (.slice ai t.is.length ci))[0]? = some (.int .i64 t.k)) := rfl
  have HC6 : Hid ((vcs t (.slice ay t.y.length cy) (.slice ak t.ks.length ck) (.slice ai t.is.length ci))[6]? = some (.slice ay t.y.length cy)) := rfl
  have HC11 : Hid ((vcs t (.slice ay t.y.length cy) (.slice ak t.ks.length ck) (.slice ai t.is.length ci))[11]? = some (.slice ak t.ks.length ck)) := rfl
  have HC12 : Hid ((vcs t (.slice ay t.y.length cy) (.slice ak t.ks.length ck) (.slice ai t.is.length ci))[12]? = some (.slice ai t.is.length ci)) := rfl
  generalize vcs t (.slice ay t.y.length cy) (.slice ak t.ks.length ck) (.slice ai t.is.length ci) = cs at *
  go_enter Tryz.func23, Tryz.ntmps23
  go_upto_region 1 with fail
  generalize w.alloc (.cells cs 55) = w0 at *
  rename_i KR hKR KC hKC
  have HR : Hid (∀ (x4 x5 x6 x7 x8 x9 x10 x11 x12 x13 x14 x15 x16 : Value) (wx : World), Hid (∃ n, n ≤ 1 ∧ Pt4 w0 base B f tt d (fun q => (Value.slice ay t.y.length cy).ownBlock = some q) n wx) → KR { tmps := #[.pointer (some ⟨B, 0, none⟩), .agg cs, undef, .pointer (some ⟨w.heap.size, 0, none⟩), x4, x5, x6, x7, x8, x9, x10, x11, x12, x13, x14, x15, x16, undef, undef, undef, undef, undef, undef, undef, undef, undef, undef, undef, undef, undef, undef, undef, undef, undef, undef, undef, undef, undef, undef, undef, undef, undef, undef, undef, undef, undef, undef, undef], defers := [] } wx) := by
    intro x4 x5 x6 x7 x8 x9 x10 x11 x12 x13 x14 x15 x16 w1 hcut
    refine hKR _ _ ?_
    clear hKC KC hKR
    obtain ⟨n1, hn1, C1, f1, u1, hok1, hk1, hf1⟩ := hcut.out
    have e0 := HSZ0.out
    have hp1 : ¬ Ft4 B f1 w.heap.size := fun e => by
      rcases hf1 _ e with h | h | h
      · exact HFP.out h
      · have := (HDD.out _ (HDY.out _ h)).1
        omega
      · omega
    have hd1 : ∀ q, D q → (Value.slice ay t.y.length cy).ownBlock ≠ some q → ¬ Ft4 B f1 q := fun q hq hne e => by
      have h0 := HDD.out q hq
      rcases hf1 q e with h | h | h
      · exact h0.2 h
      · exact hne h
      · omega
    have HN1 := hide hn1
    have HOK1 := hide hok1
    have HG1 : Hid (w1.heap[w.heap.size]? = some (.cells cs 55 (0, 0))) := (hk1.block _ (blk_lt HG0.out) (fun e => by
      rcases e with e | e
      · exact HFP.out e
      · have := (HDD.out _ (HDY.out _ e)).1
        omega)).trans HG0.out
    have HK1 : Hid (w1.ownsRow base 9 1 (.slice ak t.ks.length ck) t.ks.length (sv t.ks)) := hk1.owns HKK.out (fun q hq e => by
      rcases e with e | e
      · exact (HDD.out q (HDK.out q hq)).2 e
      · exact own_apart HKK.out HY.out (by decide) hq e)
    have HI1 : Hid (Oti w1 base D t.is (.slice ai t.is.length ci) L E) := HI.out.kp hk1 (fun q hq e => by
      rcases e with e | e
      · exact (HDD.out q (HI.out.hD q hq)).2 e
      · exact own_apart HI.out.hv HY.out (by decide) hq e) (fun i hi q hq e => by
      rcases e with e | e
      · exact (HDD.out q (HI.out.hE i hi q hq).1).2 e
      · exact (HEE.out i hi q hq).1 e)
    have HP1 : Hid (Pt4 w0 base B f tt d (fun q => (Value.slice ay t.y.length cy).ownBlock = some q) n1 w1) := ⟨C1, f1, u1, hok1, hk1, hf1⟩
    have HD1 := hide hd1
    have HFP1 : Hid (¬ Ft4 B f1 w.heap.size) := hp1
    have HK01 := hide hk1
    have HF01 := hide hf1
    have HSZ1 : Hid (w0.heap.size ≤ w1.heap.size) := hk1.size
    have HDK1 : Hid (∀ q, (Value.slice ak t.ks.length ck).ownBlock = some q → ¬ Ft4 B f1 q) := fun q hq => hd1 q (HDK.out q hq) (fun e => own_apart HKK.out HY.out (by decide) hq e)
    clear hn1 hok1 hk1 hf1 hp1 hd1 hcut e0
    go_upto_region 3 with fail
    rename_i KR2 hKR2 KC2 hKC2
    have HR2 : Hid (∀ (x17 x18 x19 x20 x21 x22 x23 x24 x25 x26 x27 x28 x29 : Value) (wx : World), Hid (∃ n, n ≤ 1 ∧ Pt4 w1 base B f1 (tt + n1) d (fun q => (Value.slice ak t.ks.length ck).ownBlock = some q) n wx) → KR2 { tmps := #[.pointer (some ⟨B, 0, none⟩), .agg cs, undef, .pointer (some ⟨w.heap.size, 0, none⟩), x4, x5, x6, x7, x8, x9, x10, x11, x12, x13, x14, x15, x16, x17, x18, x19, x20, x21, x22, x23, x24, x25, x26, x27, x28, x29, undef, undef, undef, undef, undef, undef, undef, undef, undef, undef, undef, undef, undef, undef, undef, undef, undef, undef], defers := [] } wx) := by
      intro x17 x18 x19 x20 x21 x22 x23 x24 x25 x26 x27 x28 x29 w2 hcut
      refine hKR2 _ _ ?_
      clear hKC2 KC2 hKR2
      obtain ⟨n2, hn2, hp2⟩ := hcut.out
      have HP2 : Hid (Pt4 w0 base B f tt d D (n1 + n2) w2) := Pt4.trans HK01.out HF01.out hp2 (fun q e => HDY.out q e) (fun q e => HDK.out q e)
      obtain ⟨C2, f2, u2, hok2, hk2, hf2⟩ := hp2
      have e0 := HSZ0.out
      have e1 := HSZ1.out
      have HN2 : Hid (n1 + n2 ≤ 2) := by have := HN1.out; show _ ≤ _; omega
      have HOK2 : Hid (Bkq w2 base B C2 f2 (tt + (n1 + n2)) d u2) := by rw [← Nat.add_assoc]; exact hok2
      have HG2 : Hid (w2.heap[w.heap.size]? = some (.cells cs 55 (0, 0))) := (hk2.block _ (blk_lt HG1.out) (fun e => by
        rcases e with e | e
        · exact HFP1.out e
        · have := (HDD.out _ (HDK.out _ e)).1
          omega)).trans HG1.out
      have HI2 : Hid (Oti w2 base (fun q => D q ∧ (Value.slice ay t.y.length cy).ownBlock ≠ some q ∧ (Value.slice ak t.ks.length ck).ownBlock ≠ some q) t.is (.slice ai t.is.length ci) L E) := by
        have h := HI1.out.kp hk2 (fun q hq e => by
          rcases e with e | e
          · exact HD1.out q (HI.out.hD q hq) (fun e2 => own_apart HI.out.hv HY.out (by decide) hq e2) e
          · exact own_apart HI1.out.hv HK1.out (by decide) hq e) (fun i hi q hq e => by
          rcases e with e | e
          · exact HD1.out q (HI.out.hE i hi q hq).1 (HEE.out i hi q hq).1 e
          · exact (HEE.out i hi q hq).2 e)
        exact ⟨h.hv, h.hL, h.h13, fun q hq => ⟨h.hD q hq, fun e2 => own_apart HI.out.hv HY.out (by decide) hq e2, fun e2 => own_apart HI1.out.hv HK1.out (by decide) hq e2⟩, fun i hi q hq => ⟨⟨(h.hE i hi q hq).1, (HEE.out i hi q hq).1, (HEE.out i hi q hq).2⟩, (h.hE i hi q hq).2⟩, h.hdj, h.hcs⟩
      have HD2 : Hid (∀ q, D q ∧ (Value.slice ay t.y.length cy).ownBlock ≠ some q ∧ (Value.slice ak t.ks.length ck).ownBlock ≠ some q → q < w2.heap.size ∧ ¬ Ft4 B f2 q) := fun q hq => by
        have h0 := HDD.out q hq.1
        have hz := hk2.size
        refine ⟨by omega, fun e => ?_⟩
        rcases hf2 q e with h | h | h
        · exact HD1.out q hq.1 hq.2.1 h
        · exact hq.2.2 h
        · omega
      have HCA := hide (bvalues_any t.is HIH.out w2 base B C2 f2 (tt + (n1 + n2)) d u2 _ (.slice ai t.is.length ci) L E HOK2.out HI2.out HD2.out HML.out.1 (by have h1 := HTT.out; have h2 := HML.out; have h3 := HN2.out; omega))
      have HEND : Hid (∀ n3 wx, n3 ≤ 3 * tmuchL t.is + 1 → Pt4 w2 base B f2 (tt + (n1 + n2)) d (fun q => D q ∧ (Value.slice ay t.y.length cy).ownBlock ≠ some q ∧ (Value.slice ak t.ks.length ck).ownBlock ≠ some q) n3 wx → ∃ n, n ≤ 3 * tmuch t ∧ Pt4 w base B f tt d D n wx) := fun n3 wx hn3 hp3 => by
        have hkk : Kp (fun q => Ft4 B f q ∨ D q) w0 w2 := (HK01.out.mono (fun q _ e => e.imp id (HDY.out q))).trans hk2 (fun q hq e => by
          rcases e with e | e
          · rcases HF01.out q e with h | h | h
            · exact .inl h
            · exact .inr (HDY.out q h)
            · omega
          · exact .inr (HDK.out q e))
        have hff : ∀ q, Ft4 B f2 q → Ft4 B f q ∨ D q ∨ w0.heap.size ≤ q := fun q e => by
          rcases hf2 q e with h | h | h
          · rcases HF01.out q h with h | h | h
            · exact .inl h
            · exact .inr (.inl (HDY.out q h))
            · exact .inr (.inr h)
          · exact .inr (.inl (HDK.out q h))
          · exact .inr (.inr (Nat.le_trans e1 h))
        exact ⟨n1 + n2 + n3, by have h2 := HML.out; have h3 := HN2.out; omega, HP0.out D _ wx (Pt4.trans hkk hff hp3 (fun q e => e) (fun q e => e.1)) (fun q e => e)⟩
      have HNO : Hid (∃ n, n ≤ 3 * tmuch t ∧ Pt4 w base B f tt d D n w2) := ⟨n1 + n2, by have h2 := HML.out; have h3 := HN2.out; omega, HP0.out D _ w2 HP2.out (fun q e => e)⟩
      have q0 := blk_cell HG2.out HC0.out
      have q12 := blk_cell HG2.out HC12.out
      clear hn2 hok2 hk2 hf2 hcut e0 e1
      by_cases h8 : t.k = 8
      · as_aux_lemma =>
        have g8 : (t.k == 8) = true := beq_iff_eq.2 h8
        clear h8
        go_wp2_with fail
        refine HCA.out.mono ?_
        rintro e w3 ⟨rfl, hp⟩
        obtain ⟨n3, hn3, hp3⟩ := hp.out
        have HFI := hide (HEND.out n3 w3 hn3 hp3)
        clear hp hn3 hp3
        go_wp2
        go_end0
        exact ⟨rfl, HFI⟩
      have g8 : (t.k == 8) = false := beq_eq_false_iff_ne.2 h8
      by_cases h9 : t.k = 9
      · as_aux_lemma =>
        have g9 : (t.k == 9) = true := beq_iff_eq.2 h9
        clear h8 h9
        go_wp2_with fail
        refine HCA.out.mono ?_
        rintro e w3 ⟨rfl, hp⟩
        obtain ⟨n3, hn3, hp3⟩ := hp.out
        have HFI := hide (HEND.out n3 w3 hn3 hp3)
        clear hp hn3 hp3
        go_wp2
        go_end0
        exact ⟨rfl, HFI⟩
      have g9 : (t.k == 9) = false := beq_eq_false_iff_ne.2 h9
      clear h8 h9
      by_cases hi0 : 0 < t.is.length
      · as_aux_lemma =>
        have gi : (0 : Int) < (t.is.length : Int) := by omega
        go_wp2_with fail
        refine HCA.out.mono ?_
        rintro e w3 ⟨rfl, hp⟩
        obtain ⟨n3, hn3, hp3⟩ := hp.out
        have HFI := hide (HEND.out n3 w3 hn3 hp3)
        clear hp hn3 hp3
        go_wp2
        go_end0
        exact ⟨rfl, HFI⟩
      · as_aux_lemma =>
        have gi : ¬ (0 : Int) < (t.is.length : Int) := by omega
        go_wp2
        go_end0
        exact ⟨rfl, HNO⟩
    clear hKR2
    have q0 := blk_cell HG1.out HC0.out
    have q11 := blk_cell HG1.out HC11.out
    have HCA := hide (bkTexts_any HOK1.out (.slice ak t.ks.length ck) t.ks.length _ HK1.out HKL.out HDK1.out (by have h1 := HTT.out; have h2 := HML.out; have h3 := HN1.out; omega))
    have HN0 : Hid (∃ n, n ≤ 1 ∧ Pt4 w1 base B f1 (tt + n1) d (fun q => (Value.slice ak t.ks.length ck).ownBlock = some q) n w1) := ⟨0, by omega, Pt4.none HOK1.out _⟩
    by_cases h6 : t.k = 9
    · have g6 : (t.k == 9) = true := beq_iff_eq.2 h6
      clear h6
      go_wp2_with fail
      refine HCA.out.mono ?_
      rintro e w2 ⟨rfl, hp⟩
      have HP2 : Hid (∃ n, n ≤ 1 ∧ Pt4 w1 base B f1 (tt + n1) d (fun q => (Value.slice ak t.ks.length ck).ownBlock = some q) n w2) := ⟨1, by omega, hp.out⟩
      clear hp
      go_wp2_with fail
      exact HR2.out _ _ _ _ _ _ _ _ _ _ _ _ _ _ HP2
    · have g6 : (t.k == 9) = false := beq_eq_false_iff_ne.2 h6
      clear h6
      by_cases hy0 : 0 < t.ks.length
      · have gy : (0 : Int) < (t.ks.length : Int) := by omega
        go_wp2_with fail
        refine HCA.out.mono ?_
        rintro e w2 ⟨rfl, hp⟩
        have HP2 : Hid (∃ n, n ≤ 1 ∧ Pt4 w1 base B f1 (tt + n1) d (fun q => (Value.slice ak t.ks.length ck).ownBlock = some q) n w2) := ⟨1, by omega, hp.out⟩
        clear hp
        go_wp2_with fail
        exact HR2.out _ _ _ _ _ _ _ _ _ _ _ _ _ _ HP2
      · have gy : ¬ (0 : Int) < (t.ks.length : Int) := by omega
        go_wp2_with fail
        exact HR2.out _ _ _ _ _ _ _ _ _ _ _ _ _ _ HN0
  clear hKR
  have q0 := blk_cell HG0.out HC0.out
  have q6 := blk_cell HG0.out HC6.out
  have HCA := hide (bkBytes_any HOK.out (.slice ay t.y.length cy) t.y.length _ HY.out HYL.out (fun q e => (HDD.out q (HDY.out q e)).2) (by have h1 := HTT.out; have h2 := HML.out; omega))
  have HN0 : Hid (∃ n, n ≤ 1 ∧ Pt4 w0 base B f tt d (fun q => (Value.slice ay t.y.length cy).ownBlock = some q) n w0) := ⟨0, by omega, Pt4.none HOK.out _⟩
  by_cases h6 : t.k = 6
  · have g6 : (t.k == 6) = true := beq_iff_eq.2 h6
    clear h6
    go_wp2_with fail
    refine HCA.out.mono ?_
    rintro e w1 ⟨rfl, hp⟩
    have HP1 : Hid (∃ n, n ≤ 1 ∧ Pt4 w0 base B f tt d (fun q => (Value.slice ay t.y.length cy).ownBlock = some q) n w1) := ⟨1, by omega, hp.out⟩
    clear hp
    go_wp2_with fail
    exact HR.out _ _ _ _ _ _ _ _ _ _ _ _ _ _ HP1
  · have g6 : (t.k == 6) = false := beq_eq_false_iff_ne.2 h6
    clear h6
    by_cases hy0 : 0 < t.y.length
    · have gy : (0 : Int) < (t.y.length : Int) := by omega
      go_wp2_with fail
      refine HCA.out.mono ?_
      rintro e w1 ⟨rfl, hp⟩
      have HP1 : Hid (∃ n, n ≤ 1 ∧ Pt4 w0 base B f tt d (fun q => (Value.slice ay t.y.length cy).ownBlock = some q) n w1) := ⟨1, by omega, hp.out⟩
      clear hp
      go_wp2_with fail
      exact HR.out _ _ _ _ _ _ _ _ _ _ _ _ _ _ HP1
    · have gy : ¬ (0 : Int) < (t.y.length : Int) := by omega
      go_wp2_with fail
      exact HR.out _ _ _ _ _ _ _ _ _ _ _ _ _ _ HN0
theorem bvalue_any (t : Tv) : BvC t := by
  have h : ∀ N, ∀ t : Tv, SizeOf.sizeOf t = N → BvC t := by
    intro N
    induction N using Nat.strongRecOn with
    | _ N ih => exact fun t hN => bvalue_step t (fun u hu => ih _ (by rw [← hN]; exact Tv.is_lt hu) u rfl)
  exact h _ t rfl
/-- A new book. -/
theorem bk4_new (w : World) : Bk4 (w.alloc (.cells (bookCells (.slice none 0 0) (.slice none 0 0) 0 0 0 0) 48)) w.heap.size w.heap.size (fun q => q = w.heap.size) 0 := by
  refine ⟨_, fun _ => ⟨.slice none 0 0, .slice none 0 0, [], 0⟩, 0, 0, ⟨heap_alloc_new w _, rfl, rfl, rfl, rfl, fun i => ?_, fun k hk => ?_, fun i => Ko.none _ _ _ _ _, (fun _ _ _ _ h => by cases h), Nat.le_refl _, by decide, by decide⟩, fun q hq => ?_⟩
  · match i with
    | 0 => exact ⟨rfl, rfl, rfl⟩
    | 1 => exact ⟨rfl, rfl, rfl⟩
    | 2 => exact ⟨rfl, rfl, rfl⟩
    | 3 => exact ⟨rfl, rfl, rfl⟩
  · rcases hk with rfl | rfl | rfl | rfl | rfl | rfl | rfl | rfl | rfl | rfl | rfl | rfl | rfl | rfl <;> exact ⟨rfl, rfl⟩
  · rcases hq with h | ⟨i, h | h | ⟨e, he, h⟩⟩
    · exact h
    · cases h
    · cases h
    · cases he
end
section
open Go.RowKit Go
theorem Top.self (t : Tv) : Top t t := ⟨rfl, rfl, rfl, rfl, rfl, rfl, rfl, rfl⟩
theorem pickS_range (ks : List ByteArray) : pickS ks (List.range ks.length) = ks := by
  apply List.ext_getElem?
  intro i
  by_cases hi : i < ks.length
  · rw [pickS_at (List.getElem?_range hi), List.getElem?_eq_getElem hi]
    simp [List.getD, List.getElem?_eq_getElem hi]
  · rw [List.getElem?_eq_none (by rw [pickS_len]; simpa using hi), List.getElem?_eq_none (by omega)]
/-- What is sorted is its own sorted form. -/
theorem srt_idem {t s : Tv} (h : SrtR t s) : SrtR s s := by
  induction h with
  | rest t s h9 ht hk hn hi ih =>
    refine SrtR.rest s s (by rw [ht.k]; exact h9) (Top.self s) rfl rfl (fun i u v hu hv => ?_)
    rw [hu] at hv
    injection hv with hv
    subst hv
    have hl := (List.getElem?_eq_some_iff.1 hu).1
    exact ih i _ u (List.getElem?_eq_getElem (by omega)) hu
  | map t s ps h9 ht hp hk hn hi ih =>
    have hkl : s.ks.length = ps.length := by rw [hk, pickS_len]
    have hpl := hp.len
    have hm : min s.ks.length s.is.length = s.ks.length := by omega
    refine SrtR.map s s (List.range s.ks.length) (by rw [ht.k]; exact h9) (Top.self s) ?_ (pickS_range s.ks).symm (by simp; omega) (fun i p u v hp' hu hv => ?_)
    · rw [hm]
      refine ⟨List.Perm.refl _, fun i j p q hij h1 h2 => ?_⟩
      have l1 := (List.getElem?_eq_some_iff.1 h1).1
      have l2 := (List.getElem?_eq_some_iff.1 h2).1
      simp at l1 l2
      rw [List.getElem?_range l1] at h1
      rw [List.getElem?_range l2] at h2
      injection h1 with h1
      injection h2 with h2
      subst h1
      subst h2
      have g1 : ps[i]? = some (ps[i]'(by omega)) := List.getElem?_eq_getElem (by omega)
      have g2 : ps[j]? = some (ps[j]'(by omega)) := List.getElem?_eq_getElem (by omega)
      have hs := hp.s i j _ _ hij g1 g2
      have k1 := pickS_at (ks := t.ks) g1
      have k2 := pickS_at (ks := t.ks) g2
      rw [← hk] at k1 k2
      simp only [List.getD, k1, k2, Option.getD_some]
      exact hs
    · have l1 := (List.getElem?_eq_some_iff.1 hp').1
      simp at l1
      rw [List.getElem?_range l1] at hp'
      injection hp' with hp'
      subst hp'
      rw [hu] at hv
      injection hv with hv
      subst hv
      have g1 : ps[i]? = some (ps[i]'(by omega)) := List.getElem?_eq_getElem (by omega)
      have m1 := hp.lt _ (List.mem_of_getElem? g1)
      exact ih i _ _ u g1 (List.getElem?_eq_getElem (by omega)) hu
theorem trk_srt {t s : Tv} (h : SrtR t s) : Trk t → Trk s := by
  induction h with
  | rest t s h9 ht hk hn hi ih =>
    intro hT
    refine Trk.mk s (fun e => absurd (ht.k.symm.trans e) h9) (fun _ => by rw [hk]; exact hT.e h9) (fun v hv => ?_)
    obtain ⟨i, hil, e⟩ := List.getElem_of_mem hv
    have hs : s.is[i]? = some v := by rw [List.getElem?_eq_getElem hil, e]
    have hu := List.getElem?_eq_getElem (show i < t.is.length by omega)
    exact ih i _ v hu hs (hT.i _ (List.mem_of_getElem? hu))
  | map t s ps h9 ht hp hk hn hi ih =>
    intro hT
    obtain ⟨l1, l2, f⟩ := hT.m h9
    have hpl := hp.len
    refine Trk.mk s (fun _ => ⟨by rw [hk, pickS_len, hn], ?_, by rw [ht.f]; exact f.1, by rw [ht.g]; exact f.2.1, by rw [ht.n]; exact f.2.2.1, by rw [ht.b]; exact f.2.2.2.1, by rw [ht.s]; exact f.2.2.2.2.1, by rw [ht.y]; exact f.2.2.2.2.2.1, by rw [ht.l]; exact f.2.2.2.2.2.2⟩) (fun e => absurd (ht.k.trans h9) e) (fun v hv => ?_)
    · rw [hk, List.Nodup, List.pairwise_iff_getElem]
      intro i j hi' hj' hij e
      rw [pickS_len] at hi' hj'
      have hnd : ps.Nodup := hp.p.nodup_iff.2 List.nodup_range
      have hx := List.pairwise_iff_getElem.1 hnd i j hi' hj' hij
      have m1 := hp.lt _ (List.getElem_mem hi')
      have m2 := hp.lt _ (List.getElem_mem hj')
      refine hx (nodup_at l2 (by omega) (by omega) ?_)
      simpa [pickS] using e
    · obtain ⟨i, hil, e⟩ := List.getElem_of_mem hv
      have hs : s.is[i]? = some v := by rw [List.getElem?_eq_getElem hil, e]
      have g1 : ps[i]? = some (ps[i]'(by omega)) := List.getElem?_eq_getElem (by omega)
      have m1 := hp.lt _ (List.mem_of_getElem? g1)
      have hu := List.getElem?_eq_getElem (show ps[i]'(by omega) < t.is.length by omega)
      exact ih i _ _ v g1 hu hs (hT.i _ (List.mem_of_getElem? hu))
end
section
open Go.RowKit Go
def saa : ByteArray := ⟨#[97, 97]⟩
def sbb : ByteArray := ⟨#[98]⟩
def tone : Tv := .mk 3 false false 1 0 ⟨#[]⟩ [] ⟨0, 0, 0, []⟩ [] []
def tnull : Tv := .mk 1 false false 0 0 ⟨#[]⟩ [] ⟨0, 0, 0, []⟩ [] []
/-- The map of two entries. -/
def ttwo : Tv := .mk 9 false false 0 0 ⟨#[]⟩ [] ⟨0, 0, 0, []⟩ [saa, sbb] [tone, tnull]
theorem lkb0 : Lkb ⟨0, 0, 0, []⟩ := ⟨by show 0 < _; decide, by show 0 < _; decide, by simp, by show 0 ≤ _; decide⟩
theorem bsl0 (w : World) : BSl w (.slice none 0 0) [] := ⟨⟨none, 0, rfl, ⟨by simp, fun _ => rfl⟩, .inl rfl⟩, by simp, by simp⟩
theorem ssl0 (w : World) : SSl w (.slice none 0 0) [] := ⟨⟨none, 0, rfl, ⟨by simp, fun _ => rfl⟩, .inl rfl⟩, by simp, by simp⟩
theorem vsl0 (w : World) : VSl w (.slice none 0 0) [] := ⟨⟨none, 0, rfl, ⟨by simp, fun _ => rfl⟩, .inl rfl⟩, by simp⟩
theorem tin_one (w : World) : Tin w tone (vcs tone (.slice none 0 0) (.slice none 0 0) (.slice none 0 0)) := Tin.of (bsl0 w) (ssl0 w) (vsl0 w) ⟨by show 1 < _; decide, by show 0 < _; decide, by show (0 : Nat) ≤ _; decide, by show (0 : Nat) ≤ _; decide, lkb0, by show (0 : Nat) ≤ _; decide⟩
theorem tin_null (w : World) : Tin w tnull (vcs tnull (.slice none 0 0) (.slice none 0 0) (.slice none 0 0)) := Tin.of (bsl0 w) (ssl0 w) (vsl0 w) ⟨by show 0 < _; decide, by show 0 < _; decide, by show (0 : Nat) ≤ _; decide, by show (0 : Nat) ≤ _; decide, lkb0, by show (0 : Nat) ≤ _; decide⟩
def cTwo (n : Nat) : Array Value := vcs ttwo (.slice none 0 0) (.slice (some ⟨n + 1 + 1, 0, none⟩) 2 2) (.slice (some ⟨n + 1 + 1 + 1, 0, none⟩) 2 2)
def cOne : Array Value := vcs tone (.slice none 0 0) (.slice none 0 0) (.slice none 0 0)
def cNul : Array Value := vcs tnull (.slice none 0 0) (.slice none 0 0) (.slice none 0 0)
def wTwo (w : World) : World := (((w.alloc (.cells (cTwo w.heap.size) 55)).alloc (.cells cOne 55)).alloc (.cells #[.string saa, .string sbb] 9)).alloc (.cells (cOne ++ cNul) 55)
theorem two_tin (w : World) : Tin (wTwo w) ttwo (cTwo w.heap.size) ∧ Below w.heap.size w (wTwo w) ∧ (wTwo w).heap[w.heap.size]? = some (.cells (cTwo w.heap.size) 55 (0, 0)) := by
  have e1 : (w.alloc (.cells (cTwo w.heap.size) 55)).heap.size = w.heap.size + 1 := by simp
  have e2 : ((w.alloc (.cells (cTwo w.heap.size) 55)).alloc (.cells cOne 55)).heap.size = w.heap.size + 1 + 1 := by simp
  have e3 : (((w.alloc (.cells (cTwo w.heap.size) 55)).alloc (.cells cOne 55)).alloc (.cells #[.string saa, .string sbb] 9)).heap.size = w.heap.size + 1 + 1 + 1 := by simp
  have h1 := heap_alloc_new w (.cells (cTwo w.heap.size) 55)
  have h3 := heap_alloc_new ((w.alloc (.cells (cTwo w.heap.size) 55)).alloc (.cells cOne 55)) (.cells #[.string saa, .string sbb] 9)
  have h4 := heap_alloc_new (((w.alloc (.cells (cTwo w.heap.size) 55)).alloc (.cells cOne 55)).alloc (.cells #[.string saa, .string sbb] 9)) (.cells (cOne ++ cNul) 55)
  rw [e2] at h3
  rw [e3] at h4
  have hK : (wTwo w).heap[w.heap.size + 1 + 1]? = some (.cells #[.string saa, .string sbb] 9 (0, 0)) := blk_alloc _ h3
  have hI : (wTwo w).heap[w.heap.size + 1 + 1 + 1]? = some (.cells (cOne ++ cNul) 55 (0, 0)) := h4
  have b1 := below_alloc4 w (.cells (cTwo w.heap.size) 55)
  have b2 := below_alloc4 (w.alloc (.cells (cTwo w.heap.size) 55)) (.cells cOne 55)
  have b3 := below_alloc4 ((w.alloc (.cells (cTwo w.heap.size) 55)).alloc (.cells cOne 55)) (.cells #[.string saa, .string sbb] 9)
  have b4 := below_alloc4 (((w.alloc (.cells (cTwo w.heap.size) 55)).alloc (.cells cOne 55)).alloc (.cells #[.string saa, .string sbb] 9)) (.cells (cOne ++ cNul) 55)
  refine ⟨Tin.of (bsl0 _) ?_ ?_ ⟨by show 0 < _; decide, by show 0 < _; decide, by show (0 : Nat) ≤ _; decide, by show (0 : Nat) ≤ _; decide, lkb0, by show (0 : Nat) ≤ _; decide⟩, ((b1.trans (b2.mono (by omega))).trans (b3.mono (by omega))).trans (b4.mono (by omega)), blk_alloc _ (blk_alloc _ (blk_alloc _ h1))⟩
  · refine ⟨⟨_, 2, rfl, ⟨by decide, fun h => by cases h⟩, .inr ⟨w.heap.size + 1 + 1, 0, rfl, fun j s hj => ?_⟩⟩, by decide, fun s hs => ?_⟩
    · rw [Nat.zero_add]
      match j, hj with
      | 0, hj =>
        injection hj with hj
        subst hj
        exact blk_cell hK rfl
      | 1, hj =>
        injection hj with hj
        subst hj
        exact blk_cell hK rfl
      | j + 2, hj => simp [ttwo, Tv.ks] at hj
    · simp only [ttwo, Tv.ks, List.mem_cons, List.not_mem_nil, or_false] at hs
      rcases hs with rfl | rfl
      · show (2 : Nat) ≤ _
        decide
      · show (1 : Nat) ≤ _
        decide
  · refine ⟨⟨_, 2, rfl, ⟨by decide, fun h => by cases h⟩, .inr ⟨w.heap.size + 1 + 1 + 1, 0, rfl, fun i t hi => ?_⟩⟩, by decide⟩
    match i, hi with
    | 0, hi =>
      injection hi with hi
      subst hi
      refine ⟨_, tin_one _, fun j u hu => ?_⟩
      rw [show 0 + 0 * 13 + j = j by omega]
      have hj : j < 13 := (Array.getElem?_eq_some_iff.1 hu).1
      exact blk_cell hI (by rw [Array.getElem?_append_left (by exact hj)]; exact hu)
    | 1, hi =>
      injection hi with hi
      subst hi
      refine ⟨_, tin_null _, fun j u hu => ?_⟩
      rw [show 0 + 1 * 13 + j = 13 + j by omega]
      exact blk_cell hI (by rw [Array.getElem?_append_right (by show 13 ≤ 13 + j; omega)]; show cNul[13 + j - 13]? = some u; rw [Nat.add_sub_cancel_left]; exact hu)
    | i + 2, hi => simp [ttwo, Tv.is] at hi
theorem end_tw {wx : World} {R : Nat} {c : Array Value} {tmps : Array Value} (hn : c.size = 13) (hr : wx.heap[R]? = some (.cells c 55 (0, 0))) (hp : tmps.getD 0 undef = .pointer (some ⟨R, 0, none⟩)) : (results Tryz.f35 tmps).run Tryz.prog wx = .ok (.agg c) wx := by
  refine (results_one (p := 0) (ty := 55) rfl _ _ _).trans ?_
  rw [hp]
  have h1 := run_loadVar_row (P := Tryz.prog) wx R 55 55 c (0, 0) _ hr Tryz.underlying55 rfl (by rw [hn]; exact infoV)
  simp [asAddr, h1, Result.andThen]
set_option maxRecDepth 1000000 in
set_option maxHeartbeats 1000000 in
theorem two_any (w : World) : Calls Tryz.prog 35 #[] w fun e w' => ∃ c, e = .returned (.agg c) ∧ Tin w' ttwo c ∧ Below w.heap.size w w' := by
  have HTW := hide (two_tin w)
  go_enter Tryz.func35, Tryz.ntmps35
  go_wp2_with fail
  exact bodyPost_ret (end_tw rfl HTW.out.2.2 rfl) rfl ⟨_, rfl, HTW.out.1, HTW.out.2.1⟩
end
section
open Go.RowKit Go
def ttwoS : Tv := .mk 9 false false 0 0 ⟨#[]⟩ [] ⟨0, 0, 0, []⟩ [sbb, saa] [tnull, tone]
theorem srt_leaf {t v : Tv} (h9 : t.k ≠ 9) (hi : t.is = []) (h : SrtR t v) : v = t := by
  cases h with
  | map _ _ _ e => exact absurd e h9
  | rest _ _ _ ht hk hn _ =>
    have e : v.is = [] := List.length_eq_zero_iff.1 (by rw [hn, hi]; rfl)
    exact Tv.same ht.k ht.f ht.g ht.n ht.b ht.s ht.l ht.y hk (by rw [e, hi])
theorem two_srp : Srp ttwo.ks 2 [1, 0] := by
  refine ⟨by decide, fun i j p q hij h1 h2 => ?_⟩
  have hj := (List.getElem?_eq_some_iff.1 h2).1
  simp at hj
  have e1 : i = 0 := by omega
  have e2 : j = 1 := by omega
  subst e1 e2
  simp at h1 h2
  subst h1 h2
  rfl
theorem two_srt {x : Tv} (h : SrtR ttwo x) : x = ttwoS := by
  cases h with
  | rest _ _ e => exact absurd rfl e
  | map _ _ ps _ ht hp hk hn hi =>
    have e := srp_one (ks := ttwo.ks) (n := 2) (by decide) (by decide) hp two_srp
    subst e
    have hks : x.ks = [sbb, saa] := hk
    have h2 : x.is.length = 2 := hn
    have g0 := List.getElem?_eq_getElem (show 0 < x.is.length by omega)
    have g1 := List.getElem?_eq_getElem (show 1 < x.is.length by omega)
    have v0 := srt_leaf (t := tnull) (by decide) rfl (hi 0 1 tnull _ rfl rfl g0)
    have v1 := srt_leaf (t := tone) (by decide) rfl (hi 1 0 tone _ rfl rfl g1)
    have his : x.is = [tnull, tone] := by
      apply List.ext_getElem?
      intro i
      match i with
      | 0 => rw [g0, v0]; rfl
      | 1 => rw [g1, v1]; rfl
      | i + 2 => rw [List.getElem?_eq_none (by omega), List.getElem?_eq_none (by simp)]
    exact Tv.same ht.k ht.f ht.g ht.n ht.b ht.s ht.l ht.y hks his
theorem two_trk : Trk ttwo := by
  refine Trk.mk ttwo (fun _ => ⟨rfl, by decide, rfl, rfl, rfl, rfl, rfl, rfl, rfl⟩) (fun e => absurd rfl e) (fun u hu => ?_)
  simp only [ttwo, Tv.is, List.mem_cons, List.not_mem_nil, or_false] at hu
  rcases hu with rfl | rfl
  · exact Trk.mk tone (fun e => absurd e (by decide)) (fun _ => rfl) (fun u hu => by simp [tone, Tv.is] at hu)
  · exact Trk.mk tnull (fun e => absurd e (by decide)) (fun _ => rfl) (fun u hu => by simp [tnull, Tv.is] at hu)
theorem two_eq (h : SrtR ttwo ttwoS) : eqf ttwo ttwoS = true := (eqf_teq ttwo ttwoS two_trk (trk_srt h two_trk)).2 ⟨ttwoS, h, srt_idem h⟩
theorem bad_e : badb ⟨#[]⟩ = false := by decide +kernel
theorem bad_aa : badb saa = false := by decide +kernel
theorem bad_bb : badb sbb = false := by decide +kernel
theorem one_chk : chkf tone 1 = 0 := by
  rw [chkf_eq]
  have h : onef tone 1 = 0 := by
    unfold onef
    rw [if_neg (by decide), if_neg (by decide), if_neg (by decide), if_neg (by rw [show tone.s = ⟨#[]⟩ from rfl, bad_e, show tone.ks = [] from rfl]; simp), if_neg (by intro h; exact absurd h.1 (by decide)), if_neg (by intro h; exact absurd h.1 (by decide))]
  rw [if_pos h]
  show chkL [] _ = 0
  rw [chkL]
theorem null_chk : chkf tnull 1 = 0 := by
  rw [chkf_eq]
  have h : onef tnull 1 = 0 := by
    unfold onef
    rw [if_neg (by decide), if_neg (by decide), if_neg (by decide), if_neg (by rw [show tnull.s = ⟨#[]⟩ from rfl, bad_e, show tnull.ks = [] from rfl]; simp), if_neg (by intro h; exact absurd h.1 (by decide)), if_neg (by intro h; exact absurd h.1 (by decide))]
  rw [if_pos h]
  show chkL [] _ = 0
  rw [chkL]
theorem two_chk : chkf ttwo 0 = 0 := by
  rw [chkf_eq]
  have h : onef ttwo 0 = 0 := by
    unfold onef
    rw [if_neg (by decide), if_neg (by decide), if_neg (by decide), if_neg (by rw [show ttwo.s = ⟨#[]⟩ from rfl, bad_e, show ttwo.ks = [saa, sbb] from rfl]; simp [bad_aa, bad_bb]), if_neg (by intro h; exact absurd h.1 (by decide)), if_neg (by intro h; exact h.2 ⟨rfl, by decide⟩)]
  rw [if_pos h]
  refine chkL_none (fun u hu => ?_)
  simp only [ttwo, Tv.is, List.mem_cons, List.not_mem_nil, or_false] at hu
  rcases hu with rfl | rfl
  · exact one_chk
  · exact null_chk
theorem zero_chk : chkf zt 0 = 61 := by
  rw [chkf_eq]
  have h : onef zt 0 = 61 := by
    unfold onef
    rw [if_neg (by decide), if_pos (by decide)]
  rw [h]
  rfl
theorem tin_zero (w : World) : Tin w zt zv := Tin.of (bsl0 w) (ssl0 w) (vsl0 w) ⟨by show 0 < _; decide, by show 0 < _; decide, by show (0 : Nat) ≤ _; decide, by show (0 : Nat) ≤ _; decide, lkb0, by show (0 : Nat) ≤ _; decide⟩
theorem two_much : tmuch ttwo ≤ 100000 ∧ tmuch ttwoS ≤ 100000 ∧ tmuch zt ≤ 100000 ∧ tdepth ttwo = 1 := by
  refine ⟨?_, ?_, ?_, ?_⟩ <;> decide +kernel
end
section
open Go.RowKit Go
/-! Sorted values once more: one sorted value, its depth, its links; values with maps' entries in another order. -/
theorem tv_ext {a b : Tv} (h : Top a b) (hk : a.ks = b.ks) (hi : a.is = b.is) : a = b := by
  obtain ⟨k, f, g, n, c, s, y, l, ks, is⟩ := a
  obtain ⟨k', f', g', n', c', s', y', l', ks', is'⟩ := b
  obtain ⟨h1, h2, h3, h4, h5, h6, h7, h8⟩ := h
  simp only [Tv.k, Tv.f, Tv.g, Tv.n, Tv.b, Tv.s, Tv.y, Tv.l, Tv.ks, Tv.is] at *
  subst h1 h2 h3 h4 h5 h6 h7 h8 hk hi
  rfl
theorem Top.both {t a b : Tv} (h : Top t a) (h' : Top t b) : Top a b := ⟨h'.k.trans h.k.symm, h'.f.trans h.f.symm, h'.g.trans h.g.symm, h'.n.trans h.n.symm, h'.b.trans h.b.symm, h'.s.trans h.s.symm, h'.y.trans h.y.symm, h'.l.trans h.l.symm⟩
/-- There is one sorted value. -/
theorem srt_one {t s : Tv} (h : SrtR t s) : ∀ {s' : Tv}, Trk t → SrtR t s' → s = s' := by
  induction h with
  | rest t s h9 hT hk hn hi ih =>
    intro s' ht h'
    cases h' with
    | map _ _ _ h9' => exact absurd h9' h9
    | rest _ _ _ hT' hk' hn' hi' =>
      refine tv_ext (hT.both hT') (hk.trans hk'.symm) (List.ext_getElem? fun i => ?_)
      by_cases hl : i < t.is.length
      · have e1 := List.getElem?_eq_getElem hl
        have e2 := List.getElem?_eq_getElem (show i < s.is.length by omega)
        have e3 := List.getElem?_eq_getElem (show i < s'.is.length by omega)
        rw [e2, e3, ih i _ _ e1 e2 (ht.i _ (List.getElem_mem hl)) (hi' i _ _ e1 e3)]
      · rw [List.getElem?_eq_none (by omega), List.getElem?_eq_none (by omega)]
  | map t s ps h9 hT hp hk hn hi ih =>
    intro s' ht h'
    cases h' with
    | rest _ _ h9' => exact absurd h9 h9'
    | map _ _ ps' _ hT' hp' hk' hn' hi' =>
      obtain ⟨hlen, hnd, _⟩ := ht.m h9
      have e := srp_one hnd (by omega) hp hp'
      subst e
      refine tv_ext (hT.both hT') (hk.trans hk'.symm) (List.ext_getElem? fun i => ?_)
      by_cases hl : i < ps.length
      · have e0 := List.getElem?_eq_getElem hl
        have hpl := hp.lt ps[i] (List.getElem_mem hl)
        have e1 := List.getElem?_eq_getElem (show ps[i] < t.is.length by omega)
        have e2 := List.getElem?_eq_getElem (show i < s.is.length by omega)
        have e3 := List.getElem?_eq_getElem (show i < s'.is.length by omega)
        rw [e2, e3, ih i _ _ _ e0 e1 e2 (ht.i _ (List.getElem_mem _)) (hi' i _ _ _ e0 e1 e3)]
      · rw [List.getElem?_eq_none (by omega), List.getElem?_eq_none (by omega)]
theorem perm_len {n : Nat} {ps : List Nat} (h : ps.Perm (List.range n)) : ps.length = n := by rw [h.length_eq, List.length_range]
theorem perm_lt {n : Nat} {ps : List Nat} (h : ps.Perm (List.range n)) {i p : Nat} (hp : ps[i]? = some p) : p < n := by simpa using h.mem_iff.1 (List.mem_of_getElem? hp)
theorem pls_srp {t : Tv} (h8 : t.k ≠ 8) : Srp t.ks (min t.ks.length t.is.length) (pls t) := by
  unfold pls
  rw [if_neg h8]
  exact ordp_srp _ _
end
section
open Go.RowKit Go
/-! What passes is a tree (cut out of Tb6: hangs on no link). -/
/-- A value that passes is a tree. -/
theorem onef_0 {t : Tv} {a : Nat} (h : onef t a = 0) : ¬ ((t.k = 8 ∨ t.k = 9) ∧ 1024 ≤ a) ∧ tidyf t = true ∧ finb t.b = true ∧ (badb t.s || t.ks.any badb) = false ∧ ¬ (t.k = 7 ∧ ¬ lok t.l) ∧ ¬ (t.k = 9 ∧ ¬ (t.ks.length = t.is.length ∧ t.ks.Nodup)) := by
  unfold onef at h
  split at h
  · cases h
  · rename_i h1
    split at h
    · cases h
    · rename_i h2
      split at h
      · cases h
      · rename_i h3
        split at h
        · cases h
        · rename_i h4
          split at h
          · cases h
          · rename_i h5
            split at h
            · cases h
            · rename_i h6
              exact ⟨h1, by simpa using h2, by simpa using h3, by simpa using h4, h5, h6⟩
theorem chkL_all {l : List Tv} {a : Nat} (h : chkL l a = 0) : ∀ u ∈ l, chkf u a = 0 := by
  intro u hu
  obtain ⟨i, hi⟩ := List.getElem?_of_mem hu
  have key : ∀ N i : Nat, i < N → ∀ v, l[i]? = some v → chkf v a = 0 := by
    intro N
    induction N with
    | zero => intro i hi; omega
    | succ N ih =>
      intro i hi v hv
      rcases Nat.lt_or_ge i N with h1 | h1
      · exact ih i h1 v hv
      · rcases Nat.eq_zero_or_pos (chkf v a) with e | e
        · exact e
        · have := chkL_at (i := i) (fun j w hj hw => ih j (by omega) w hw) hv (by omega)
          omega
  exact key (i + 1) i (by omega) u hi
theorem chkf_0 {t : Tv} {a : Nat} (h : chkf t a = 0) : onef t a = 0 ∧ ∀ u ∈ t.is, chkf u (a + 1) = 0 := by
  rw [chkf_eq] at h
  split at h
  · rename_i h1
    exact ⟨h1, chkL_all h⟩
  · rename_i h1
    exact absurd h h1
theorem tidy_k {t : Tv} (h : tidyf t = true) : 1 ≤ t.k ∧ t.k ≤ 9 ∧ t.zr.cl = true := by
  unfold tidyf at h
  rw [Bool.and_eq_true, decide_eq_true_eq] at h
  exact ⟨h.1.1, h.1.2, h.2⟩
theorem cl_all {t : Tv} (h : t.cl = true) : t.f = false ∧ t.g = false ∧ t.n = 0 ∧ t.b = 0 ∧ t.s = ⟨#[]⟩ ∧ t.l = ⟨0, 0, 0, []⟩ ∧ t.y = [] ∧ t.ks = [] ∧ t.is = [] := by
  unfold Tv.cl at h
  simp only [Bool.and_eq_true, Bool.not_eq_true', decide_eq_true_eq, List.isEmpty_iff] at h
  exact h
theorem tidy_9 {t : Tv} (h : tidyf t = true) (h9 : t.k = 9) : t.f = false ∧ t.g = false ∧ t.n = 0 ∧ t.b = 0 ∧ t.s = ⟨#[]⟩ ∧ t.y = [] ∧ t.l = ⟨0, 0, 0, []⟩ := by
  have h1 := (tidy_k h).2.2
  have e : t.zr = .mk t.k t.f t.g t.n t.b t.s t.y t.l [] [] := by unfold Tv.zr; simp [h9]
  rw [e] at h1
  obtain ⟨a1, a2, a3, a4, a5, a6, a7, _⟩ := cl_all h1
  exact ⟨a1, a2, a3, a4, a5, a7, a6⟩
theorem tidy_ks {t : Tv} (h : tidyf t = true) (h9 : t.k ≠ 9) : t.ks = [] := by
  have h1 := (cl_all (tidy_k h).2.2).2.2.2.2.2.2.2.1
  have e : t.zr.ks = t.ks := by
    unfold Tv.zr
    rw [if_neg h9]
    repeat' split
    all_goals rfl
  rw [e] at h1
  exact h1
theorem tidy_is {t : Tv} (h : tidyf t = true) (h8 : t.k ≠ 8) (h9 : t.k ≠ 9) : t.is = [] := by
  have h1 := (cl_all (tidy_k h).2.2).2.2.2.2.2.2.2.2
  have e : t.zr.is = t.is := by
    unfold Tv.zr
    rw [if_neg h9, if_neg h8]
    repeat' split
    all_goals rfl
  rw [e] at h1
  exact h1
theorem chk_trk {t : Tv} {a : Nat} (h : chkf t a = 0) : Trk t := by
  have key : ∀ N, ∀ t : Tv, SizeOf.sizeOf t = N → ∀ a, chkf t a = 0 → Trk t := by
    intro N
    induction N using Nat.strongRecOn with
    | _ N ih =>
      intro t hN a h
      obtain ⟨h1, h2⟩ := chkf_0 h
      obtain ⟨_, htd, _, _, _, hks⟩ := onef_0 h1
      refine Trk.mk t (fun h9 => ?_) (fun h9 => tidy_ks htd h9) fun u hu => ih _ (by have := Tv.is_lt hu; omega) u rfl _ (h2 u hu)
      have h3 : t.ks.length = t.is.length ∧ t.ks.Nodup := by
        apply Classical.byContradiction
        intro hh
        exact hks ⟨h9, hh⟩
      exact ⟨h3.1, h3.2, tidy_9 htd h9⟩
  exact key _ t rfl a h
end
section
open Go.RowKit Go
/-! Maps' entries in another order. -/
inductive Trn : Tv → Tv → Prop
  | rest (t w : Tv) (h9 : t.k ≠ 9) (ht : Top t w) (hk : w.ks = t.ks) (hn : w.is.length = t.is.length) (hi : ∀ (i : Nat) (u v : Tv), t.is[i]? = some u → w.is[i]? = some v → Trn u v) : Trn t w
  | map (t w : Tv) (ps : List Nat) (h9 : t.k = 9) (ht : Top t w) (hp : ps.Perm (List.range t.is.length)) (hk : w.ks = pickS t.ks ps) (hn : w.is.length = t.is.length) (hi : ∀ (i p : Nat) (u v : Tv), ps[i]? = some p → t.is[p]? = some u → w.is[i]? = some v → Trn u v) : Trn t w
theorem pickS_perm {ks : List ByteArray} {ps : List Nat} {n : Nat} (hn : ks.length = n) (hp : ps.Perm (List.range n)) : (pickS ks ps).Perm ks := by
  have h1 : (pickS ks ps).Perm (pickS ks (List.range ks.length)) := by
    unfold pickS
    rw [hn]
    exact hp.map _
  rw [pickS_range] at h1
  exact h1
end
section
open Go.RowKit Go
theorem much_sum : ∀ l : List Tv, tmuchL l = (l.map tmuch).sum
  | [] => by simp [tmuchL]
  | t :: r => by rw [tmuchL, much_sum r]; simp
theorem pick_nat {l ps : List Nat} (hp : ps.Perm (List.range l.length)) : (ps.map fun p => l.getD p 0).sum = l.sum := by
  have h1 : (ps.map fun p => l.getD p 0).Perm ((List.range l.length).map fun p => l.getD p 0) := hp.map _
  have h2 : ((List.range l.length).map fun p => l.getD p 0) = l := by
    refine List.ext_getElem? fun i => ?_
    rw [List.getElem?_map]
    by_cases hi : i < l.length
    · rw [List.getElem?_range hi]
      simp [List.getD, hi]
    · rw [List.getElem?_eq_none (by simpa using hi), List.getElem?_eq_none (by omega)]
      rfl
  rw [h2] at h1
  exact h1.sum_nat
theorem trn_much {t w : Tv} (h : Trn t w) : Trk t → tmuch w = tmuch t := by
  induction h with
  | rest t w h9 hT hk hn hi ih =>
    intro ht
    have e : tmuchL w.is = tmuchL t.is := by
      rw [much_sum, much_sum]
      congr 1
      refine List.ext_getElem? fun i => ?_
      rw [List.getElem?_map, List.getElem?_map]
      by_cases hl : i < t.is.length
      · have e1 := List.getElem?_eq_getElem hl
        have e2 := List.getElem?_eq_getElem (show i < w.is.length by omega)
        rw [e1, e2, Option.map_some, Option.map_some, ih i _ _ e1 e2 (ht.i _ (List.getElem_mem hl))]
      · rw [List.getElem?_eq_none (by omega), List.getElem?_eq_none (by omega)]
    rw [tmuch_eq, tmuch_eq, e, hk, hT.y, hT.s, hT.l]
  | map t w ps h9 hT hp hk hn hi ih =>
    intro ht
    obtain ⟨hlen, _⟩ := ht.m h9
    have hpl := perm_len hp
    have e : tmuchL w.is = tmuchL t.is := by
      rw [much_sum, much_sum, ← pick_nat (l := t.is.map tmuch) (ps := ps) (by rw [List.length_map]; exact hp)]
      congr 1
      refine List.ext_getElem? fun i => ?_
      rw [List.getElem?_map, List.getElem?_map]
      by_cases hl : i < ps.length
      · have e0 := List.getElem?_eq_getElem hl
        have hlt := perm_lt hp e0
        have e1 := List.getElem?_eq_getElem hlt
        have e2 := List.getElem?_eq_getElem (show i < w.is.length by omega)
        rw [e0, e2, Option.map_some, Option.map_some, ih i _ _ _ e0 e1 e2 (ht.i _ (List.getElem_mem hlt))]
        simp [List.getD, hlt]
      · rw [List.getElem?_eq_none (by omega), List.getElem?_eq_none (by omega)]
        rfl
    have hkp := pickS_perm hlen hp
    rw [← hk] at hkp
    have e2 : (w.ks.map fun k => k.size / 64).sum = (t.ks.map fun k => k.size / 64).sum := (hkp.map _).sum_nat
    rw [tmuch_eq, tmuch_eq, e, e2, hkp.length_eq, hT.y, hT.s, hT.l]
theorem srt_trn {t s : Tv} (h : SrtR t s) : Trk t → Trn t s := by
  induction h with
  | rest t s h9 hT hk hn hi ih =>
    intro ht
    exact Trn.rest t s h9 hT hk hn fun i u v hu hv => ih i u v hu hv (ht.i _ (List.mem_of_getElem? hu))
  | map t s ps h9 hT hp hk hn hi ih =>
    intro ht
    obtain ⟨hlen, _⟩ := ht.m h9
    have e : min t.ks.length t.is.length = t.is.length := by omega
    have hpp := hp.p
    rw [e] at hpp
    exact Trn.map t s ps h9 hT hpp hk (by rw [hn, perm_len hpp]) fun i p u v hp' hu hv => ih i p u v hp' hu hv (ht.i _ (List.mem_of_getElem? hu))
end
section
open Go.RowKit Go
theorem cell_lt6 {w : World} {a : Addr} {v : Value} (h : w.cell? a = some v) : a.block < w.heap.size := by
  rcases Nat.lt_or_ge a.block w.heap.size with h1 | h1
  · exact h1
  · unfold World.cell? at h
    rw [Array.getElem?_eq_none h1] at h
    cases h
/-! A value in memory that does not lie in a set of blocks. -/
inductive Tis (w : World) (S : Nat → Prop) : Tv → Array Value → Prop
  | mk (t : Tv) (vy vk vi : Value) (hb : Tbd t) (hy : BSl w vy t.y) (hys : t.y ≠ [] → ∀ q, vy.ownBlock = some q → ¬ S q) (hk : SSl w vk t.ks) (hks : t.ks ≠ [] → ∀ q, vk.ownBlock = some q → ¬ S q)
      (cs : Nat → Array Value) (a : Option Addr) (cap : Nat) (hv : vi = .slice a t.is.length cap) (hc : t.is.length ≤ cap ∧ (a = none → cap = 0)) (hm : t.is.length ≤ 140737488351232) (hi : ∀ i u, t.is[i]? = some u → Tis w S u (cs i))
      (ha : t.is = [] ∨ ∃ b off, a = some ⟨b, off, none⟩ ∧ ¬ S b ∧ ∀ i, i < t.is.length → ∀ j u, (cs i)[j]? = some u → w.cell? ⟨b, off + i * 13 + j, none⟩ = some u) : Tis w S t (vcs t vy vk vi)
theorem Tis.tin {w : World} {S : Nat → Prop} {t : Tv} {c : Array Value} (h : Tis w S t c) : Tin w t c := by
  induction h with
  | mk t vy vk vi hb hy hys hk hks cs a cap hv hc hm hi ha ih =>
    subst hv
    refine Tin.mk t vy vk a cap cs hb.n hb.b hb.s hy hb.y hb.l hb.d hk hc hm ih ?_
    rcases ha with ha | ⟨b, off, e, _, ha⟩
    · exact .inl ha
    · exact .inr ⟨b, off, e, ha⟩
theorem bsl_nil6 {w w' : World} {v : Value} (h : BSl w v []) : BSl w' v [] := by
  obtain ⟨⟨a, c, hv, hn, hc⟩, h1, h2⟩ := h
  exact ⟨⟨a, c, hv, hn, .inl rfl⟩, h1, h2⟩
theorem ssl_nil6 {w w' : World} {v : Value} (h : SSl w v []) : SSl w' v [] := by
  obtain ⟨⟨a, c, hv, hn, hc⟩, h1, h2⟩ := h
  exact ⟨⟨a, c, hv, hn, .inl rfl⟩, h1, h2⟩
theorem Kp.ssl {S : Nat → Prop} {w w' : World} (h : Kp S w w') {v : Value} {ks : List ByteArray} (hb : SSl w v ks) (hs : ∀ k, v.ownBlock = some k → ¬ S k) : SSl w' v ks := by
  obtain ⟨⟨a, c, hv, hn, hc⟩, h1, h2⟩ := hb
  refine ⟨⟨a, c, hv, hn, ?_⟩, h1, h2⟩
  rcases hc with hc | ⟨b, off, ha, hc⟩
  · exact .inl hc
  · refine .inr ⟨b, off, ha, fun j s hj => h.cell (hc j s hj) (hs b ?_)⟩
    rw [hv, ha]
    rfl
theorem Tis.kp {w w' : World} {S : Nat → Prop} {t : Tv} {c : Array Value} (h : Tis w S t c) (hk : Kp S w w') : Tis w' S t c := by
  induction h with
  | mk t vy vk vi hb hy hys hkk hks cs a cap hv hc hm hi ha ih =>
    refine Tis.mk t vy vk vi hb ?_ hys ?_ hks cs a cap hv hc hm ih ?_
    · by_cases e : t.y = []
      · rw [e] at hy ⊢
        exact bsl_nil6 hy
      · exact hk.bsl hy (hys e)
    · by_cases e : t.ks = []
      · rw [e] at hkk ⊢
        exact ssl_nil6 hkk
      · exact hk.ssl hkk (hks e)
    · rcases ha with ha | ⟨b, off, e, hs, ha⟩
      · exact .inl ha
      · exact .inr ⟨b, off, e, hs, fun i hi j u hu => hk.cell (ha i hi j u hu) hs⟩
theorem Tis.mono {w : World} {S T : Nat → Prop} {t : Tv} {c : Array Value} (h : Tis w S t c) (hs : ∀ q, T q → S q) : Tis w T t c := by
  induction h with
  | mk t vy vk vi hb hy hys hk hks cs a cap hv hc hm hi ha ih =>
    refine Tis.mk t vy vk vi hb hy (fun e q hq h => hys e q hq (hs q h)) hk (fun e q hq h => hks e q hq (hs q h)) cs a cap hv hc hm ih ?_
    rcases ha with ha | ⟨b, off, e, h1, ha⟩
    · exact .inl ha
    · exact .inr ⟨b, off, e, fun h => h1 (hs b h), ha⟩
/-- Nor does it lie in what is made later. -/
theorem Tis.widen {w : World} {S : Nat → Prop} {t : Tv} {c : Array Value} (h : Tis w S t c) : Tis w (fun q => S q ∨ w.heap.size ≤ q) t c := by
  induction h with
  | mk t vy vk vi hb hy hys hk hks cs a cap hv hc hm hi ha ih =>
    have hi2 := hi
    refine Tis.mk t vy vk vi hb hy ?_ hk ?_ cs a cap hv hc hm ih ?_
    · intro e q hq h
      rcases h with h | h
      · exact hys e q hq h
      · obtain ⟨⟨a', c', hv', _, hcc⟩, _, _⟩ := hy
        obtain ⟨b, off, ha', hcd⟩ := hcc.resolve_left e
        subst hv'
        subst ha'
        have e3 : b = q := by simpa [Value.ownBlock] using hq
        subst e3
        have hl : 0 < t.y.length := List.length_pos_iff.2 e
        have h1 := cell_lt6 (hcd 0 hl)
        simp only at h1
        omega
    · intro e q hq h
      rcases h with h | h
      · exact hks e q hq h
      · obtain ⟨⟨a', c', hv', _, hcc⟩, _, _⟩ := hk
        obtain ⟨b, off, ha', hcd⟩ := hcc.resolve_left e
        subst hv'
        subst ha'
        have e3 : b = q := by simpa [Value.ownBlock] using hq
        subst e3
        obtain ⟨s, hs0⟩ : ∃ s, t.ks[0]? = some s := by
          cases hks' : t.ks with
          | nil => exact absurd hks' e
          | cons s r => exact ⟨s, rfl⟩
        have h1 := cell_lt6 (hcd 0 s hs0)
        simp only at h1
        omega
    · rcases ha with ha | ⟨b, off, e, hs, ha⟩
      · exact .inl ha
      · by_cases e2 : t.is = []
        · exact .inl e2
        · refine .inr ⟨b, off, e, fun h => ?_, ha⟩
          rcases h with h | h
          · exact hs h
          · have hl : 0 < t.is.length := List.length_pos_iff.2 e2
            have hz := (hi2 0 _ (List.getElem?_eq_getElem hl)).tin.size13
            have h1 := cell_lt6 (ha 0 hl 0 ((cs 0)[0]'(by omega)) (Array.getElem?_eq_getElem (by omega)))
            simp only at h1
            omega
end
section
open Go.RowKit Go
theorem srt_much {t s : Tv} (h : SrtR t s) (ht : Trk t) : tmuch s = tmuch t := trn_much (srt_trn h ht) ht
/-- What a book is while a walk goes on that began in w: of what stood there only the book's own blocks were touched. -/
def Ps (w : World) (base B : Nat) (f : Fin 4 → Fs) (t d n : Nat) (wx : World) : Prop := Pt4 w base B f t d (fun _ => False) n wx
theorem Ps.put {w wx wy : World} {base B : Nat} {f f1 : Fin 4 → Fs} {t d n m : Nat} {D : Nat → Prop} (hk : Kp (fun q => Ft4 B f q ∨ False) w wx) (hf : ∀ q, Ft4 B f1 q → Ft4 B f q ∨ False ∨ w.heap.size ≤ q) (h2 : Pt4 wx base B f1 (t + n) d D m wy) (hD : ∀ q, D q → w.heap.size ≤ q) : Ps w base B f t d (n + m) wy := by
  obtain ⟨C2, f2, u2, g1, g2, g3⟩ := h2
  refine ⟨C2, f2, u2, by rw [← Nat.add_assoc]; exact g1, hk.trans g2 (fun k hlt e => ?_), fun q e => ?_⟩
  · rcases e with e | e
    · rcases hf k e with e | e | e
      · exact .inl e
      · exact e.elim
      · omega
    · have := hD k e
      omega
  · rcases g3 q e with e | e | e
    · exact hf q e
    · exact .inr (.inr (hD q e))
    · exact .inr (.inr (Nat.le_trans hk.size e))
theorem Ps.size {w wx : World} {base B : Nat} {f : Fin 4 → Fs} {t d n : Nat} (h : Ps w base B f t d n wx) : w.heap.size ≤ wx.heap.size := by
  obtain ⟨_, _, _, _, h2, _⟩ := h
  exact h2.size
/-- What stands before a walk hands anything to the book: the book, and boxes of two values. -/
structure Sq (w : World) (base B : Nat) (C : Array Value) (f : Fin 4 → Fs) (t d u : Nat) (cx cv : Array Value) (wx : World) : Prop where
  bk : Bkq wx base B C f t d u
  b : Below w.heap.size w wx
  x : wx.heap[w.heap.size]? = some (.cells cx 55 (0, 0))
  v : wx.heap[w.heap.size + 1]? = some (.cells cv 55 (0, 0))
theorem Sq.next {w wx wy : World} {base B : Nat} {C : Array Value} {f : Fin 4 → Fs} {t d u : Nat} {cx cv : Array Value} (h : Sq w base B C f t d u cx cv wx) (hb : Below wx.heap.size wx wy) : Sq w base B C f t d u cx cv wy :=
  ⟨h.bk.next hb, h.b.trans (hb.mono h.b.size), (hb.block _ (blk_lt h.x)).trans h.x, (hb.block _ (blk_lt h.v)).trans h.v⟩
theorem Sq.start {w : World} {base B : Nat} {C : Array Value} {f : Fin 4 → Fs} {t d u : Nat} (h : Bkq w base B C f t d u) (cx cv : Array Value) : Sq w base B C f t d u cx cv ((w.alloc (.cells cx 55)).alloc (.cells cv 55)) := by
  have h1 := heap_alloc_new w (.cells cx 55)
  have e1 : (w.alloc (.cells cx 55)).heap.size = w.heap.size + 1 := by simp
  have h2 := heap_alloc_new (w.alloc (.cells cx 55)) (.cells cv 55)
  rw [e1] at h2
  have b1 := below_alloc4 w (.cells cx 55)
  have b2 := below_alloc4 (w.alloc (.cells cx 55)) (.cells cv 55)
  exact ⟨(h.next b1).next b2, b1.trans (b2.mono b1.size), blk_alloc _ h1, h2⟩
theorem Sq.vx {w wx : World} {base B : Nat} {C : Array Value} {f : Fin 4 → Fs} {t d u : Nat} {cx cv : Array Value} (h : Sq w base B C f t d u cx cv wx) : ∀ j y, cx[j]? = some y → wx.cell? ⟨w.heap.size, 0 + j, none⟩ = some y := fun j y hy => by rw [Nat.zero_add]; exact blk_cell h.x hy
theorem Sq.vv {w wx : World} {base B : Nat} {C : Array Value} {f : Fin 4 → Fs} {t d u : Nat} {cx cv : Array Value} (h : Sq w base B C f t d u cx cv wx) : ∀ j y, cv[j]? = some y → wx.cell? ⟨w.heap.size + 1, 0 + j, none⟩ = some y := fun j y hy => by rw [Nat.zero_add]; exact blk_cell h.v hy
theorem Sq.z {w wx : World} {base B : Nat} {C : Array Value} {f : Fin 4 → Fs} {t d u : Nat} {cx cv : Array Value} (h : Sq w base B C f t d u cx cv wx) : w.heap.size + 2 ≤ wx.heap.size := blk_lt h.v
/-- A variable that holds a value with blocks of its own. -/
structure Vn (wx : World) (g lo hi : Nat) (c : Array Value) (u : Tv) : Prop where
  x : wx.heap[g]? = some (.cells c 55 (0, 0))
  n : Nor wx lo hi u c
  hg : hi ≤ g
theorem Vn.next {wx wy : World} {g lo hi : Nat} {c : Array Value} {u : Tv} (h : Vn wx g lo hi c u) (hb : Below wx.heap.size wx wy) : Vn wy g lo hi c u := ⟨(hb.block _ (blk_lt h.x)).trans h.x, h.n.kept hb, h.hg⟩
theorem Vn.kp {wx wy : World} {g lo hi : Nat} {c : Array Value} {u : Tv} {S : Nat → Prop} (h : Vn wx g lo hi c u) (hk : Kp S wx wy) (hs : ∀ q, lo ≤ q → q < hi → ¬ S q) (hs2 : ¬ S g) : Vn wy g lo hi c u := ⟨(hk.block _ (blk_lt h.x) hs2).trans h.x, h.n.kp hk hs, h.hg⟩
theorem Vn.start {w : World} {lo : Nat} {c : Array Value} {u : Tv} (h : Nor w lo w.heap.size u c) : Vn ((w.alloc (.cells zv 55)).setRow w.heap.size c) w.heap.size lo w.heap.size c u := ⟨(itm_mk w c).r, h.kept (itm_mk w c).b, Nat.le_refl _⟩
theorem Vn.cells {wx : World} {g lo hi : Nat} {c : Array Value} {u : Tv} (h : Vn wx g lo hi c u) : ∀ j x, c[j]? = some x → wx.cell? ⟨g, 0 + j, none⟩ = some x := fun j x hx => by rw [Nat.zero_add]; exact blk_cell h.x hx
/-- A value none of whose blocks lies below m. -/
def Wq (wx : World) (m : Nat) (u : Tv) (c : Array Value) : Prop := ∀ (S : Nat → Prop) (wy : World), (∀ q, S q → q < m) → Kp S wx wy → Tin wy u c
theorem Wq.kp {wx wy : World} {m : Nat} {u : Tv} {c : Array Value} {S : Nat → Prop} (h : Wq wx m u c) (hk : Kp S wx wy) (hs : ∀ q, S q → q < m) : Wq wy m u c := fun T wz hT hk2 =>
  h (fun q => S q ∨ T q) wz (fun q e => e.elim (hs q) (hT q)) ((hk.mono (fun _ _ e => .inl e)).trans hk2 (fun _ _ e => .inr e))
theorem Wq.of_tis {wx : World} {m : Nat} {u : Tv} {c : Array Value} (h : Tis wx (fun q => q < m) u c) : Wq wx m u c := fun _ _ hS hk => ((h.mono hS).kp hk).tin
theorem Wq.of_ntv {wx : World} {m hi : Nat} {u : Tv} {c : Array Value} (h : Ntv wx m hi u c) : Wq wx m u c := fun _ _ hS hk => (h.kp hk (fun q h1 _ e => by have := hS q e; omega)).tin
/-- A variable that holds such a value. -/
structure Vw (wx : World) (g m : Nat) (c : Array Value) (u : Tv) : Prop where
  x : wx.heap[g]? = some (.cells c 55 (0, 0))
  n : Wq wx m u c
  hg : m ≤ g
theorem Vw.kp {wx wy : World} {g m : Nat} {c : Array Value} {u : Tv} {S : Nat → Prop} (h : Vw wx g m c u) (hk : Kp S wx wy) (hs : ∀ q, S q → q < m) : Vw wy g m c u := ⟨(hk.block _ (blk_lt h.x) (fun e => by have := hs g e; have := h.hg; omega)).trans h.x, h.n.kp hk hs, h.hg⟩
theorem Vw.next {wx wy : World} {g m : Nat} {c : Array Value} {u : Tv} (h : Vw wx g m c u) (hb : Below wx.heap.size wx wy) : Vw wy g m c u := h.kp (Kp.of_below (S := fun _ => False) hb) (fun _ e => e.elim)
theorem Vw.start {w : World} {m : Nat} {c : Array Value} {u : Tv} (h : Wq w m u c) (hm : m ≤ w.heap.size) : Vw ((w.alloc (.cells zv 55)).setRow w.heap.size c) w.heap.size m c u := ⟨(itm_mk w c).r, h.kp (Kp.of_below (S := fun _ => False) (itm_mk w c).b) (fun _ e => e.elim), hm⟩
theorem Vw.cells {wx : World} {g m : Nat} {c : Array Value} {u : Tv} (h : Vw wx g m c u) : ∀ j x, c[j]? = some x → wx.cell? ⟨g, 0 + j, none⟩ = some x := fun j x hx => by rw [Nat.zero_add]; exact blk_cell h.x hx
theorem Vw.tin {wx : World} {g m : Nat} {c : Array Value} {u : Tv} (h : Vw wx g m c u) : Tin wx u c := h.n (fun _ => False) wx (fun _ e => e.elim) (Kp.refl _ _)
theorem Vn.tin {wx : World} {g lo hi : Nat} {c : Array Value} {u : Tv} (h : Vn wx g lo hi c u) : Tin wx u c := h.n.tin
end
section
open Go.RowKit Go

end
section
open Go.RowKit Go
theorem setK (t : Tv) (vy vK vI v : Value) : (vcs t vy vK vI).setIfInBounds 11 v = vcs t vy v vI := rfl
theorem setI (t : Tv) (vy vK vI v : Value) : (vcs t vy vK vI).setIfInBounds 12 v = vcs t vy vK v := rfl
end
section
open Go.RowKit Go
set_option maxRecDepth 1000000 in
theorem num6_any (n : Int) (w : World) : Calls Tryz.prog 36 #[.int .i64 n] w fun e w' => e = .returned (.int .i64 n) ∧ w' = w := by
  go_enter Tryz.func36, Tryz.ntmps36
  go_wp2_with fail
  go_ret
  exact ⟨rfl, rfl⟩
/-- What wakes has in hand. -/
structure Wk (w wx : World) (g1 g2 : Nat) (c1 c2 : Array Value) : Prop where
  b : Below w.heap.size w wx
  x : wx.heap[g1]? = some (.cells c1 55 (0, 0))
  y : wx.heap[g2]? = some (.cells c2 55 (0, 0))
  t : Tin wx ttwo c1
  s : Tin wx ttwoS c2
  u : Tabs wx
theorem Wk.next {w wx wy : World} {g1 g2 : Nat} {c1 c2 : Array Value} (h : Wk w wx g1 g2 c1 c2) (hb : Below wx.heap.size wx wy) : Wk w wy g1 g2 c1 c2 :=
  ⟨h.b.trans (hb.mono h.b.size), (hb.block _ (blk_lt h.x)).trans h.x, (hb.block _ (blk_lt h.y)).trans h.y, h.t.move (keep_below hb), h.s.move (keep_below hb), h.u.next hb⟩
theorem Wk.vx {w wx : World} {g1 g2 : Nat} {c1 c2 : Array Value} (h : Wk w wx g1 g2 c1 c2) : ∀ j u, c1[j]? = some u → wx.cell? ⟨g1, 0 + j, none⟩ = some u := fun j u hu => by rw [Nat.zero_add]; exact blk_cell h.x hu
theorem Wk.vy {w wx : World} {g1 g2 : Nat} {c1 c2 : Array Value} (h : Wk w wx g1 g2 c1 c2) : ∀ j u, c2[j]? = some u → wx.cell? ⟨g2, 0 + j, none⟩ = some u := fun j u hu => by rw [Nat.zero_add]; exact blk_cell h.y hu
set_option maxRecDepth 1000000 in
set_option maxHeartbeats 2000000 in
theorem wakes_any (w : World) (hT : Tabs w) : Calls Tryz.prog 14 #[] w fun e w' => e = .returned (.bool true) ∧ Below w.heap.size w w' := by
  have HT := hide hT
  clear hT
  have HNU := hide (fun n W => num6_any n W)
  go_enter Tryz.func14, Tryz.ntmps14
  go_wp2_with fail
  refine (two_any w).mono ?_
  rintro e w1 ⟨c, rfl, ht, hb1⟩
  have HT1 := hide ht
  have HB1 := hide hb1
  have HSZ := hide ht.size13
  have HA1 := hide ht.all1
  have HIT := hide (itm_mk w1 c)
  have HG0 := hide (heap_alloc_new w1 (.cells zv 55))
  have HIN : Hid ((Tryz.prog.info? 55).map (·.size) = some c.size) := by show _ = _; rw [HSZ.out]; exact infoV
  have HZV : Hid (zv.size = c.size) := by show _ = _; rw [HSZ.out]; rfl
  have HCX := hide HIT.out.cells
  clear ht hb1
  go_wp2_with (first
    | (refine wpList_storeRow rfl rfl w1.heap.size zv c 55 rfl rfl HG0.out HIN.out HZV.out HA1.out ?_)
    | (refine wpList_valAt rfl rfl w1.heap.size 0 c rfl HSZ.out HCX.out ?_))
  refine (sorted6_any ttwo _ c (HT1.out.move (keep_below HIT.out.b)) (by have := two_much.1; omega)).mono ?_
  rintro e w3 ⟨c3, s, rfl, hS, hn, hb3⟩
  have hs := two_srt hS
  subst hs
  have HSR := hide hS
  have HT3 := hide hn.tin
  have HZ3 := hide hn.size
  have HA3 := hide hn.tin.all1
  have HX3 : Hid (w3.heap[w1.heap.size]? = some (.cells c 55 (0, 0))) := (hb3.block _ (blk_lt HIT.out.r)).trans HIT.out.r
  have HB3 : Hid (Below w.heap.size w w3 ∧ Tin w3 ttwo c) := ⟨(HB1.out.trans (HIT.out.b.mono HB1.out.size)).trans (hb3.mono (Nat.le_trans HB1.out.size HIT.out.b.size)), (HT1.out.move (keep_below HIT.out.b)).move (keep_below hb3)⟩
  clear hS hn hb3 HT1 HIT HG0 HCX HA1 HIN HZV
  have HIT := hide (itm_mk w3 c3)
  have HG0 := hide (heap_alloc_new w3 (.cells zv 55))
  have HIN : Hid ((Tryz.prog.info? 55).map (·.size) = some c3.size) := by show _ = _; rw [HZ3.out]; exact infoV
  have HZV : Hid (zv.size = c3.size) := by show _ = _; rw [HZ3.out]; rfl
  have HW4 : Hid (Wk w ((w3.alloc (.cells zv 55)).setRow w3.heap.size c3) w1.heap.size w3.heap.size c c3) := ⟨HB3.out.1.trans (HIT.out.b.mono HB3.out.1.size), (HIT.out.b.block _ (blk_lt HX3.out)).trans HX3.out, HIT.out.r, HB3.out.2.move (keep_below HIT.out.b), HT3.out.move (keep_below HIT.out.b), (HT.out.next HB3.out.1).next HIT.out.b⟩
  have HV4 := hide HW4.out.vx
  clear HX3 HB3 HT3 HT
  go_wp2_with (first
    | (refine wpList_storeRow rfl rfl w3.heap.size zv c3 55 rfl rfl HG0.out HIN.out HZV.out HA3.out ?_)
    | (refine wpList_valAt rfl rfl w1.heap.size 0 c rfl HSZ.out HV4.out ?_))
  refine (check6_any ttwo _ c HW4.out.t (by have := two_much.1; omega) HW4.out.u).mono ?_
  rintro e w5 ⟨rfl, hb5⟩
  rw [two_chk]
  have HW5 := hide (HW4.out.next hb5)
  clear hb5 HW4 HV4 HIT HG0 HIN HZV HA3
  go_wp2_with (go_at_call 36; refine (Hid.out HNU _ _).mono ?_; rintro e w' ⟨rfl, hww⟩; have hww := hww.symm; subst hww)
  refine (check6_any zt _ zv (tin_zero _) (by have := two_much.2.2.1; omega) HW5.out.u).mono ?_
  rintro e w6 ⟨rfl, hb6⟩
  rw [zero_chk]
  have HW6 := hide (HW5.out.next hb6)
  have HV6 := hide HW6.out.vx
  clear hb6 HW5
  go_wp2_with (first
    | (refine wpList_valAt rfl rfl w1.heap.size 0 c rfl HSZ.out HV6.out ?_)
    | (go_at_call 36; refine (Hid.out HNU _ _).mono ?_; rintro e w' ⟨rfl, hww⟩; have hww := hww.symm; subst hww))
  refine (depth_any ttwo _ c HW6.out.t (by rw [two_much.2.2.2]; omega)).mono ?_
  rintro e w7 ⟨rfl, hb7⟩
  rw [two_much.2.2.2]
  have HW7 := hide (HW6.out.next hb7)
  clear hb7 HW6 HV6
  obtain ⟨vy, vk, vi, hc3, _, hkk, _, _⟩ := HW7.out.s.parts
  have HKK := hide hkk
  obtain ⟨⟨ka, kc, hvk, _, _⟩, _, _⟩ := hkk
  have q11 : w7.cell? ⟨w3.heap.size, 11, none⟩ = some (.slice ka 2 kc) := blk_cell HW7.out.y (by rw [hc3, hvk]; rfl)
  have HKX : Hid (SSl w7 (.slice ka 2 kc) [sbb, saa]) := by
    have h := HKK.out
    rw [hvk] at h
    exact h
  have HNX : Hid (SSl (w7.alloc (.cells #[.string sbb, .string saa] 9)) (.slice (some ⟨w7.heap.size, 0, none⟩) 2 2) [sbb, saa]) := by
    refine ⟨⟨_, 2, rfl, ⟨by decide, fun h => by cases h⟩, .inr ⟨w7.heap.size, 0, rfl, fun j s hj => ?_⟩⟩, by decide, fun s hs => ?_⟩
    · rw [Nat.zero_add]
      match j, hj with
      | 0, hj =>
        injection hj with hj
        subst hj
        exact blk_cell (heap_alloc_new w7 _) rfl
      | 1, hj =>
        injection hj with hj
        subst hj
        exact blk_cell (heap_alloc_new w7 _) rfl
      | j + 2, hj => simp at hj
    · simp only [List.mem_cons, List.not_mem_nil, or_false] at hs
      rcases hs with rfl | rfl
      · show (1 : Nat) ≤ _
        decide
      · show (2 : Nat) ≤ _
        decide
  have HW8 := hide (HW7.out.next (below_alloc4 w7 (.cells #[.string sbb, .string saa] 9)))
  have HKY := hide (HKX.out.move (keep_below (below_alloc4 w7 (.cells #[.string sbb, .string saa] 9))))
  clear hc3 hvk HKK HKX HW7
  go_wp2_with fail
  refine (eqStrings_any HKY.out HNX.out).mono ?_
  rintro e w9 ⟨rfl, hb9⟩
  rw [decide_eq_true rfl]
  have HW9 := hide (HW8.out.next hb9)
  have HV9 := hide HW9.out.vx
  have HU9 := hide HW9.out.vy
  clear hb9 HW8 HKY HNX q11
  go_wp2_with (first
    | (refine wpList_valAt rfl rfl w1.heap.size 0 c rfl HSZ.out HV9.out ?_)
    | (refine wpList_valAt rfl rfl w3.heap.size 0 c3 rfl HZ3.out HU9.out ?_))
  refine (equal6_any ttwo ttwoS w9 c c3 HW9.out.t HW9.out.s (by have := two_much.1; omega) (by have := two_much.2.1; omega)).mono ?_
  rintro e w10 ⟨rfl, hb10⟩
  rw [two_eq HSR.out]
  have HW10 := hide (HW9.out.next hb10)
  clear hb10 HW9 HV9 HU9
  go_wp2_with fail
  refine (before_any sbb saa w10).mono ?_
  rintro e w11 ⟨rfl, hww⟩
  have hww := hww.symm
  subst hww
  have HBF : Hid (bfr (sl sbb) (sl saa) = true) := by show _ = _; decide +kernel
  rw [HBF.out]
  go_wp2_with fail
  go_ret
  exact ⟨rfl, HW10.out.b⟩
end
section
open Go.RowKit Go
/-- What the whole walk of ValueRaw stands on: the argument's own copy. -/
structure Rw (w wx : World) (cs : Array Value) : Prop where
  p : wx.heap[w.heap.size]? = some (.cells cs 25 (0, 0))
  b : Below w.heap.size w wx
theorem Rw.next {w wx wy : World} {cs : Array Value} (h : Rw w wx cs) (hb : Below wx.heap.size wx wy) : Rw w wy cs :=
  ⟨(hb.block _ (blk_lt h.p)).trans h.p, h.b.trans (hb.mono h.b.size)⟩
theorem Rw.start (w : World) (cs : Array Value) : Rw w (w.alloc (.cells cs 25)) cs := ⟨heap_alloc_new w _, below_alloc4 w _⟩
/-- A variable that holds a lent value. -/
structure Vr (wx : World) (g : Nat) (c : Array Value) (u : Tv) : Prop where
  x : wx.heap[g]? = some (.cells c 55 (0, 0))
  l : ∃ lo hi, Ltv wx lo hi u c
theorem Vr.size {wx : World} {g : Nat} {c : Array Value} {u : Tv} (h : Vr wx g c u) : c.size = 13 := by obtain ⟨lo, hi, hl⟩ := h.l; exact hl.size
theorem Vr.cells {wx : World} {g : Nat} {c : Array Value} {u : Tv} (h : Vr wx g c u) : ∀ j x, c[j]? = some x → wx.cell? ⟨g, 0 + j, none⟩ = some x := fun j x hx => by rw [Nat.zero_add]; exact blk_cell h.x hx
theorem tdepthL_much : ∀ (l : List Tv), (∀ u ∈ l, tdepth u ≤ tmuch u) → tdepthL l ≤ tmuchL l
  | [], _ => by simp [tdepthL]
  | t :: r, h => by
    have h1 := h t (List.mem_cons_self ..)
    have h2 := tdepthL_much r (fun u hu => h u (List.mem_cons_of_mem _ hu))
    rw [tdepthL, tmuchL]
    omega
theorem tdepth_much (t : Tv) : tdepth t ≤ tmuch t := by
  have h : ∀ N, ∀ t : Tv, SizeOf.sizeOf t = N → tdepth t ≤ tmuch t := by
    intro N
    induction N using Nat.strongRecOn with
    | _ N ih =>
      intro t hN
      have h1 := tdepthL_much t.is (fun u hu => ih _ (by rw [← hN]; exact Tv.is_lt hu) u rfl)
      have h2 := tmuch_eq t
      rw [tdepth_eq]
      split <;> omega
  exact h _ t rfl
end
end Go.Proofs.YtgcccndbahphaaaGreatDoor

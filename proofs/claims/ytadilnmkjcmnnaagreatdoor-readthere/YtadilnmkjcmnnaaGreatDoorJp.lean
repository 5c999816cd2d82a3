import Derived.Test.YtadilnmkjcmnnaaGreatDoorJo
import Derived.Test.YtadilnmkjcmnnaaGreatDoorJj
import Derived.Test.YtadilnmkjcmnnaaGreatDoorJk
import Derived.Test.YtadilnmkjcmnnaaGreatDoorJm
import Derived.Test.YtadilnmkjcmnnaaGreatDoorJe
import Derived.Test.YtadilnmkjcmnnaaGreatDoorJg
namespace Go.Proofs.YtadilnmkjcmnnaaGreatDoor
section
open Go.RowKit Go
/-- The same fields but for keys and items. -/
structure Top (t z : Tv) : Prop where
  k : z.k = t.k
  f : z.f = t.f
  g : z.g = t.g
  n : z.n = t.n
  b : z.b = t.b
  s : z.s = t.s
  y : z.y = t.y
  l : z.l = t.l
/-- A value told again, sorted: every map's entries in keys' order. -/
inductive SrtR : Tv → Tv → Prop
  | rest (t s : Tv) (h9 : t.k ≠ 9) (ht : Top t s) (hk : s.ks = t.ks) (hn : s.is.length = t.is.length) (hi : ∀ (i : Nat) (u v : Tv), t.is[i]? = some u → s.is[i]? = some v → SrtR u v) : SrtR t s
  | map (t s : Tv) (ps : List Nat) (h9 : t.k = 9) (ht : Top t s) (hp : Srp t.ks (min t.ks.length t.is.length) ps) (hk : s.ks = pickS t.ks ps) (hn : s.is.length = ps.length) (hi : ∀ (i p : Nat) (u v : Tv), ps[i]? = some p → t.is[p]? = some u → s.is[i]? = some v → SrtR u v) : SrtR t s
/-- The items at these places. -/
def zt : Tv := .mk 0 false false 0 0 ⟨#[]⟩ [] ⟨0, 0, 0, []⟩ [] []
def pickT (js : List Tv) (ps : List Nat) : List Tv := ps.map fun p => js.getD p zt
def Tv.wp (t : Tv) (js : List Tv) (ps : List Nat) : Tv := .mk t.k t.f t.g t.n t.b t.s t.y t.l (pickS t.ks ps) (pickT js ps)
theorem pickT_get {js : List Tv} {ps : List Nat} {i p : Nat} (hp : ps[i]? = some p) (hl : p < js.length) : (pickT js ps)[i]? = js[p]? := by
  simp [pickT, hp, List.getD, List.getElem?_eq_getElem hl]
theorem pickL_get {L : List (Array Value)} {ps : List Nat} {i p : Nat} (hp : ps[i]? = some p) (hl : p < L.length) : (pickL L ps)[i]? = L[p]? := by
  simp [pickL, hp, List.getD, List.getElem?_eq_getElem hl]
theorem pickS_mem {ks : List ByteArray} {ps : List Nat} {s : ByteArray} (h : s ∈ pickS ks ps) (hl : ∀ p ∈ ps, p < ks.length) : s ∈ ks := by
  obtain ⟨p, hp, rfl⟩ := List.mem_map.1 h
  have := hl p hp
  simp [List.getD, List.getElem?_eq_getElem this]
/-- A sorted map in new memory. -/
theorem ntv_pick {wx w5 : World} {lo g3 hi : Nat} {t : Tv} {js : List Tv} {ps : List Nat} {L : List (Array Value)} {vy vA vB : Value} (hbd : Tbd t) (hyb : ∀ x ∈ t.y, x < 256) (hy : wx.ownsRow lo 5 1 vy t.y.length (bv t.y)) (hgy : ∀ q, vy.ownBlock = some q → q < hi)
    (hA : wx.ownsRow lo 9 1 vA ps.length (sv (pickS t.ks ps))) (hgA : ∀ q, vA.ownBlock = some q → q < hi) (hB : wx.ownsRow lo 62 13 vB ps.length (vfl (pickL L ps))) (hgB : ∀ q, vB.ownBlock = some q → q < hi) (hpl : ps.length ≤ 3000000) (hks : ∀ s ∈ t.ks, s.size ≤ 140737488351232) (hpk : ∀ p ∈ ps, p < t.ks.length) (hpj : ∀ p ∈ ps, p < js.length)
    (hL : L.length = js.length) (h13 : ∀ c ∈ L, c.size = 13) (hk : Kp (fun q => q = g3) w5 wx) (hcs : ∀ (i : Nat) (u : Tv) (c : Array Value), js[i]? = some u → L[i]? = some c → Ntv w5 lo g3 u c) (hgh : g3 ≤ hi) : Ntv wx lo hi (t.wp js ps) (vcs t vy vA vB) := by
  refine Ntv.mk (t.wp js ps) vy vA vB (pickL L ps) ⟨hbd.n, hbd.b, hbd.s, hbd.y, hbd.l, hbd.d⟩ hyb hy hgy ?_ hgA ?_ ?_ ?_ hgB ?_ ?_ ?_ ?_
  · show World.ownsRow _ _ _ _ _ (pickS t.ks ps).length _
    rw [pickS_len]
    exact hA
  · show (pickS t.ks ps).length ≤ _
    rw [pickS_len]
    omega
  · intro s hs
    exact hks s (pickS_mem hs hpk)
  · show World.ownsRow _ _ _ _ _ (pickT js ps).length _
    have e : (pickT js ps).length = ps.length := by simp [pickT]
    rw [e]
    exact hB
  · show (pickT js ps).length ≤ _
    have e : (pickT js ps).length = ps.length := by simp [pickT]
    omega
  · show (pickL L ps).length = (pickT js ps).length
    simp [pickL, pickT]
  · intro c hc
    obtain ⟨p, hp, rfl⟩ := List.mem_map.1 hc
    have := hpj p hp
    exact h13 _ (by simp [List.getD, List.getElem?_eq_getElem (show p < L.length by omega)])
  · intro i u c h1 h2
    have hi : i < ps.length := by
      have := (List.getElem?_eq_some_iff.1 h2).1
      rw [pickL_len] at this
      exact this
    have hp : ps[i]? = some ps[i] := List.getElem?_eq_getElem hi
    have hm := hpj _ (List.mem_of_getElem? hp)
    have h1' : (pickT js ps)[i]? = some u := h1
    rw [pickT_get hp hm] at h1'
    rw [pickL_get hp (by omega)] at h2
    exact ((hcs _ u c h1' h2).kp hk (fun q _ h e => by omega)).mono (Nat.le_refl _) hgh
theorem srt_pick {t : Tv} {js : List Tv} {ps : List Nat} (hk9 : t.k = 9) (hmd : Mad SrtR t.is js) (hsp : Srp t.ks (min t.ks.length t.is.length) ps) : SrtR t (t.wp js ps) :=
  SrtR.map t (t.wp js ps) ps hk9 ⟨rfl, rfl, rfl, rfl, rfl, rfl, rfl, rfl⟩ hsp rfl (by simp [Tv.wp, Tv.is, pickT]) fun i p u v hp hu hv => by
    have := hsp.lt p (List.mem_of_getElem? hp)
    have := hmd.n
    have e : (pickT js ps)[i]? = some v := hv
    rw [pickT_get hp (by omega)] at e
    exact hmd.r p u v hu e
theorem end_so {wx : World} {R : Nat} {c : Array Value} {tmps : Array Value} (hn : c.size = 13) (hr : wx.heap[R]? = some (.cells c 62 (0, 0))) (hp : tmps.getD 2 undef = .pointer (some ⟨R, 0, none⟩)) : (results Tryz.f19 tmps).run Tryz.prog wx = .ok (.agg c) wx := by
  refine (results_one (p := 2) (ty := 62) rfl _ _ _).trans ?_
  rw [hp]
  have h1 := run_loadVar_row (P := Tryz.prog) wx R 62 62 c (0, 0) _ hr Tryz.underlying62 rfl (by rw [hn]; exact infoV)
  simp [asAddr, h1, Result.andThen]
set_option maxRecDepth 1000000 in
set_option maxHeartbeats 1000000 in
theorem sorted_step (t : Tv) (ih : ∀ u ∈ t.is, AgainC 19 SrtR u) : AgainC 19 SrtR t := by
  intro w cs ht hm
  have eF : ∀ args w, (callFunc 19 args).run Tryz.prog w = .ok (.enter 19 args) w := enters_of Tryz.func19 (by kernel_rfl) rfl
  have HIH := hide ih
  have HTN := hide ht
  have hme := tmuch_eq t
  have HKL : Hid (t.ks.length ≤ 3000000) := by show _ ≤ _; omega
  have HMM := hide hm
  have HSZ := hide ht.size13
  have HK0 : Hid (cs[0]? = some (.int .i64 t.k)) := by
    obtain ⟨vy, vk, vi, rfl, _⟩ := ht.parts
    exact rfl
  clear ih ht hm hme
  have HW0 := hide (Rm.start w cs)
  have HZ0 : Hid (((w.alloc (.cells cs 62)).alloc (.cells zv 62)).heap.size = w.heap.size + 2) := by show _ = _; simp
  have HCB : Hid (∀ j u, cs[j]? = some u → ((w.alloc (.cells cs 62)).alloc (.cells zv 62)).cell? ⟨w.heap.size, 0 + j, none⟩ = some u) := fun j u hu => by rw [Nat.zero_add]; exact blk_cell HW0.out.p hu
  unfold zv at HW0 HZ0 HCB
  go_enter Tryz.func19, Tryz.ntmps19
  go_wp2_with (refine wpList_valAt rfl rfl w.heap.size 0 cs rfl HSZ.out HCB.out ?_)
  generalize (w.alloc (.cells cs 62)).alloc (.cells #[.int .i64 0, .bool false, .bool false, .int .u64 0, .int .u64 0, .string ⟨#[]⟩, .slice none 0 0, .int .i64 0, .int .u64 0, .int .u64 0, .string ⟨#[]⟩, .slice none 0 0, .slice none 0 0] 62) = w2 at *
  refine (remade_any 19 eF SrtR t HIH.out w2 cs (HTN.out.move (keep_below HW0.out.b)) HMM.out).mono ?_
  rintro e w3 ⟨c, js, rfl, hmd, hnt, hb3⟩
  have HMD := hide hmd
  have HW3 := hide (HW0.out.next hb3)
  have HNT : Hid (Ntv w3 (w.heap.size + 2) w3.heap.size (t.wi js) c) := hnt.mono (by rw [HZ0.out]; omega) (Nat.le_refl _)
  have HA1 := hide hnt.tin.all1
  have HS1 := hide hnt.size
  clear hmd hnt hb3 HW0 HCB HZ0
  have HIT := hide (itm_mk w3 c)
  have HG0 := hide (heap_alloc_new w3 (.cells zv 62))
  have HIN : Hid ((Tryz.prog.info? 62).map (·.size) = some c.size) := by show _ = _; rw [HS1.out]; exact infoV
  have HZV : Hid (zv.size = c.size) := by show _ = _; rw [HS1.out]; rfl
  have HW4 := hide (HW3.out.next HIT.out.b)
  have HN4 := hide (HNT.out.kept HIT.out.b)
  have q0 := blk_cell (j := 0) HW4.out.p HK0.out
  unfold zv at q0
  by_cases hk9 : t.k = 9
  · have g9 : (t.k == 9) = true := by rw [hk9]; rfl
    have HCX : Hid (∀ j u, cs[j]? = some u → ((w3.alloc (.cells zv 62)).setRow w3.heap.size c).cell? ⟨w.heap.size, 0 + j, none⟩ = some u) := fun j u hu => by rw [Nat.zero_add]; exact blk_cell HW4.out.p hu
    go_wp2_with (first
      | (refine wpList_storeRow rfl rfl w3.heap.size zv c 62 rfl rfl HG0.out HIN.out HZV.out HA1.out ?_)
      | (refine wpList_valAt rfl rfl w.heap.size 0 cs rfl HSZ.out HCX.out ?_))
    refine (order6_any t _ cs (HTN.out.move (keep_below HW4.out.b)) (by have := HKL.out; omega)).mono ?_
    rintro e w5 ⟨vp, ps, rfl, hpo, hsrp, hop, hb5⟩
    clear hpo
    have HW5 := hide (HW4.out.next hb5)
    have HN5 := hide (HN4.out.kept hb5)
    have HR5 : Hid (w5.heap[w3.heap.size]? = some (.cells c 62 (0, 0))) := (hb5.block _ (blk_lt HIT.out.r)).trans HIT.out.r
    have HZ5 : Hid (w3.heap.size < w5.heap.size) := blk_lt HR5.out
    have HSP := hide hsrp
    have hpl : ps.length ≤ 3000000 := by have := hsrp.len; have := HKL.out; omega
    have HIS := hide (ISl.own hop rfl (by omega))
    obtain ⟨pa, pc, hvp⟩ := own_slice hop
    subst hvp
    clear hop hsrp hb5 HW4 HN4 HIT HG0 q0 HCX HZV HIN
    have HNk := hide HN5.out
    generalize htj : t.wi js = tj at HNk
    obtain ⟨_, vy, vk, vi, L, hbd, hyb, hy, hgy, hk, hgk, hkl, hks, hv, hgi, hil, hL, h13, hcs⟩ := HNk.out
    subst htj
    obtain ⟨ya, yc, hvy⟩ := own_slice hy
    obtain ⟨ka, kc, hvk⟩ := own_slice hk
    obtain ⟨ia, ic, hvi⟩ := own_slice hv
    subst hvy hvk hvi
    have HO1 : Hid (∀ c ∈ L, one13 c) := fun c hc => by
      obtain ⟨i, hi, e⟩ := List.getElem_of_mem hc
      have h1 : L[i]? = some c := by rw [List.getElem?_eq_getElem hi, e]
      exact (hcs i _ c (List.getElem?_eq_getElem (show i < js.length by have : L.length = js.length := hL; omega)) h1).one
    have HP1 : Hid (∀ wx, Below w5.heap.size w5 wx → Calls Tryz.prog 38 #[.slice ka t.ks.length kc, .slice pa ps.length pc] wx fun e w' => ∃ v', e = .returned v' ∧ w'.ownsRow wx.heap.size 9 1 v' ps.length (sv (pickS t.ks ps)) ∧ Below wx.heap.size wx w') := fun wx hb => pickedS_any wx _ _ t.ks ps ((SSl.own hk rfl hkl hks).move (keep_below hb)) (HIS.out.move (keep_below hb)) (fun p hp => by have := HSP.out.lt p hp; omega) hpl
    have HP2 : Hid (∀ wx, Below w5.heap.size w5 wx → Calls Tryz.prog 39 #[.slice ia js.length ic, .slice pa ps.length pc] wx fun e w' => ∃ v', e = .returned v' ∧ w'.ownsRow wx.heap.size 62 13 v' ps.length (vfl (pickL L ps)) ∧ Below wx.heap.size wx w') := fun wx hb => pickedV_any wx _ _ L ps _ (by rw [hL]; exact (Kp.of_below (S := fun _ => False) hb).owns hv (fun _ _ h => h)) HO1.out (HIS.out.move (keep_below hb)) (fun p hp => by have := HSP.out.lt p hp; have : L.length = js.length := hL; have := HMD.out.n; omega) hpl
    have HRB : Hid (∀ wx, Below w5.heap.size w5 wx → wx.heap[w3.heap.size]? = some (.cells (vcs (t.wi js) (.slice ya (t.wi js).y.length yc) (.slice ka (t.wi js).ks.length kc) (.slice ia (t.wi js).is.length ic)) 62 (0, 0))) := fun wx hb => (hb.block _ HZ5.out).trans HR5.out
    have HBD := hide hbd
    have HYB := hide hyb
    have HYO := hide hy
    have HYG := hide hgy
    have HKSZ := hide hks
    have HCS := hide hcs
    have HLL := hide hL
    have H13 := hide h13
    clear hbd hyb hy hgy hk hgk hkl hks hv hgi hil hL h13 hcs HNk
    have c11 : w5.cell? ⟨w3.heap.size, 11, none⟩ = some (.slice ka t.ks.length kc) := blk_cell HR5.out rfl
    have c12 : w5.cell? ⟨w3.heap.size, 12, none⟩ = some (.slice ia js.length ic) := blk_cell HR5.out rfl
    generalize hg3 : w3.heap.size = g3 at *
    have HG3 := hide hg3
    clear hg3
    have HB0 : Hid (Below w5.heap.size w5 w5.drew) := by
      refine Below.drew ?_
      exact Below.refl _ _
    have c11d : w5.drew.cell? ⟨g3, 11, none⟩ = some (.slice ka t.ks.length kc) := c11
    have c12d : w5.drew.cell? ⟨g3, 12, none⟩ = some (.slice ia js.length ic) := c12
    go_wp2_with fail
    refine heldStart (S := fun _ => True) (by kernel_rfl) ?_
    have hS : True := trivial
    refine heldTake 0 _ rfl (by kernel_rfl) (by kernel_rfl) (by kernel_rfl) (fun _ _ _ h => h) rfl hS (fun wy hy => by first | (go_simp; done) | (go_simp; rfl) | rfl) ?_
    (try simp only [Act.put]); (try simp only [List.setIfInBounds_toArray, List.set_cons_zero, List.set_cons_succ])
    refine heldTake 2 _ rfl (by kernel_rfl) (by kernel_rfl) (by kernel_rfl) (fun _ _ _ h => h) rfl hS (fun wy hy => by first | (go_simp; done) | (go_simp; rfl) | rfl) ?_
    (try simp only [Act.put]); (try simp only [List.setIfInBounds_toArray, List.set_cons_zero, List.set_cons_succ])
    refine heldTake 4 _ rfl (by kernel_rfl) (by kernel_rfl) (by kernel_rfl) (fun _ _ _ h => h) rfl hS (fun wy hy => by first | (go_simp; done) | (go_simp; rfl) | rfl) ?_
    (try simp only [Act.put]); (try simp only [List.setIfInBounds_toArray, List.set_cons_zero, List.set_cons_succ])
    refine heldTake 6 _ rfl (by kernel_rfl) (by kernel_rfl) (by kernel_rfl) (fun _ _ _ h => h) rfl hS (fun wy hy => by first | (go_simp; done) | (go_simp; rfl) | rfl) ?_
    (try simp only [Act.put]); (try simp only [List.setIfInBounds_toArray, List.set_cons_zero, List.set_cons_succ])
    refine wpAnyH_ready (rs := [1, 5]) (by kernel_rfl) (by simp) ?_
    refine AllReadyH.cons rfl (fun K hK => ?_) (AllReadyH.cons rfl (fun K hK => ?_) AllReadyH.nil)
    · go_simp
      refine (Shut.out hK) _ _ trivial (fun _ => ?_)
      clear hK K
      (try simp only [Act.put]); (try simp only [List.setIfInBounds_toArray, List.set_cons_zero, List.set_cons_succ])
      refine wpAnyH_ready (rs := [3, 5]) (by kernel_rfl) (by simp) ?_
      refine AllReadyH.cons rfl (fun K hK => ?_) (AllReadyH.cons rfl (fun K hK => ?_) AllReadyH.nil)
      · as_aux_lemma =>
        go_simp
        refine (HP1.out _ HB0.out).mono ?_
        rintro e wA ⟨vA, rfl, hoA, hbA⟩
        obtain ⟨kA, cA, hvA⟩ := own_slice hoA
        subst hvA
        have c12A : wA.cell? ⟨g3, 12, none⟩ = some (.slice ia js.length ic) := keep_below hbA _ _ c12d
        have hbA5 : Below w5.heap.size w5 wA := HB0.out.trans (hbA.mono HB0.out.size)
        refine (Shut.out hK) _ _ trivial (fun _ => ?_)
        clear hK K
        (try simp only [Act.put]); (try simp only [List.setIfInBounds_toArray, List.set_cons_zero, List.set_cons_succ])
        refine heldStep 5 rfl (by kernel_rfl) (fun K hK => ?_)
        go_simp
        refine (Hid.out hK) _ _ trivial (fun _ => ?_)
        clear hK K
        (try simp only [Act.put]); (try simp only [List.setIfInBounds_toArray, List.set_cons_zero, List.set_cons_succ])
        refine heldTake 8 _ rfl (by kernel_rfl) (by kernel_rfl) (by kernel_rfl) (fun _ _ _ h => h) rfl hS (fun wy hy => by first | (go_simp; done) | (go_simp; rfl) | rfl) ?_
        (try simp only [Act.put]); (try simp only [List.setIfInBounds_toArray, List.set_cons_zero, List.set_cons_succ])
        refine heldStep 7 rfl (by kernel_rfl) (fun K hK => ?_)
        go_simp
        refine (HP2.out _ hbA5).mono ?_
        rintro e wB ⟨vB, rfl, hoB, hbB⟩
        obtain ⟨kB, cB, hvB⟩ := own_slice hoB
        subst hvB
        refine (Hid.out hK) _ _ trivial (fun _ => ?_)
        clear hK K
        (try simp only [Act.put]); (try simp only [List.setIfInBounds_toArray, List.set_cons_zero, List.set_cons_succ])
        have hSB : (fun _ : World => True) wB := trivial
        have hb5B : Below w5.heap.size w5 wB := hbA5.trans (hbB.mono hbA5.size)
        have hzA := HB0.out.size
        have hzA2 := hbA.size
        have hzB := hbB.size
        have hRB := HRB.out wB hb5B
        have c11B := blk_cell (j := 11) hRB rfl
        have f11B := blk_frozen 11 hRB
        have hR1 := blk_set 11 (.slice kA ps.length cA) hRB
        have c12B : (wB.setCell ⟨g3, 11, none⟩ (.slice kA ps.length cA)).cell? ⟨g3, 12, none⟩ = some (.slice ia js.length ic) := blk_cell hR1 rfl
        have f12B := blk_frozen 12 hR1
        have hR2 := blk_set 12 (.slice kB ps.length cB) hR1
        have HR2 : Hid (((wB.setCell ⟨g3, 11, none⟩ (.slice kA ps.length cA)).setCell ⟨g3, 12, none⟩ (.slice kB ps.length cB)).heap[g3]? = some (.cells (vcs t (.slice ya t.y.length yc) (.slice kA ps.length cA) (.slice kB ps.length cB)) 62 (0, 0))) := hR2
        have hk1 : Kp (fun q => q = g3) wB (wB.setCell ⟨g3, 11, none⟩ (.slice kA ps.length cA)) := (Kp.refl _ _).setCell _ _ (fun _ => rfl)
        have hk2 : Kp (fun q => q = g3) wB ((wB.setCell ⟨g3, 11, none⟩ (.slice kA ps.length cA)).setCell ⟨g3, 12, none⟩ (.slice kB ps.length cB)) := hk1.setCell _ _ (fun _ => rfl)
        have hzs := hk2.size
        have HK2 := hide hk2
        have HOA : Hid (wB.ownsRow w5.heap.size 9 1 (.slice kA ps.length cA) ps.length (sv (pickS t.ks ps))) := own_mono ((Kp.of_below (S := fun _ => False) hbB).owns hoA (fun _ _ h => h)) hzA
        have HOB : Hid (wB.ownsRow w5.heap.size 62 13 (.slice kB ps.length cB) ps.length (vfl (pickL L ps))) := own_mono hoB (by omega)
        have HB5 := hide hb5B
        have HZS : Hid (w5.heap.size ≤ wB.heap.size ∧ wB.heap.size ≤ ((wB.setCell ⟨g3, 11, none⟩ (.slice kA ps.length cA)).setCell ⟨g3, 12, none⟩ (.slice kB ps.length cB)).heap.size) := ⟨hb5B.size, hzs⟩
        clear hRB hR1 hR2 hk1 hk2 hoA hoB hbA hbB hb5B hbA5 hzA hzA2 hzB hzs c11 c12 c11d c12d c12A
        refine heldStep 9 rfl (by kernel_rfl) (fun K hK => ?_)
        go_simp
        refine (Hid.out hK) _ _ trivial (fun _ => ?_)
        clear hK K
        (try simp only [Act.put]); (try simp only [List.setIfInBounds_toArray, List.set_cons_zero, List.set_cons_succ])
        refine heldTake 10 _ rfl (by kernel_rfl) (by kernel_rfl) (by kernel_rfl) (fun _ _ _ h => h) rfl hS (fun wy hy => by first | (go_simp; done) | (go_simp; rfl) | rfl) ?_
        (try simp only [Act.put]); (try simp only [List.setIfInBounds_toArray, List.set_cons_zero, List.set_cons_succ])
        refine heldStep 11 rfl (by kernel_rfl) (fun K hK => ?_)
        go_simp
        refine (Hid.out hK) _ _ trivial (fun _ => ?_)
        clear hK K
        (try simp only [Act.put]); (try simp only [List.setIfInBounds_toArray, List.set_cons_zero, List.set_cons_succ])
        refine heldDone (by kernel_rfl) ?_
        clear c11B f11B c12B f12B
        have hz := HZS.out
        have hg5 := HZ5.out
        have hg3 : w.heap.size + 2 ≤ g3 := by have := HW3.out.z; have := HG3.out; omega
        have HK5 : Hid (Kp (fun q => q = g3) w5 ((wB.setCell ⟨g3, 11, none⟩ (.slice kA ps.length cA)).setCell ⟨g3, 12, none⟩ (.slice kB ps.length cB))) := (Kp.of_below HB5.out).trans HK2.out (fun _ _ h => h)
        have HNT : Hid (Ntv ((wB.setCell ⟨g3, 11, none⟩ (.slice kA ps.length cA)).setCell ⟨g3, 12, none⟩ (.slice kB ps.length cB)) (w.heap.size + 2) ((wB.setCell ⟨g3, 11, none⟩ (.slice kA ps.length cA)).setCell ⟨g3, 12, none⟩ (.slice kB ps.length cB)).heap.size (t.wp js ps) (vcs t (.slice ya t.y.length yc) (.slice kA ps.length cA) (.slice kB ps.length cB))) := by
          refine ntv_pick ⟨HBD.out.n, HBD.out.b, HBD.out.s, HBD.out.y, HBD.out.l, HBD.out.d⟩ HYB.out ?_ ?_ ?_ ?_ ?_ ?_ hpl HKSZ.out (fun p hp => by have := HSP.out.lt p hp; omega) (fun p hp => by have := HSP.out.lt p hp; have := HMD.out.n; omega) HLL.out H13.out HK5.out HCS.out (by omega)
          · exact HK5.out.owns HYO.out (fun q hq e => by have := HYG.out q hq; omega)
          · intro q hq
            have := HYG.out q hq
            omega
          · exact own_mono (HK2.out.owns HOA.out (fun q hq e => by have := HOA.out.lt q hq; omega)) (by omega)
          · intro q hq
            have := HOA.out.lt q hq
            omega
          · exact own_mono (HK2.out.owns HOB.out (fun q hq e => by have := HOB.out.lt q hq; omega)) (by omega)
          · intro q hq
            have := HOB.out.lt q hq
            omega
        have HXL : Hid (∀ j v, (vcs t (.slice ya t.y.length yc) (.slice kA ps.length cA) (.slice kB ps.length cB))[j]? = some v → ((wB.setCell ⟨g3, 11, none⟩ (.slice kA ps.length cA)).setCell ⟨g3, 12, none⟩ (.slice kB ps.length cB)).cell? ⟨g3, 0 + j, none⟩ = some v) := fun j v hv => by
          rw [Nat.zero_add]
          exact blk_cell HR2.out hv
        have HONA := hide HNT.out.tin.all1
        have HIN : Hid ((Tryz.prog.info? 62).map (·.size) = some (vcs t (.slice ya t.y.length yc) (.slice kA ps.length cA) (.slice kB ps.length cB)).size) := infoV
        have HRR : Hid (((wB.setCell ⟨g3, 11, none⟩ (.slice kA ps.length cA)).setCell ⟨g3, 12, none⟩ (.slice kB ps.length cB)).heap[w.heap.size + 1]? = some (.cells zv 62 (0, 0))) := (HK5.out.block _ (by omega) (fun e => by omega)).trans HW5.out.r
        have HZV : Hid (zv.size = (vcs t (.slice ya t.y.length yc) (.slice kA ps.length cA) (.slice kB ps.length cB)).size) := rfl
        have HBF : Hid (Below w.heap.size w ((wB.setCell ⟨g3, 11, none⟩ (.slice kA ps.length cA)).setCell ⟨g3, 12, none⟩ (.slice kB ps.length cB))) := HW5.out.b.trans (HK5.out.below HW5.out.b.size (fun q e => by omega))
        clear hz hg5 hg3
        go_wp2_with (first
          | (refine wpList_valAt rfl rfl g3 0 (vcs t (.slice ya t.y.length yc) (.slice kA ps.length cA) (.slice kB ps.length cB)) rfl rfl HXL.out ?_)
          | (refine wpList_storeRow rfl rfl (w.heap.size + 1) zv (vcs t (.slice ya t.y.length yc) (.slice kA ps.length cA) (.slice kB ps.length cB)) 62 rfl rfl HRR.out HIN.out HZV.out HONA.out ?_))
        have hkr := row_kp ((wB.setCell ⟨g3, 11, none⟩ (.slice kA ps.length cA)).setCell ⟨g3, 12, none⟩ (.slice kB ps.length cB)) (w.heap.size + 1) (vcs t (.slice ya t.y.length yc) (.slice kA ps.length cA) (.slice kB ps.length cB))
        have hzr := hkr.size
        exact bodyPost_ret (end_so rfl (row_same HRR.out) rfl) rfl ⟨_, rfl, t.wp js ps, srt_pick hk9 HMD.out HSP.out, (HNT.out.kp hkr (fun q h1 h2 e => by omega)).mono (by omega) hzr, HBF.out.trans (hkr.below HBF.out.size (fun q e => by omega))⟩
      · as_aux_lemma =>
        go_simp
        refine (Shut.out hK) _ _ trivial (fun _ => ?_)
        clear hK K
        (try simp only [Act.put]); (try simp only [List.setIfInBounds_toArray, List.set_cons_zero, List.set_cons_succ])
        refine heldStep 3 rfl (by kernel_rfl) (fun K hK => ?_)
        go_simp
        refine (HP1.out _ HB0.out).mono ?_
        rintro e wA ⟨vA, rfl, hoA, hbA⟩
        obtain ⟨kA, cA, hvA⟩ := own_slice hoA
        subst hvA
        have c12A : wA.cell? ⟨g3, 12, none⟩ = some (.slice ia js.length ic) := keep_below hbA _ _ c12d
        have hbA5 : Below w5.heap.size w5 wA := HB0.out.trans (hbA.mono HB0.out.size)
        refine (Hid.out hK) _ _ trivial (fun _ => ?_)
        clear hK K
        (try simp only [Act.put]); (try simp only [List.setIfInBounds_toArray, List.set_cons_zero, List.set_cons_succ])
        refine heldTake 8 _ rfl (by kernel_rfl) (by kernel_rfl) (by kernel_rfl) (fun _ _ _ h => h) rfl hS (fun wy hy => by first | (go_simp; done) | (go_simp; rfl) | rfl) ?_
        (try simp only [Act.put]); (try simp only [List.setIfInBounds_toArray, List.set_cons_zero, List.set_cons_succ])
        refine heldStep 7 rfl (by kernel_rfl) (fun K hK => ?_)
        go_simp
        refine (HP2.out _ hbA5).mono ?_
        rintro e wB ⟨vB, rfl, hoB, hbB⟩
        obtain ⟨kB, cB, hvB⟩ := own_slice hoB
        subst hvB
        refine (Hid.out hK) _ _ trivial (fun _ => ?_)
        clear hK K
        (try simp only [Act.put]); (try simp only [List.setIfInBounds_toArray, List.set_cons_zero, List.set_cons_succ])
        have hSB : (fun _ : World => True) wB := trivial
        have hb5B : Below w5.heap.size w5 wB := hbA5.trans (hbB.mono hbA5.size)
        have hzA := HB0.out.size
        have hzA2 := hbA.size
        have hzB := hbB.size
        have hRB := HRB.out wB hb5B
        have c11B := blk_cell (j := 11) hRB rfl
        have f11B := blk_frozen 11 hRB
        have hR1 := blk_set 11 (.slice kA ps.length cA) hRB
        have c12B : (wB.setCell ⟨g3, 11, none⟩ (.slice kA ps.length cA)).cell? ⟨g3, 12, none⟩ = some (.slice ia js.length ic) := blk_cell hR1 rfl
        have f12B := blk_frozen 12 hR1
        have hR2 := blk_set 12 (.slice kB ps.length cB) hR1
        have HR2 : Hid (((wB.setCell ⟨g3, 11, none⟩ (.slice kA ps.length cA)).setCell ⟨g3, 12, none⟩ (.slice kB ps.length cB)).heap[g3]? = some (.cells (vcs t (.slice ya t.y.length yc) (.slice kA ps.length cA) (.slice kB ps.length cB)) 62 (0, 0))) := hR2
        have hk1 : Kp (fun q => q = g3) wB (wB.setCell ⟨g3, 11, none⟩ (.slice kA ps.length cA)) := (Kp.refl _ _).setCell _ _ (fun _ => rfl)
        have hk2 : Kp (fun q => q = g3) wB ((wB.setCell ⟨g3, 11, none⟩ (.slice kA ps.length cA)).setCell ⟨g3, 12, none⟩ (.slice kB ps.length cB)) := hk1.setCell _ _ (fun _ => rfl)
        have hzs := hk2.size
        have HK2 := hide hk2
        have HOA : Hid (wB.ownsRow w5.heap.size 9 1 (.slice kA ps.length cA) ps.length (sv (pickS t.ks ps))) := own_mono ((Kp.of_below (S := fun _ => False) hbB).owns hoA (fun _ _ h => h)) hzA
        have HOB : Hid (wB.ownsRow w5.heap.size 62 13 (.slice kB ps.length cB) ps.length (vfl (pickL L ps))) := own_mono hoB (by omega)
        have HB5 := hide hb5B
        have HZS : Hid (w5.heap.size ≤ wB.heap.size ∧ wB.heap.size ≤ ((wB.setCell ⟨g3, 11, none⟩ (.slice kA ps.length cA)).setCell ⟨g3, 12, none⟩ (.slice kB ps.length cB)).heap.size) := ⟨hb5B.size, hzs⟩
        clear hRB hR1 hR2 hk1 hk2 hoA hoB hbA hbB hb5B hbA5 hzA hzA2 hzB hzs c11 c12 c11d c12d c12A
        refine heldStep 9 rfl (by kernel_rfl) (fun K hK => ?_)
        go_simp
        refine (Hid.out hK) _ _ trivial (fun _ => ?_)
        clear hK K
        (try simp only [Act.put]); (try simp only [List.setIfInBounds_toArray, List.set_cons_zero, List.set_cons_succ])
        refine heldTake 10 _ rfl (by kernel_rfl) (by kernel_rfl) (by kernel_rfl) (fun _ _ _ h => h) rfl hS (fun wy hy => by first | (go_simp; done) | (go_simp; rfl) | rfl) ?_
        (try simp only [Act.put]); (try simp only [List.setIfInBounds_toArray, List.set_cons_zero, List.set_cons_succ])
        refine heldStep 11 rfl (by kernel_rfl) (fun K hK => ?_)
        go_simp
        refine (Hid.out hK) _ _ trivial (fun _ => ?_)
        clear hK K
        (try simp only [Act.put]); (try simp only [List.setIfInBounds_toArray, List.set_cons_zero, List.set_cons_succ])
        refine heldDone (by kernel_rfl) ?_
        clear c11B f11B c12B f12B
        have hz := HZS.out
        have hg5 := HZ5.out
        have hg3 : w.heap.size + 2 ≤ g3 := by have := HW3.out.z; have := HG3.out; omega
        have HK5 : Hid (Kp (fun q => q = g3) w5 ((wB.setCell ⟨g3, 11, none⟩ (.slice kA ps.length cA)).setCell ⟨g3, 12, none⟩ (.slice kB ps.length cB))) := (Kp.of_below HB5.out).trans HK2.out (fun _ _ h => h)
        have HNT : Hid (Ntv ((wB.setCell ⟨g3, 11, none⟩ (.slice kA ps.length cA)).setCell ⟨g3, 12, none⟩ (.slice kB ps.length cB)) (w.heap.size + 2) ((wB.setCell ⟨g3, 11, none⟩ (.slice kA ps.length cA)).setCell ⟨g3, 12, none⟩ (.slice kB ps.length cB)).heap.size (t.wp js ps) (vcs t (.slice ya t.y.length yc) (.slice kA ps.length cA) (.slice kB ps.length cB))) := by
          refine ntv_pick ⟨HBD.out.n, HBD.out.b, HBD.out.s, HBD.out.y, HBD.out.l, HBD.out.d⟩ HYB.out ?_ ?_ ?_ ?_ ?_ ?_ hpl HKSZ.out (fun p hp => by have := HSP.out.lt p hp; omega) (fun p hp => by have := HSP.out.lt p hp; have := HMD.out.n; omega) HLL.out H13.out HK5.out HCS.out (by omega)
          · exact HK5.out.owns HYO.out (fun q hq e => by have := HYG.out q hq; omega)
          · intro q hq
            have := HYG.out q hq
            omega
          · exact own_mono (HK2.out.owns HOA.out (fun q hq e => by have := HOA.out.lt q hq; omega)) (by omega)
          · intro q hq
            have := HOA.out.lt q hq
            omega
          · exact own_mono (HK2.out.owns HOB.out (fun q hq e => by have := HOB.out.lt q hq; omega)) (by omega)
          · intro q hq
            have := HOB.out.lt q hq
            omega
        have HXL : Hid (∀ j v, (vcs t (.slice ya t.y.length yc) (.slice kA ps.length cA) (.slice kB ps.length cB))[j]? = some v → ((wB.setCell ⟨g3, 11, none⟩ (.slice kA ps.length cA)).setCell ⟨g3, 12, none⟩ (.slice kB ps.length cB)).cell? ⟨g3, 0 + j, none⟩ = some v) := fun j v hv => by
          rw [Nat.zero_add]
          exact blk_cell HR2.out hv
        have HONA := hide HNT.out.tin.all1
        have HIN : Hid ((Tryz.prog.info? 62).map (·.size) = some (vcs t (.slice ya t.y.length yc) (.slice kA ps.length cA) (.slice kB ps.length cB)).size) := infoV
        have HRR : Hid (((wB.setCell ⟨g3, 11, none⟩ (.slice kA ps.length cA)).setCell ⟨g3, 12, none⟩ (.slice kB ps.length cB)).heap[w.heap.size + 1]? = some (.cells zv 62 (0, 0))) := (HK5.out.block _ (by omega) (fun e => by omega)).trans HW5.out.r
        have HZV : Hid (zv.size = (vcs t (.slice ya t.y.length yc) (.slice kA ps.length cA) (.slice kB ps.length cB)).size) := rfl
        have HBF : Hid (Below w.heap.size w ((wB.setCell ⟨g3, 11, none⟩ (.slice kA ps.length cA)).setCell ⟨g3, 12, none⟩ (.slice kB ps.length cB))) := HW5.out.b.trans (HK5.out.below HW5.out.b.size (fun q e => by omega))
        clear hz hg5 hg3
        go_wp2_with (first
          | (refine wpList_valAt rfl rfl g3 0 (vcs t (.slice ya t.y.length yc) (.slice kA ps.length cA) (.slice kB ps.length cB)) rfl rfl HXL.out ?_)
          | (refine wpList_storeRow rfl rfl (w.heap.size + 1) zv (vcs t (.slice ya t.y.length yc) (.slice kA ps.length cA) (.slice kB ps.length cB)) 62 rfl rfl HRR.out HIN.out HZV.out HONA.out ?_))
        have hkr := row_kp ((wB.setCell ⟨g3, 11, none⟩ (.slice kA ps.length cA)).setCell ⟨g3, 12, none⟩ (.slice kB ps.length cB)) (w.heap.size + 1) (vcs t (.slice ya t.y.length yc) (.slice kA ps.length cA) (.slice kB ps.length cB))
        have hzr := hkr.size
        exact bodyPost_ret (end_so rfl (row_same HRR.out) rfl) rfl ⟨_, rfl, t.wp js ps, srt_pick hk9 HMD.out HSP.out, (HNT.out.kp hkr (fun q h1 h2 e => by omega)).mono (by omega) hzr, HBF.out.trans (hkr.below HBF.out.size (fun q e => by omega))⟩
    · as_aux_lemma =>
      go_simp
      refine (Shut.out hK) _ _ trivial (fun _ => ?_)
      clear hK K
      (try simp only [Act.put]); (try simp only [List.setIfInBounds_toArray, List.set_cons_zero, List.set_cons_succ])
      refine heldStep 1 rfl (by kernel_rfl) (fun K hK => ?_)
      go_simp
      refine (Hid.out hK) _ _ trivial (fun _ => ?_)
      clear hK K
      (try simp only [Act.put]); (try simp only [List.setIfInBounds_toArray, List.set_cons_zero, List.set_cons_succ])
      refine heldStep 3 rfl (by kernel_rfl) (fun K hK => ?_)
      go_simp
      refine (HP1.out _ HB0.out).mono ?_
      rintro e wA ⟨vA, rfl, hoA, hbA⟩
      obtain ⟨kA, cA, hvA⟩ := own_slice hoA
      subst hvA
      have c12A : wA.cell? ⟨g3, 12, none⟩ = some (.slice ia js.length ic) := keep_below hbA _ _ c12d
      have hbA5 : Below w5.heap.size w5 wA := HB0.out.trans (hbA.mono HB0.out.size)
      refine (Hid.out hK) _ _ trivial (fun _ => ?_)
      clear hK K
      (try simp only [Act.put]); (try simp only [List.setIfInBounds_toArray, List.set_cons_zero, List.set_cons_succ])
      refine heldTake 8 _ rfl (by kernel_rfl) (by kernel_rfl) (by kernel_rfl) (fun _ _ _ h => h) rfl hS (fun wy hy => by first | (go_simp; done) | (go_simp; rfl) | rfl) ?_
      (try simp only [Act.put]); (try simp only [List.setIfInBounds_toArray, List.set_cons_zero, List.set_cons_succ])
      refine heldStep 7 rfl (by kernel_rfl) (fun K hK => ?_)
      go_simp
      refine (HP2.out _ hbA5).mono ?_
      rintro e wB ⟨vB, rfl, hoB, hbB⟩
      obtain ⟨kB, cB, hvB⟩ := own_slice hoB
      subst hvB
      refine (Hid.out hK) _ _ trivial (fun _ => ?_)
      clear hK K
      (try simp only [Act.put]); (try simp only [List.setIfInBounds_toArray, List.set_cons_zero, List.set_cons_succ])
      have hSB : (fun _ : World => True) wB := trivial
      have hb5B : Below w5.heap.size w5 wB := hbA5.trans (hbB.mono hbA5.size)
      have hzA := HB0.out.size
      have hzA2 := hbA.size
      have hzB := hbB.size
      have hRB := HRB.out wB hb5B
      have c11B := blk_cell (j := 11) hRB rfl
      have f11B := blk_frozen 11 hRB
      have hR1 := blk_set 11 (.slice kA ps.length cA) hRB
      have c12B : (wB.setCell ⟨g3, 11, none⟩ (.slice kA ps.length cA)).cell? ⟨g3, 12, none⟩ = some (.slice ia js.length ic) := blk_cell hR1 rfl
      have f12B := blk_frozen 12 hR1
      have hR2 := blk_set 12 (.slice kB ps.length cB) hR1
      have HR2 : Hid (((wB.setCell ⟨g3, 11, none⟩ (.slice kA ps.length cA)).setCell ⟨g3, 12, none⟩ (.slice kB ps.length cB)).heap[g3]? = some (.cells (vcs t (.slice ya t.y.length yc) (.slice kA ps.length cA) (.slice kB ps.length cB)) 62 (0, 0))) := hR2
      have hk1 : Kp (fun q => q = g3) wB (wB.setCell ⟨g3, 11, none⟩ (.slice kA ps.length cA)) := (Kp.refl _ _).setCell _ _ (fun _ => rfl)
      have hk2 : Kp (fun q => q = g3) wB ((wB.setCell ⟨g3, 11, none⟩ (.slice kA ps.length cA)).setCell ⟨g3, 12, none⟩ (.slice kB ps.length cB)) := hk1.setCell _ _ (fun _ => rfl)
      have hzs := hk2.size
      have HK2 := hide hk2
      have HOA : Hid (wB.ownsRow w5.heap.size 9 1 (.slice kA ps.length cA) ps.length (sv (pickS t.ks ps))) := own_mono ((Kp.of_below (S := fun _ => False) hbB).owns hoA (fun _ _ h => h)) hzA
      have HOB : Hid (wB.ownsRow w5.heap.size 62 13 (.slice kB ps.length cB) ps.length (vfl (pickL L ps))) := own_mono hoB (by omega)
      have HB5 := hide hb5B
      have HZS : Hid (w5.heap.size ≤ wB.heap.size ∧ wB.heap.size ≤ ((wB.setCell ⟨g3, 11, none⟩ (.slice kA ps.length cA)).setCell ⟨g3, 12, none⟩ (.slice kB ps.length cB)).heap.size) := ⟨hb5B.size, hzs⟩
      clear hRB hR1 hR2 hk1 hk2 hoA hoB hbA hbB hb5B hbA5 hzA hzA2 hzB hzs c11 c12 c11d c12d c12A
      refine heldStep 9 rfl (by kernel_rfl) (fun K hK => ?_)
      go_simp
      refine (Hid.out hK) _ _ trivial (fun _ => ?_)
      clear hK K
      (try simp only [Act.put]); (try simp only [List.setIfInBounds_toArray, List.set_cons_zero, List.set_cons_succ])
      refine heldTake 10 _ rfl (by kernel_rfl) (by kernel_rfl) (by kernel_rfl) (fun _ _ _ h => h) rfl hS (fun wy hy => by first | (go_simp; done) | (go_simp; rfl) | rfl) ?_
      (try simp only [Act.put]); (try simp only [List.setIfInBounds_toArray, List.set_cons_zero, List.set_cons_succ])
      refine heldStep 11 rfl (by kernel_rfl) (fun K hK => ?_)
      go_simp
      refine (Hid.out hK) _ _ trivial (fun _ => ?_)
      clear hK K
      (try simp only [Act.put]); (try simp only [List.setIfInBounds_toArray, List.set_cons_zero, List.set_cons_succ])
      refine heldDone (by kernel_rfl) ?_
      clear c11B f11B c12B f12B
      have hz := HZS.out
      have hg5 := HZ5.out
      have hg3 : w.heap.size + 2 ≤ g3 := by have := HW3.out.z; have := HG3.out; omega
      have HK5 : Hid (Kp (fun q => q = g3) w5 ((wB.setCell ⟨g3, 11, none⟩ (.slice kA ps.length cA)).setCell ⟨g3, 12, none⟩ (.slice kB ps.length cB))) := (Kp.of_below HB5.out).trans HK2.out (fun _ _ h => h)
      have HNT : Hid (Ntv ((wB.setCell ⟨g3, 11, none⟩ (.slice kA ps.length cA)).setCell ⟨g3, 12, none⟩ (.slice kB ps.length cB)) (w.heap.size + 2) ((wB.setCell ⟨g3, 11, none⟩ (.slice kA ps.length cA)).setCell ⟨g3, 12, none⟩ (.slice kB ps.length cB)).heap.size (t.wp js ps) (vcs t (.slice ya t.y.length yc) (.slice kA ps.length cA) (.slice kB ps.length cB))) := by
        refine ntv_pick ⟨HBD.out.n, HBD.out.b, HBD.out.s, HBD.out.y, HBD.out.l, HBD.out.d⟩ HYB.out ?_ ?_ ?_ ?_ ?_ ?_ hpl HKSZ.out (fun p hp => by have := HSP.out.lt p hp; omega) (fun p hp => by have := HSP.out.lt p hp; have := HMD.out.n; omega) HLL.out H13.out HK5.out HCS.out (by omega)
        · exact HK5.out.owns HYO.out (fun q hq e => by have := HYG.out q hq; omega)
        · intro q hq
          have := HYG.out q hq
          omega
        · exact own_mono (HK2.out.owns HOA.out (fun q hq e => by have := HOA.out.lt q hq; omega)) (by omega)
        · intro q hq
          have := HOA.out.lt q hq
          omega
        · exact own_mono (HK2.out.owns HOB.out (fun q hq e => by have := HOB.out.lt q hq; omega)) (by omega)
        · intro q hq
          have := HOB.out.lt q hq
          omega
      have HXL : Hid (∀ j v, (vcs t (.slice ya t.y.length yc) (.slice kA ps.length cA) (.slice kB ps.length cB))[j]? = some v → ((wB.setCell ⟨g3, 11, none⟩ (.slice kA ps.length cA)).setCell ⟨g3, 12, none⟩ (.slice kB ps.length cB)).cell? ⟨g3, 0 + j, none⟩ = some v) := fun j v hv => by
        rw [Nat.zero_add]
        exact blk_cell HR2.out hv
      have HONA := hide HNT.out.tin.all1
      have HIN : Hid ((Tryz.prog.info? 62).map (·.size) = some (vcs t (.slice ya t.y.length yc) (.slice kA ps.length cA) (.slice kB ps.length cB)).size) := infoV
      have HRR : Hid (((wB.setCell ⟨g3, 11, none⟩ (.slice kA ps.length cA)).setCell ⟨g3, 12, none⟩ (.slice kB ps.length cB)).heap[w.heap.size + 1]? = some (.cells zv 62 (0, 0))) := (HK5.out.block _ (by omega) (fun e => by omega)).trans HW5.out.r
      have HZV : Hid (zv.size = (vcs t (.slice ya t.y.length yc) (.slice kA ps.length cA) (.slice kB ps.length cB)).size) := rfl
      have HBF : Hid (Below w.heap.size w ((wB.setCell ⟨g3, 11, none⟩ (.slice kA ps.length cA)).setCell ⟨g3, 12, none⟩ (.slice kB ps.length cB))) := HW5.out.b.trans (HK5.out.below HW5.out.b.size (fun q e => by omega))
      clear hz hg5 hg3
      go_wp2_with (first
        | (refine wpList_valAt rfl rfl g3 0 (vcs t (.slice ya t.y.length yc) (.slice kA ps.length cA) (.slice kB ps.length cB)) rfl rfl HXL.out ?_)
        | (refine wpList_storeRow rfl rfl (w.heap.size + 1) zv (vcs t (.slice ya t.y.length yc) (.slice kA ps.length cA) (.slice kB ps.length cB)) 62 rfl rfl HRR.out HIN.out HZV.out HONA.out ?_))
      have hkr := row_kp ((wB.setCell ⟨g3, 11, none⟩ (.slice kA ps.length cA)).setCell ⟨g3, 12, none⟩ (.slice kB ps.length cB)) (w.heap.size + 1) (vcs t (.slice ya t.y.length yc) (.slice kA ps.length cA) (.slice kB ps.length cB))
      have hzr := hkr.size
      exact bodyPost_ret (end_so rfl (row_same HRR.out) rfl) rfl ⟨_, rfl, t.wp js ps, srt_pick hk9 HMD.out HSP.out, (HNT.out.kp hkr (fun q h1 h2 e => by omega)).mono (by omega) hzr, HBF.out.trans (hkr.below HBF.out.size (fun q e => by omega))⟩
  · as_aux_lemma =>
    have g9 : (t.k == 9) = false := by simpa using hk9
    have HCX : Hid (∀ j u, c[j]? = some u → ((w3.alloc (.cells zv 62)).setRow w3.heap.size c).cell? ⟨w3.heap.size, 0 + j, none⟩ = some u) := HIT.out.cells
    have HR4 := hide HW4.out.r
    go_wp2_with (first
      | (refine wpList_storeRow rfl rfl w3.heap.size zv c 62 rfl rfl HG0.out HIN.out HZV.out HA1.out ?_)
      | (refine wpList_valAt rfl rfl w3.heap.size 0 c rfl HS1.out HCX.out ?_)
      | (refine wpList_storeRow rfl rfl (w.heap.size + 1) zv c 62 rfl rfl HR4.out HIN.out HZV.out HA1.out ?_))
    have hkr := row_kp ((w3.alloc (.cells zv 62)).setRow w3.heap.size c) (w.heap.size + 1) c
    have hzr := hkr.size
    have hz4 := HIT.out.z
    have hz3 := HW3.out.z
    have hfin : w3.heap.size ≤ (((w3.alloc (.cells zv 62)).setRow w3.heap.size c).setRow (w.heap.size + 1) c).heap.size := by omega
    refine bodyPost_ret (end_so HS1.out (row_same HR4.out) rfl) rfl ⟨_, t.wi js, rfl, SrtR.rest t (t.wi js) hk9 ⟨rfl, rfl, rfl, rfl, rfl, rfl, rfl, rfl⟩ rfl HMD.out.n HMD.out.r, (HN4.out.kp hkr (fun q h1 h2 e => by omega)).mono (by omega) hfin, HW4.out.b.trans (hkr.below HW4.out.b.size (fun q e => by omega))⟩
end
section
open Go.RowKit Go
/-! Sorted values, plainly. -/
/-- What of a tree the order of its entries hangs on. -/
inductive Trk : Tv → Prop
  | mk (t : Tv) (h9 : t.k = 9 → t.ks.length = t.is.length ∧ t.ks.Nodup ∧ t.f = false ∧ t.g = false ∧ t.n = 0 ∧ t.b = 0 ∧ t.s = ⟨#[]⟩ ∧ t.y = [] ∧ t.l = ⟨0, 0, 0, []⟩) (hn : t.k ≠ 9 → t.ks = []) (hi : ∀ u ∈ t.is, Trk u) : Trk t
theorem Trk.m {t : Tv} (h : Trk t) (h9 : t.k = 9) : t.ks.length = t.is.length ∧ t.ks.Nodup ∧ t.f = false ∧ t.g = false ∧ t.n = 0 ∧ t.b = 0 ∧ t.s = ⟨#[]⟩ ∧ t.y = [] ∧ t.l = ⟨0, 0, 0, []⟩ := by
  cases h with
  | mk _ a b c => exact a h9
theorem Trk.e {t : Tv} (h : Trk t) (h9 : t.k ≠ 9) : t.ks = [] := by
  cases h with
  | mk _ a b c => exact b h9
theorem Trk.i {t : Tv} (h : Trk t) : ∀ u ∈ t.is, Trk u := by
  cases h with
  | mk _ a b c => exact c
theorem blt_tot : ∀ (x y : List Nat), x.length = y.length → blt x y = false → blt y x = false → x = y
  | [], [], _, _, _ => rfl
  | [], _ :: _, h, _, _ => by simp at h
  | _ :: _, [], h, _, _ => by simp at h
  | a :: x, b :: y, h, h1, h2 => by
    simp only [blt] at h1 h2
    by_cases e : a = b
    · rw [if_pos e] at h1
      rw [if_pos e.symm] at h2
      rw [e, blt_tot x y (by simpa using h) h1 h2]
    · rw [if_neg e] at h1
      rw [if_neg (fun h => e h.symm)] at h2
      simp at h1 h2
      omega
theorem bfr_tot {x y : List Nat} (h1 : bfr x y = false) (h2 : bfr y x = false) : x = y := by
  unfold bfr at *
  by_cases e : x.length = y.length
  · rw [if_pos e] at h1
    rw [if_pos e.symm] at h2
    exact blt_tot x y e h1 h2
  · rw [if_neg e] at h1
    rw [if_neg (fun h => e h.symm)] at h2
    simp at h1 h2
    omega
theorem sl_inj {s t : ByteArray} (h : sl s = sl t) : s = t := by rw [← nstr_sl s, h, nstr_sl]
theorem nodup_at {ks : List ByteArray} (h : ks.Nodup) {i j : Nat} (hi : i < ks.length) (hj : j < ks.length) (e : ks.getD i ⟨#[]⟩ = ks.getD j ⟨#[]⟩) : i = j := by
  simp only [List.getD, List.getElem?_eq_getElem hi, List.getElem?_eq_getElem hj, Option.getD_some] at e
  have hp := List.pairwise_iff_getElem.1 h
  rcases Nat.lt_trichotomy i j with hij | hij | hij
  · exact absurd e (hp i j hi hj hij)
  · exact hij
  · exact absurd e.symm (hp j i hj hi hij)
theorem Srp.pw {ks : List ByteArray} {n : Nat} {ps : List Nat} (h : Srp ks n ps) : ps.Pairwise (fun p q => bfr (sl (ks.getD q ⟨#[]⟩)) (sl (ks.getD p ⟨#[]⟩)) = false) := by
  rw [List.pairwise_iff_getElem]
  intro i j hi hj hij
  exact h.s i j _ _ hij (List.getElem?_eq_getElem hi) (List.getElem?_eq_getElem hj)
/-- Where no key stands twice there is one order. -/
theorem srp_one {ks : List ByteArray} {n : Nat} {ps qs : List Nat} (hnd : ks.Nodup) (hl : n ≤ ks.length) (h1 : Srp ks n ps) (h2 : Srp ks n qs) : ps = qs := by
  refine List.Perm.eq_of_pairwise (le := fun p q => bfr (sl (ks.getD q ⟨#[]⟩)) (sl (ks.getD p ⟨#[]⟩)) = false) ?_ h1.pw h2.pw (h1.p.trans h2.p.symm)
  intro a b ha hb hab hba
  have e := sl_inj (bfr_tot hab hba)
  have la := h1.lt a ha
  have lb := h2.lt b hb
  exact (nodup_at hnd (by omega) (by omega) e).symm
theorem pickS_at {ks : List ByteArray} {ps : List Nat} {i p : Nat} (hp : ps[i]? = some p) : (pickS ks ps)[i]? = some (ks.getD p ⟨#[]⟩) := by simp [pickS, hp]
end
section
open Go.RowKit Go
theorem Top.self (t : Tv) : Top t t := ⟨rfl, rfl, rfl, rfl, rfl, rfl, rfl, rfl⟩
theorem pickS_range (ks : List ByteArray) : pickS ks (List.range ks.length) = ks := by
  apply List.ext_getElem?
  intro i
  by_cases hi : i < ks.length
  · rw [pickS_at (List.getElem?_range hi), List.getElem?_eq_getElem hi]
    simp [List.getD, List.getElem?_eq_getElem hi]
  · rw [List.getElem?_eq_none (by rw [pickS_len]; simpa using hi), List.getElem?_eq_none (by omega)]
end
section
open Go.RowKit Go
/-! What passes is a tree (cut out of Tb6: hangs on no link). -/
/-- A value that passes is a tree. -/
theorem onef_0 {t : Tv} {a : Nat} (h : onef t a = 0) : ¬ ((t.k = 8 ∨ t.k = 9) ∧ 1024 ≤ a) ∧ tidyf t = true ∧ finb t.b = true ∧ (badb t.s || t.ks.any badb) = false ∧ ¬ (t.k = 7 ∧ ¬ lok t.l) ∧ ¬ (t.k = 9 ∧ ¬ (t.ks.length = t.is.length ∧ t.ks.Nodup)) := by
  unfold onef at h
  split at h
  · cases h
  · rename_i h1
    split at h
    · cases h
    · rename_i h2
      split at h
      · cases h
      · rename_i h3
        split at h
        · cases h
        · rename_i h4
          split at h
          · cases h
          · rename_i h5
            split at h
            · cases h
            · rename_i h6
              exact ⟨h1, by simpa using h2, by simpa using h3, by simpa using h4, h5, h6⟩
theorem chkL_all {l : List Tv} {a : Nat} (h : chkL l a = 0) : ∀ u ∈ l, chkf u a = 0 := by
  intro u hu
  obtain ⟨i, hi⟩ := List.getElem?_of_mem hu
  have key : ∀ N i : Nat, i < N → ∀ v, l[i]? = some v → chkf v a = 0 := by
    intro N
    induction N with
    | zero => intro i hi; omega
    | succ N ih =>
      intro i hi v hv
      rcases Nat.lt_or_ge i N with h1 | h1
      · exact ih i h1 v hv
      · rcases Nat.eq_zero_or_pos (chkf v a) with e | e
        · exact e
        · have := chkL_at (i := i) (fun j w hj hw => ih j (by omega) w hw) hv (by omega)
          omega
  exact key (i + 1) i (by omega) u hi
theorem chkf_0 {t : Tv} {a : Nat} (h : chkf t a = 0) : onef t a = 0 ∧ ∀ u ∈ t.is, chkf u (a + 1) = 0 := by
  rw [chkf_eq] at h
  split at h
  · rename_i h1
    exact ⟨h1, chkL_all h⟩
  · rename_i h1
    exact absurd h h1
theorem tidy_k {t : Tv} (h : tidyf t = true) : 1 ≤ t.k ∧ t.k ≤ 9 ∧ t.zr.cl = true := by
  unfold tidyf at h
  rw [Bool.and_eq_true, decide_eq_true_eq] at h
  exact ⟨h.1.1, h.1.2, h.2⟩
theorem cl_all {t : Tv} (h : t.cl = true) : t.f = false ∧ t.g = false ∧ t.n = 0 ∧ t.b = 0 ∧ t.s = ⟨#[]⟩ ∧ t.l = ⟨0, 0, 0, []⟩ ∧ t.y = [] ∧ t.ks = [] ∧ t.is = [] := by
  unfold Tv.cl at h
  simp only [Bool.and_eq_true, Bool.not_eq_true', decide_eq_true_eq, List.isEmpty_iff] at h
  exact h
theorem tidy_9 {t : Tv} (h : tidyf t = true) (h9 : t.k = 9) : t.f = false ∧ t.g = false ∧ t.n = 0 ∧ t.b = 0 ∧ t.s = ⟨#[]⟩ ∧ t.y = [] ∧ t.l = ⟨0, 0, 0, []⟩ := by
  have h1 := (tidy_k h).2.2
  have e : t.zr = .mk t.k t.f t.g t.n t.b t.s t.y t.l [] [] := by unfold Tv.zr; simp [h9]
  rw [e] at h1
  obtain ⟨a1, a2, a3, a4, a5, a6, a7, _⟩ := cl_all h1
  exact ⟨a1, a2, a3, a4, a5, a7, a6⟩
theorem tidy_ks {t : Tv} (h : tidyf t = true) (h9 : t.k ≠ 9) : t.ks = [] := by
  have h1 := (cl_all (tidy_k h).2.2).2.2.2.2.2.2.2.1
  have e : t.zr.ks = t.ks := by
    unfold Tv.zr
    rw [if_neg h9]
    repeat' split
    all_goals rfl
  rw [e] at h1
  exact h1
theorem chk_trk {t : Tv} {a : Nat} (h : chkf t a = 0) : Trk t := by
  have key : ∀ N, ∀ t : Tv, SizeOf.sizeOf t = N → ∀ a, chkf t a = 0 → Trk t := by
    intro N
    induction N using Nat.strongRecOn with
    | _ N ih =>
      intro t hN a h
      obtain ⟨h1, h2⟩ := chkf_0 h
      obtain ⟨_, htd, _, _, _, hks⟩ := onef_0 h1
      refine Trk.mk t (fun h9 => ?_) (fun h9 => tidy_ks htd h9) fun u hu => ih _ (by have := Tv.is_lt hu; omega) u rfl _ (h2 u hu)
      have h3 : t.ks.length = t.is.length ∧ t.ks.Nodup := by
        apply Classical.byContradiction
        intro hh
        exact hks ⟨h9, hh⟩
      exact ⟨h3.1, h3.2, tidy_9 htd h9⟩
  exact key _ t rfl a h
end
section
open Go.RowKit Go
/-! ### What is read: parts are made of it, it is sorted, it is no greater than its form -/
theorem chk_ptr {t : Tv} {a : Nat} (h : chkf t a = 0) : Ptr t := by
  have key : ∀ N, ∀ t : Tv, SizeOf.sizeOf t = N → ∀ a, chkf t a = 0 → Ptr t := by
    intro N
    induction N using Nat.strongRecOn with
    | _ N ih =>
      intro t hN a h
      obtain ⟨h1, h2⟩ := chkf_0 h
      obtain ⟨_, htd, _, _, hl, hks⟩ := onef_0 h1
      have h3 := tidy_k htd
      refine Ptr.mk t ⟨h3.1, h3.2.1⟩ (fun h7 => ?_) (fun h9 => ?_) fun u hu => ih _ (by have := Tv.is_lt hu; omega) u rfl _ (h2 u hu)
      · apply Classical.byContradiction
        intro hh
        exact hl ⟨h7, hh⟩
      · apply Classical.byContradiction
        intro hh
        exact hks ⟨h9, fun x => hh x.1⟩
  exact key _ t rfl a h
theorem bfr_asym {x y : List Nat} (h : bfr x y = true) : bfr y x = false := by
  cases e : bfr y x with
  | false => rfl
  | true => rw [← bfr_self x]; exact (bfr_tr _ _ _ h e).symm ▸ rfl
theorem rsn_srt {t : Tv} (h : Rsn t) : ∀ {a : Nat}, chkf t a = 0 → SrtR t t := by
  induction h with
  | mk t hk hi ih =>
    intro a hc
    obtain ⟨h1, h2⟩ := chkf_0 hc
    have hT := chk_trk hc
    by_cases h9 : t.k = 9
    · have hm := (hT.m h9).1
      have hmin : min t.ks.length t.is.length = t.ks.length := by omega
      refine SrtR.map t t (List.range t.ks.length) h9 (Top.self t) ?_ (pickS_range t.ks).symm (by simp; omega) (fun i p u v hp hu hv => ?_)
      · rw [hmin]
        refine ⟨List.Perm.refl _, fun i j p q hij h1 h2 => ?_⟩
        have l1 := (List.getElem?_eq_some_iff.1 h1).1
        have l2 := (List.getElem?_eq_some_iff.1 h2).1
        simp at l1 l2
        rw [List.getElem?_range l1] at h1
        rw [List.getElem?_range l2] at h2
        injection h1 with h1
        injection h2 with h2
        subst h1
        subst h2
        have e1 := List.getElem?_eq_getElem l1
        have e2 := List.getElem?_eq_getElem l2
        have h3 := rise_lt hk (j - i - 1) i _ _ e1 (by rw [show i + (j - i - 1) + 1 = j by omega]; exact e2)
        simp only [List.getD, e1, e2, Option.getD_some]
        exact bfr_asym h3
      · have l1 := (List.getElem?_eq_some_iff.1 hp).1
        simp at l1
        rw [List.getElem?_range l1] at hp
        injection hp with hp
        subst hp
        rw [hu] at hv
        injection hv with hv
        subst hv
        exact ih u (List.mem_of_getElem? hu) (h2 u (List.mem_of_getElem? hu))
    · refine SrtR.rest t t h9 (Top.self t) rfl rfl (fun i u v hu hv => ?_)
      rw [hu] at hv
      injection hv with hv
      subst hv
      exact ih u (List.mem_of_getElem? hu) (h2 u (List.mem_of_getElem? hu))
theorem hl_pos8 (m n : Nat) : 1 ≤ (hl m n).length := by
  rw [hl_len]
  unfold hsize
  omega
theorem kfm_len (s : ByteArray) : 1 + s.size / 64 ≤ (kfm s).length := by
  unfold kfm
  have := hl_pos8 3 (sl s).length
  have e : (sl s).length = s.size := by simp [sl]
  rw [List.length_append]
  omega
theorem tfmK_len : ∀ {ks : List ByteArray} {is : List Tv}, ks.length = is.length → ks.length + (ks.map fun k => k.size / 64).sum + (tfmL is).length ≤ (tfmK ks is).length
  | [], [], _ => by simp [tfmL, tfmK]
  | k :: ks, t :: r, h => by
    have h1 := tfmK_len (ks := ks) (is := r) (by simpa using h)
    have h2 := kfm_len k
    rw [tfmK, tfmL]
    simp only [List.length_cons, List.map_cons, List.sum_cons, List.length_append]
    omega
theorem tmuchL_le : ∀ {l : List Tv}, (∀ u ∈ l, tmuch u ≤ (tfm u).length) → tmuchL l ≤ (tfmL l).length
  | [], _ => by simp [tmuchL]
  | t :: r, h => by
    have h1 := h t (List.mem_cons_self ..)
    have h2 := tmuchL_le (l := r) (fun u hu => h u (List.mem_cons_of_mem _ hu))
    rw [tmuchL, tfmL, List.length_append]
    omega
theorem lbytes_d (l : Lk) : l.d.length ≤ (lbytes l).length := by
  unfold lbytes
  split <;> simp <;> omega
theorem chk_much {t : Tv} {a : Nat} (h : chkf t a = 0) : tmuch t ≤ (tfm t).length := by
  have key : ∀ N, ∀ t : Tv, SizeOf.sizeOf t = N → ∀ a, chkf t a = 0 → tmuch t ≤ (tfm t).length := by
    intro N
    induction N using Nat.strongRecOn with
    | _ N ih =>
      intro t hN a h
      obtain ⟨h1, h2⟩ := chkf_0 h
      obtain ⟨_, htd, _, _, hl, hks⟩ := onef_0 h1
      obtain ⟨k1, k2, k3⟩ := tidy_k htd
      have hi := tmuchL_le (l := t.is) (fun u hu => ih _ (by have := Tv.is_lt hu; omega) u rfl _ (h2 u hu))
      have h9 : t.k = 9 → t.ks.length = t.is.length := fun h9 => by
        apply Classical.byContradiction
        intro hh
        exact hks ⟨h9, fun x => hh x.1⟩
      clear h h1 h2 htd hl hks hN ih
      obtain ⟨k, f, g, n, b, s, y, l, ks, is⟩ := t
      simp only [Tv.k, Tv.ks, Tv.is] at k1 k2 hi h9
      have hc : k = 1 ∨ k = 2 ∨ k = 3 ∨ k = 4 ∨ k = 5 ∨ k = 6 ∨ k = 7 ∨ k = 8 ∨ k = 9 := by omega
      have g8 := hl_pos8 4 is.length
      have g9 := hl_pos8 5 is.length
      have g6 := hl_pos8 2 y.length
      have g3 := hl_pos8 (if g = true then 1 else 0) n
      have g7 := hl_pos8 6 42
      have gl := lbytes_d l
      have gs := kfm_len s
      have c := cl_all k3
      have e0 : (⟨#[]⟩ : ByteArray).size = 0 := rfl
      rcases hc with rfl | rfl | rfl | rfl | rfl | rfl | rfl | rfl | rfl
      all_goals
        simp only [Tv.zr, Tv.k, Tv.f, Tv.g, Tv.n, Tv.b, Tv.s, Tv.y, Tv.l, Tv.ks, Tv.is] at c
        simp at c
        rw [tmuch, tfm]
        simp
      · obtain ⟨_, _, _, _, rfl, rfl, rfl, rfl, rfl⟩ := c
        simp [tmuchL, e0]
      · obtain ⟨_, _, _, rfl, rfl, rfl, rfl, rfl⟩ := c
        simp [tmuchL, e0]
      · obtain ⟨_, _, rfl, rfl, rfl, rfl, rfl⟩ := c
        simp only [tmuchL, e0, List.length_nil, List.map_nil, List.sum_nil]
        omega
      · obtain ⟨_, _, _, rfl, rfl, rfl, rfl, rfl⟩ := c
        simp [tmuchL, e0]
      · obtain ⟨_, _, _, _, rfl, rfl, rfl, rfl⟩ := c
        simp only [tmuchL, List.length_nil, List.map_nil, List.sum_nil]
        omega
      · obtain ⟨_, _, _, _, rfl, rfl, rfl, rfl⟩ := c
        simp only [tmuchL, e0, List.length_nil, List.map_nil, List.sum_nil]
        omega
      · obtain ⟨_, _, _, _, rfl, rfl, rfl, rfl⟩ := c
        simp only [tmuchL, e0, List.length_nil, List.map_nil, List.sum_nil]
        omega
      · obtain ⟨_, _, _, _, rfl, rfl, rfl, rfl⟩ := c
        simp only [e0, List.length_nil, List.map_nil, List.sum_nil]
        omega
      · obtain ⟨_, _, _, _, rfl, rfl, rfl⟩ := c
        have hK := tfmK_len (h9 rfl)
        simp only [e0, List.length_nil]
        omega
  exact key _ t rfl a h
end
section
open Go.RowKit Go
/-- What ending tells. -/
def lend (xs : List Nat) : Nat × List Nat × Nat × Nat := if (dread xs).2.2.2 = 0 then dread xs else (0, [], 0, lerr (dread xs).2.2.2)
theorem lend_third (v : Int) (c at' : Nat) (b : List Nat) : lthird v c at' b = if (lend (b.drop at')).2.2.2 = 0 then (⟨v, c, (lend (b.drop at')).1, (lend (b.drop at')).2.1⟩, at' + (lend (b.drop at')).2.2.1, 0) else (Lk.none, 0, (lend (b.drop at')).2.2.2) := by
  unfold lthird lend
  by_cases h : (dread (b.drop at')).2.2.2 = 0
  · rw [if_pos h, if_pos h, if_pos h]
  · rw [if_neg h, if_neg h, if_neg]
    unfold lerr
    simp only
    split <;> omega
set_option maxRecDepth 1000000 in
set_option maxHeartbeats 1000000 in
theorem lending_any (w : World) (v : Value) (xs : List Nat) (hb : BSl w v xs) :
    Calls Tryz.prog 189 #[v] w fun e w' => ∃ v', e = .returned (.tuple #[.int .u64 ((lend xs).1 : Nat), v', .int .i64 ((lend xs).2.2.1 : Nat), .int .i64 ((lend xs).2.2.2 : Nat)]) ∧ w'.ownsRow w.heap.size 5 1 v' (lend xs).2.1.length (bv (lend xs).2.1) ∧ Below w.heap.size w w' := by
  have HB := hide hb
  obtain ⟨⟨a, cap, rfl, hn, hc⟩, hmax, hby⟩ := hb
  have HLE : Hid (lend xs = if (dread xs).2.2.2 = 0 then dread xs else (0, [], 0, lerr (dread xs).2.2.2)) := rfl
  clear hn hc hby
  go_enter Tryz.func189, Tryz.ntmps189
  go_wp2_with fail
  refine (dread_any w _ xs HB.out).mono ?_
  rintro e w1 ⟨v1, rfl, ho1, hb1⟩
  have HB1 := hide hb1
  generalize dread xs = r at *
  obtain ⟨rh, rdd, rn, re⟩ := r
  simp only at ho1 HLE ⊢
  have HO1 := hide ho1
  obtain ⟨a1, c1, hv1, _⟩ := own_form ho1
  subst hv1
  clear ho1 hb1
  by_cases h0 : re = 0
  · subst h0
    have HZ : Hid (lend xs = (rh, rdd, rn, 0)) := by show _ = _; rw [HLE.out, if_pos rfl]
    clear HLE
    go_wp2_with fail
    exact bodyPost_ret (results_four rfl _ _ _) rfl ⟨_, by rw [HZ.out]; rfl, by rw [HZ.out]; exact HO1.out, HB1.out⟩
  · have g0 : ((re : Int) == 0) = false := beq_eq_false_iff_ne.2 (by omega)
    by_cases h1 : re = 32
    · subst h1
      have HZ : Hid (lend xs = (0, [], 0, 42)) := by show _ = _; rw [HLE.out]; rfl
      clear HLE
      go_wp2_with fail
      exact bodyPost_ret (results_four rfl _ _ _) rfl ⟨_, by rw [HZ.out]; rfl, by rw [HZ.out]; exact World.ownsRow_nil _ _ _ _, HB1.out⟩
    · have g1 : ((re : Int) == 32) = false := beq_eq_false_iff_ne.2 (by omega)
      by_cases h2 : re = 33
      · subst h2
        have HZ : Hid (lend xs = (0, [], 0, 42)) := by show _ = _; rw [HLE.out]; rfl
        clear HLE
        go_wp2_with fail
        exact bodyPost_ret (results_four rfl _ _ _) rfl ⟨_, by rw [HZ.out]; rfl, by rw [HZ.out]; exact World.ownsRow_nil _ _ _ _, HB1.out⟩
      · have g2 : ((re : Int) == 33) = false := beq_eq_false_iff_ne.2 (by omega)
        have HZ : Hid (lend xs = (0, [], 0, 43)) := by show _ = _; rw [HLE.out, if_neg h0]; unfold lerr; rw [if_neg (by omega)]
        clear HLE
        go_wp2_with fail
        exact bodyPost_ret (results_four rfl _ _ _) rfl ⟨_, by rw [HZ.out]; rfl, by rw [HZ.out]; exact World.ownsRow_nil _ _ _ _, HB1.out⟩
end
end Go.Proofs.YtadilnmkjcmnnaaGreatDoor

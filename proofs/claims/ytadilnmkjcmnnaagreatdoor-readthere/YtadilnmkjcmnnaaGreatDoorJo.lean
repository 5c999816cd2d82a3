import Derived.Test.YtadilnmkjcmnnaaGreatDoorJm
import Derived.Test.YtadilnmkjcmnnaaGreatDoorJn
import Derived.Test.YtadilnmkjcmnnaaGreatDoorJc
import Derived.Test.YtadilnmkjcmnnaaGreatDoorJd
import Derived.Deep.RegionHeld
namespace Go.Proofs.YtadilnmkjcmnnaaGreatDoor
section
open Go.RowKit Go
/-- A value's own variable. -/
theorem box_mk (w : World) (c : Array Value) : Below w.heap.size w (w.alloc (.cells c 62)) ∧ (w.alloc (.cells c 62)).heap[w.heap.size]? = some (.cells c 62 (0, 0)) := ⟨below_alloc4 w _, heap_alloc_new w _⟩
set_option maxRecDepth 1000000 in
set_option maxHeartbeats 1000000 in
theorem depth_step (N : Nat) (ih : ∀ t : Tv, SizeOf.sizeOf t < N → ∀ (w : World) (cs : Array Value), Tin w t cs → tdepth t ≤ 3000000 → Calls Tryz.prog 18 #[.agg cs] w fun e w' => e = .returned (.int .i64 (tdepth t : Nat)) ∧ Below w.heap.size w w')
    (t : Tv) (hN : SizeOf.sizeOf t = N) (w : World) (cs : Array Value) (ht : Tin w t cs) (hd : tdepth t ≤ 3000000) : Calls Tryz.prog 18 #[.agg cs] w fun e w' => e = .returned (.int .i64 (tdepth t : Nat)) ∧ Below w.heap.size w w' := by
  have HIH := hide ih
  clear ih
  have HTN := hide ht
  obtain ⟨vy, vk, vi, rfl, hy, hk, hv, hb⟩ := ht.parts
  have HDE := hide (tdepth_eq t)
  have HNN := hide hN
  obtain ⟨⟨ay, cy, rfl, _, _⟩, _⟩ := hy
  obtain ⟨⟨ak, ck, rfl, _, _⟩, _, _⟩ := hk
  obtain ⟨⟨a, cap, rfl, hcap, hform⟩, hmax⟩ := hv
  have HF := hide hform
  clear hb ht hcap hform hN
  have HQ0 := hide (box_mk w (vcs t (.slice ay t.y.length cy) (.slice ak t.ks.length ck) (.slice a t.is.length cap)))
  generalize hcs : vcs t (.slice ay t.y.length cy) (.slice ak t.ks.length ck) (.slice a t.is.length cap) = cs at *
  have HZ : Hid (cs.size = 13) := by show _ = _; rw [← hcs]; rfl
  have HCI : Hid (cs[12]? = some (.slice a t.is.length cap)) := by show _ = _; rw [← hcs]; rfl
  clear hcs
  go_enter Tryz.func18, Tryz.ntmps18
  have HCB : Hid (∀ j u, cs[j]? = some u → (w.alloc (.cells cs 62)).cell? ⟨w.heap.size, 0 + j, none⟩ = some u) := fun j u hu => by rw [Nat.zero_add]; exact blk_cell HQ0.out.2 hu
  have HNE := hide (nests_any t (w.alloc (.cells cs 62)) cs (HTN.out.move (keep_below HQ0.out.1)))
  by_cases hk8 : t.k = 8 ∨ t.k = 9
  · rw [if_pos hk8] at HDE
    have HDL : Hid (tdepthL t.is ≤ 2999999) := by have := HDE.out; show _ ≤ _; omega
    rw [decide_eq_true hk8] at HNE
    clear hk8
    go_wp2_with (first
      | (refine wpList_valAt rfl rfl w.heap.size 0 cs rfl HZ.out HCB.out ?_)
      | (go_at_call 35; refine HNE.out.mono ?_; rintro e w1 ⟨rfl, hb1⟩; have HQ1 : Hid (Below w.heap.size w w1 ∧ w1.heap[w.heap.size]? = some (.cells cs 62 (0, 0))) := ⟨HQ0.out.1.trans (hb1.mono HQ0.out.1.size), (hb1.block _ (blk_lt HQ0.out.2)).trans HQ0.out.2⟩; clear hb1; have q12 : w1.cell? ⟨w.heap.size, 12, none⟩ = some (.slice a t.is.length cap) := blk_cell HQ1.out.2 HCI.out))
    clear HCB HNE HQ0
    go_loopw [3, 12] (fun mm ii wx => ∃ i m : Nat, i ≤ t.is.length ∧ m ≤ 2999999 ∧ mm = .int .i64 (m : Nat) ∧ ii = .int .i64 (i : Nat) ∧ Hid (m = tdepthL (t.is.take i)) ∧ Hid (Below w.heap.size w wx)) (fun _ ii _ => t.is.length - (intOf ii).toNat)
    case atStart => exact ⟨0, 0, by omega, by omega, rfl, rfl, by show _ = _; simp [tdepthL], HQ1.out.1⟩
    case round => as_aux_lemma =>
      rename World => wz
      obtain ⟨i, m, hi, hm, rfl, rfl, HM, HQ⟩ := hrel
      clear HQ1 q12
      by_cases hlt : i < t.is.length
      · have g1 : (i : Int) < (t.is.length : Int) := by omega
        obtain ⟨u, hu⟩ : ∃ u, t.is[i]? = some u := ⟨t.is[i], List.getElem?_eq_getElem hlt⟩
        obtain ⟨b, off, rfl, hcells⟩ := HF.out.resolve_left (fun h => by rw [h] at hlt; simp at hlt)
        obtain ⟨cu, hcu, hcc⟩ := hcells i u hu
        have HCC : Hid (∀ j v, cu[j]? = some v → wz.cell? ⟨b, off + i * 13 + j, none⟩ = some v) := fun j v hv => keep_below HQ.out _ _ (hcc j v hv)
        have hmem := List.mem_of_getElem? hu
        have HSZ := hide hcu.size13
        have HA1 := hide hcu.all1
        have hdu : tdepth u ≤ 2999999 := Nat.le_trans (tdepthL_mem hmem) HDL.out
        have HIT := hide (itm_mk wz cu)
        have HG0 := hide (heap_alloc_new wz (.cells zv 62))
        have HIN : Hid ((Tryz.prog.info? 62).map (·.size) = some cu.size) := by show _ = _; rw [HSZ.out]; exact infoV
        have HZV : Hid (zv.size = cu.size) := by show _ = _; rw [HSZ.out]; rfl
        have HCA := hide (HIH.out u (by rw [← HNN.out]; exact Tv.is_lt hmem) _ cu ((hcu.move (keep_below HQ.out)).move (keep_below HIT.out.b)) (by omega))
        have HCX := hide HIT.out.cells
        have HM2 : Hid (tdepthL (t.is.take (i + 1)) = max m (tdepth u)) := by
          show _ = _
          rw [takeT _ _ _ hu, tdepthL_app, ← HM.out]
          simp [tdepthL]
        clear hu hcells hcu hcc hmem
        generalize tdepth u = du at *
        go_wp2_with (first
          | (refine wpList_valAt rfl rfl b (off + i * 13) cu rfl HSZ.out HCC.out ?_)
          | (refine wpList_storeRow rfl rfl wz.heap.size zv cu 62 rfl rfl HG0.out HIN.out HZV.out HA1.out ?_)
          | (refine wpList_valAt rfl rfl wz.heap.size 0 cu rfl HSZ.out HCX.out ?_))
        refine HCA.out.mono ?_
        rintro e w5 ⟨rfl, hb5⟩
        have HQ5 : Hid (Below w.heap.size w w5) := (HQ.out.trans (HIT.out.b.mono HQ.out.size)).trans (hb5.mono (Nat.le_trans HQ.out.size HIT.out.b.size))
        clear hb5 HQ HCC HCA HCX HIT
        go_wp2_with fail
        have HME : Hid ((if m < du then (du : Int) else (m : Int)) = ((max m du : Nat) : Int)) := by
          show _ = _
          split <;> omega
        have HMX : Hid (max (m : Int) (du : Int) = ((max m du : Nat) : Int)) := by
          show _ = _
          omega
        go_roundw
        case rel => exact ⟨i + 1, max m du, by omega, by omega, by first | rw [HME.out] | rw [HMX.out], by go_num, HM2.out.symm, HQ5⟩
        case measure => simp [intOf]; omega
      · as_aux_lemma =>
        have g1 : ¬ (i : Int) < (t.is.length : Int) := by omega
        have HM3 : Hid (tdepth t = m + 1) := by
          show _ = _
          rw [HDE.out, HM.out, List.take_of_length_le (by omega)]
        go_wp2_with fail
        go_ret
        exact ⟨by rw [HM3.out]; rfl, HQ.out⟩
  · as_aux_lemma =>
    rw [if_neg hk8] at HDE
    rw [decide_eq_false hk8] at HNE
    clear hk8
    go_wp2_with (first
      | (refine wpList_valAt rfl rfl w.heap.size 0 cs rfl HZ.out HCB.out ?_)
      | (go_at_call 35; refine HNE.out.mono ?_; rintro e w1 ⟨rfl, hb1⟩))
    go_ret
    exact ⟨by rw [HDE.out]; rfl, HQ0.out.1.trans (hb1.mono HQ0.out.1.size)⟩
theorem depth_any (t : Tv) (w : World) (cs : Array Value) (ht : Tin w t cs) (hd : tdepth t ≤ 3000000) : Calls Tryz.prog 18 #[.agg cs] w fun e w' => e = .returned (.int .i64 (tdepth t : Nat)) ∧ Below w.heap.size w w' := by
  have h : ∀ N, ∀ t : Tv, SizeOf.sizeOf t = N → ∀ (w : World) (cs : Array Value), Tin w t cs → tdepth t ≤ 3000000 → Calls Tryz.prog 18 #[.agg cs] w fun e w' => e = .returned (.int .i64 (tdepth t : Nat)) ∧ Below w.heap.size w w' := by
    intro N
    induction N using Nat.strongRecOn with
    | _ N ih => exact fun t hN w cs ht hd => depth_step N (fun u hu => ih _ hu u rfl) t hN w cs ht hd
  exact h _ t rfl w cs ht hd
end
section
open Go.RowKit Go
theorem made_iv (c : Nat) : madeCells (Value.int .i64 0).cells c = (ivs (List.replicate c 0)).toArray := by
  apply Array.ext'
  simp only [madeCells, Value.cells, ivs, List.map_replicate]
  apply List.ext_getElem
  · simp
  · intro j h1 h2
    simp [Nat.mod_one]
/-- make([]int, n). -/
theorem mk_ints (w : World) (c : Nat) (hc : c ≤ 10000000) : (Instr.makeSlice 23 (.int .i64 (c : Nat)) (.int .i64 (c : Nat))).run Tryz.prog w = .ok (.slice (some ⟨w.heap.size, 0, none⟩) c c) (w.alloc (.cells (ivs (List.replicate c 0)).toArray 3)) := by
  obtain ⟨i3, hi, hz0, hz1, hz2⟩ := info3_ex
  have hr := run_make (P := Tryz.prog) w 23 3 i3 (.int .i64 0) Tryz.underlying23 hi hz0 .i64 .i64 c c (by omega) (by omega) (by rw [hz2]; omega) (by omega)
  simp only [Int.toNat_natCast, hz1, Nat.mul_one, made_iv] at hr
  exact hr
/-- What order has in hand. -/
structure Odw (w wx : World) (cs : Array Value) (n i : Nat) : Prop where
  b : Below w.heap.size w wx
  r : wx.heap[w.heap.size]? = some (.cells cs 62 (0, 0))
  o : wx.heap[w.heap.size + 1]? = some (.cells (ivs (List.range i ++ List.replicate (n - i) 0)).toArray 3 (0, 0))
theorem Odw.start (w : World) (cs : Array Value) (n : Nat) : Odw w ((w.alloc (.cells cs 62)).alloc (.cells (ivs (List.replicate n 0)).toArray 3)) cs n 0 := by
  have h0 := heap_alloc_new w (.cells cs 62)
  have e : (w.alloc (.cells cs 62)).heap.size = w.heap.size + 1 := by simp
  have h1 := heap_alloc_new (w.alloc (.cells cs 62)) (.cells (ivs (List.replicate n 0)).toArray 3)
  rw [e] at h1
  refine ⟨(below_alloc4 w _).trans ((below_alloc4 _ _).mono (by omega)), blk_alloc _ h0, ?_⟩
  simpa using h1
theorem Odw.set {w wx : World} {cs : Array Value} {n i : Nat} (h : Odw w wx cs n i) (hi : i < n) : Odw w (wx.setCell ⟨w.heap.size + 1, i, none⟩ (.int .i64 (i : Nat))) cs n (i + 1) := by
  have hk : Kp (fun q => q = w.heap.size + 1) wx (wx.setCell ⟨w.heap.size + 1, i, none⟩ (.int .i64 (i : Nat))) := (Kp.refl _ _).setCell _ _ (fun _ => rfl)
  refine ⟨h.b.trans (hk.below h.b.size (fun k e => by omega)), blk_other i _ h.r (by omega), ?_⟩
  rw [blk_set i _ h.o]
  congr 2
  apply Array.ext_getElem?
  intro k
  simp only [Array.getElem?_setIfInBounds, ivs, List.getElem?_toArray, List.map_append, List.size_toArray, List.length_append, List.length_map, List.length_range, List.length_replicate, List.map_replicate]
  by_cases e : i = k
  · subst e
    rw [if_pos rfl, if_pos (by omega), List.getElem?_append_left (by simp)]
    simp
  · rw [if_neg e]
    by_cases hk2 : k < i
    · rw [List.getElem?_append_left (by simpa using hk2), List.getElem?_append_left (by simp; omega)]
      simp [hk2, show k < i + 1 by omega]
    · rw [List.getElem?_append_right (by simp; omega), List.getElem?_append_right (by simp; omega)]
      simp only [List.length_map, List.length_range, List.getElem?_replicate]
      by_cases h3 : k < n
      · rw [if_pos (by omega), if_pos (by omega)]
      · rw [if_neg (by omega), if_neg (by omega)]
set_option maxRecDepth 1000000 in
set_option maxHeartbeats 1000000 in
theorem order6_any (t : Tv) (w : World) (cs : Array Value) (ht : Tin w t cs) (hn : min t.ks.length t.is.length ≤ 10000000) :
    Calls Tryz.prog 37 #[.agg cs] w fun e w' => ∃ v ps, e = .returned v ∧ ps = ordp t.ks (min t.ks.length t.is.length) ∧ Srp t.ks (min t.ks.length t.is.length) ps ∧ w'.ownsRow w.heap.size 3 1 v ps.length (ivs ps) ∧ Below w.heap.size w w' := by
  have hmf : ∀ (fn : Fn) (first cap : Array Value) (w : World), (Instr.makeFunc fn first cap).run Tryz.prog w = .ok (.func fn first cap) w := fun _ _ _ _ => rfl
  obtain ⟨vy, vk, vi, rfl, hy, hk, hv, hb⟩ := ht.parts
  obtain ⟨⟨ay, cy, rfl, _, _⟩, _⟩ := hy
  have HKS := hide hk
  obtain ⟨⟨ak, ck, rfl, hck, hkf⟩, hkm, hks⟩ := hk
  obtain ⟨⟨a, cap, rfl, hcap, hform⟩, hmax⟩ := hv
  have HKF := hide hkf
  clear hb ht hcap hform hkf hks
  generalize hcs : vcs t (.slice ay t.y.length cy) (.slice ak t.ks.length ck) (.slice a t.is.length cap) = cs at *
  have HCK : Hid (cs[11]? = some (.slice ak t.ks.length ck)) := by show _ = _; rw [← hcs]; rfl
  have HCI : Hid (cs[12]? = some (.slice a t.is.length cap)) := by show _ = _; rw [← hcs]; rfl
  clear hcs
  generalize hnn : min t.ks.length t.is.length = n at *
  have hnk : n ≤ t.ks.length := by omega
  have hmn : min (t.ks.length : Int) (t.is.length : Int) = (n : Int) := by omega
  clear hnn
  have HOS := hide (Odw.start w cs n)
  have q11 := blk_cell (j := 11) (heap_alloc_new w (.cells cs 62)) HCK.out
  have q12 := blk_cell (j := 12) (heap_alloc_new w (.cells cs 62)) HCI.out
  have hmk := mk_ints (w.alloc (.cells cs 62)) n hn
  go_enter Tryz.func37, Tryz.ntmps37
  go_wp2_with fail
  have HL0 : Hid (0 ≤ n ∧ Odw w ((w.alloc (.cells cs 62)).alloc (.cells (ivs (List.replicate n 0)).toArray 3)) cs n 0) := ⟨Nat.zero_le _, HOS.out⟩
  clear HOS q11 q12 hmk hmn
  go_loopw [15] (fun ii wx => ∃ i : Nat, i ≤ n ∧ ii = .int .i64 (i : Nat) ∧ Hid (Odw w wx cs n i)) (fun ii _ => n - (intOf ii).toNat)
  case atStart => exact ⟨0, HL0.out.1, rfl, HL0.out.2⟩
  case round =>
    obtain ⟨i, hi, rfl, HO⟩ := hrel
    clear HL0
    by_cases hlt : i < n
    · as_aux_lemma =>
      have g1 : (i : Int) < (n : Int) := by omega
      have c1 : wr.cell? ⟨w.heap.size + 1, i, none⟩ = some (.int .i64 0) := blk_cell HO.out.o (by
        simp only [ivs, List.map_append, List.getElem?_toArray]
        rw [List.getElem?_append_right (by simp)]
        simp only [List.map_replicate, List.length_map, List.length_range, Nat.sub_self, List.getElem?_replicate]
        rw [if_pos (by omega)]
        rfl)
      have f1 := blk_frozen i HO.out.o
      have HO2 := hide (HO.out.set hlt)
      go_wp2_with fail
      go_roundw
      case rel => exact ⟨i + 1, by omega, by go_num, HO2⟩
      case measure => simp [intOf]; omega
    · have g1 : ¬ (i : Int) < (n : Int) := by omega
      have e1 : i = n := by omega
      subst e1
      have hO := HO.out.o
      rw [Nat.sub_self, List.replicate_zero, List.append_nil] at hO
      have HBW := hide HO.out.b
      have HR := hide HO.out.r
      have HG := hide hO
      clear HO hO
      by_cases hz : i = 0
      · as_aux_lemma =>
        subst hz
        have HSF := hide (fun W => AnyF.slices_SortFunc_none (P := Tryz.prog) (ρ := Tryz.sortL_ren) { Tryz.sortL with } (some ⟨w.heap.size + 1, 0, none⟩) 0 (.func (.func 76) #[] #[.pointer (some ⟨w.heap.size, 0, none⟩)]) W)
        go_wp2_with (go_at_call 75; refine (Hid.out HSF wr).mono ?_; rintro e w' ⟨rfl, rfl⟩)
        go_ret
        refine ⟨_, [], rfl, by simp [ordp], ⟨by simp, fun i j p q _ h => by simp at h⟩, ?_, HBW.out⟩
        exact ⟨by simp [ivs], .inr ⟨w.heap.size + 1, 0, _, rfl, by omega, HG.out, Nat.le_refl _, by unfold maxLen; omega, by simp [ivs], by simp [ivs]⟩⟩
      · as_aux_lemma =>
        obtain ⟨b, off, rfl, hcc⟩ := HKF.out.resolve_left (fun h => by rw [h] at hnk; simp at hnk; omega)
        have hbl : ∀ j s, t.ks[j]? = some s → b < w.heap.size := fun j s hs => World.block_lt_of_cell? w _ (hcc j s hs)
        have hb1 : b < w.heap.size := hbl 0 _ (List.getElem?_eq_getElem (by omega))
        have HSF := hide (sort_any wr w.heap.size b off ck i (w.heap.size + 1) t.ks (by omega) hnk hn (blk_cell HR.out HCK.out) (fun j s hs => keep_below HBW.out _ _ (hcc j s hs)) HG.out (by omega) (by omega))
        clear hcc hbl
        go_wp2_with (go_at_call 75; refine (Hid.out HSF).mono ?_; rintro e w' ⟨rfl, ps, hpo, hps, hg', hkp⟩)
        go_ret
        have hln := hps.len
        refine ⟨_, ps, rfl, hpo, hps, ?_, HBW.out.trans (hkp.below HBW.out.size (fun k e => by omega))⟩
        exact ⟨by simp [ivs], .inr ⟨w.heap.size + 1, i, _, by rw [hln]; rfl, by omega, hg', by omega, by unfold maxLen; omega, by simp [ivs, hln], by rw [List.take_of_length_le (by simp [ivs])]⟩⟩
end
section
open Go.RowKit Go
/-- What CopyValues has in hand. -/
structure Nvi (w : World) (B : Nat) (wx : World) (v : Value) (L : List (Array Value)) (is : List Tv) : Prop where
  o : wx.ownsRow B 62 13 v L.length (vfl L)
  s : ∀ c ∈ L, c.size = 13
  b : Below B w wx
  z : B ≤ wx.heap.size
  i : ∀ (j : Nat) (u : Tv) (c : Array Value), is[j]? = some u → L[j]? = some c → ∃ lo hi, B ≤ lo ∧ hi ≤ wx.heap.size ∧ (∀ q, v.ownBlock = some q → q < lo ∨ hi ≤ q) ∧ Ntv wx lo hi u c
theorem Nvi.next {w : World} {B : Nat} {wx wy : World} {v : Value} {L : List (Array Value)} {is : List Tv} (h : Nvi w B wx v L is) (hb : Below wx.heap.size wx wy) : Nvi w B wy v L is :=
  ⟨(Kp.of_below (S := fun _ => False) hb).owns h.o (fun _ _ hf => hf), h.s, h.b.trans (hb.mono h.z), Nat.le_trans h.z hb.size, fun j u c h1 h2 => by
    obtain ⟨lo, hi, e1, e2, e3, e4⟩ := h.i j u c h1 h2
    exact ⟨lo, hi, e1, Nat.le_trans e2 hb.size, e3, e4.kept hb⟩⟩
theorem Nvi.app {w : World} {B : Nat} {wx wy : World} {v v' : Value} {L : List (Array Value)} {is : List Tv} (h : Nvi w B wx v L is) {c : Array Value} (hc : c.size = 13) (ho : wy.ownsRow B 62 13 v' (L.length + 1) (vfl L ++ c.toList)) (hg : wx.grownBy wy v.ownBlock) (hv : v'.ownBlock = v.ownBlock ∨ v'.ownBlock = some wx.heap.size)
    (hnew : ∀ u, is[L.length]? = some u → ∃ lo hi, B ≤ lo ∧ hi ≤ wx.heap.size ∧ (∀ q, v.ownBlock = some q → q < lo ∨ hi ≤ q) ∧ Ntv wx lo hi u c) : Nvi w B wy v' (L ++ [c]) is := by
  have hk : Kp (fun q => v.ownBlock = some q) wx wy := (Kp.refl _ _).grown hg (fun k _ h => h)
  have hz := hk.size
  refine ⟨?_, ?_, h.b.grown hg h.z (fun g hg => (h.o.lt g hg).1), Nat.le_trans h.z hz, fun j u c' h1 h2 => ?_⟩
  · rw [vfl_app, List.length_append]
    have e : vfl [c] = c.toList := by simp [vfl]
    rw [e]
    exact ho
  · intro d hd
    rcases List.mem_append.1 hd with hd | hd
    · exact h.s d hd
    · simp only [List.mem_singleton] at hd
      rw [hd]
      exact hc
  · have key : ∃ lo hi, B ≤ lo ∧ hi ≤ wx.heap.size ∧ (∀ q, v.ownBlock = some q → q < lo ∨ hi ≤ q) ∧ Ntv wx lo hi u c' := by
      rcases Nat.lt_or_ge j L.length with hj | hj
      · rw [List.getElem?_append_left hj] at h2
        exact h.i j u c' h1 h2
      · rw [List.getElem?_append_right hj] at h2
        have hj0 : j = L.length := by
          rcases Nat.eq_or_lt_of_le hj with e | e
          · exact e.symm
          · rw [List.getElem?_eq_none (by simp; omega)] at h2
            cases h2
        subst hj0
        simp at h2
        subst h2
        exact hnew u h1
    obtain ⟨lo, hi, e1, e2, e3, e4⟩ := key
    refine ⟨lo, hi, e1, Nat.le_trans e2 hz, fun q hq => ?_, e4.kp hk (fun q h1 h2 e => by rcases e3 q e with h | h <;> omega)⟩
    rcases hv with hv | hv
    · exact e3 q (by rw [← hv]; exact hq)
    · rw [hv] at hq
      injection hq with hq
      subst hq
      exact .inr e2
end
section
open Go.RowKit Go
theorem own_slice {w : World} {B e s n : Nat} {v : Value} {xs : List Value} (h : w.ownsRow B e s v n xs) : ∃ a c, v = .slice a n c := by
  rcases h.2 with ⟨e, h0⟩ | ⟨g, c, cur, e, _⟩
  · exact ⟨none, 0, by rw [e, h0]⟩
  · exact ⟨_, c, e⟩
end
section
open Go.RowKit Go
/-- A value with other items. -/
def Tv.wi (t : Tv) (is : List Tv) : Tv := .mk t.k t.f t.g t.n t.b t.s t.y t.l t.ks is
/-- What remade has in hand. -/
structure Rm (w wx : World) (c : Array Value) : Prop where
  p : wx.heap[w.heap.size]? = some (.cells c 62 (0, 0))
  r : wx.heap[w.heap.size + 1]? = some (.cells zv 62 (0, 0))
  b : Below w.heap.size w wx
  z : w.heap.size + 2 ≤ wx.heap.size
theorem Rm.start (w : World) (c : Array Value) : Rm w ((w.alloc (.cells c 62)).alloc (.cells zv 62)) c := by
  have h1 := heap_alloc_new w (.cells c 62)
  have e1 : (w.alloc (.cells c 62)).heap.size = w.heap.size + 1 := by simp
  have h2 := heap_alloc_new (w.alloc (.cells c 62)) (.cells zv 62)
  rw [e1] at h2
  have b1 := below_alloc4 w (.cells c 62)
  have b2 := below_alloc4 (w.alloc (.cells c 62)) (.cells zv 62)
  exact ⟨blk_alloc _ h1, h2, b1.trans (b2.mono b1.size), by simp⟩
theorem Rm.next {w wx wy : World} {c : Array Value} (h : Rm w wx c) (hb : Below wx.heap.size wx wy) : Rm w wy c :=
  ⟨(hb.block _ (blk_lt h.p)).trans h.p, (hb.block _ (blk_lt h.r)).trans h.r, h.b.trans (hb.mono h.b.size), Nat.le_trans h.z hb.size⟩
theorem Rm.set {w wx : World} {c : Array Value} (h : Rm w wx c) (j : Nat) (v : Value) : Rm w (wx.setCell ⟨w.heap.size, j, none⟩ v) (c.setIfInBounds j v) ∧ Kp (fun q => q = w.heap.size) wx (wx.setCell ⟨w.heap.size, j, none⟩ v) := by
  have hk : Kp (fun q => q = w.heap.size) wx (wx.setCell ⟨w.heap.size, j, none⟩ v) := (Kp.refl _ _).setCell _ _ (fun _ => rfl)
  exact ⟨⟨blk_set j v h.p, blk_other j v h.r (by omega), h.b.trans (hk.below h.b.size (fun q e => by omega)), Nat.le_trans h.z hk.size⟩, hk⟩
theorem Nvi.ext {w : World} {B : Nat} {wx : World} {v : Value} {L : List (Array Value)} {is is2 : List Tv} (h : Nvi w B wx v L is) (he : ∀ j, j < L.length → is2[j]? = is[j]?) : Nvi w B wx v L is2 :=
  ⟨h.o, h.s, h.b, h.z, fun j u c h1 h2 => h.i j u c (by rw [← he j (List.getElem?_eq_some_iff.1 h2).1]; exact h1) h2⟩
/-- What is asked of the function that remade is handed. -/
def AgainC (F : Nat) (R : Tv → Tv → Prop) (u : Tv) : Prop := ∀ (w : World) (c : Array Value), Tin w u c → tmuch u ≤ 3000000 → Calls Tryz.prog F #[.agg c] w fun e w' => ∃ c' s, e = .returned (.agg c') ∧ R u s ∧ Ntv w' w.heap.size w'.heap.size s c' ∧ Below w.heap.size w w'
/-- Items made again. -/
structure Mad (R : Tv → Tv → Prop) (is js : List Tv) : Prop where
  n : js.length = is.length
  r : ∀ (i : Nat) (u s : Tv), is[i]? = some u → js[i]? = some s → R u s
theorem end_rm {wx : World} {R : Nat} {c : Array Value} {tmps : Array Value} (hn : c.size = 13) (hr : wx.heap[R]? = some (.cells c 62 (0, 0))) (hp : tmps.getD 4 undef = .pointer (some ⟨R, 0, none⟩)) : (results Tryz.f36 tmps).run Tryz.prog wx = .ok (.agg c) wx := by
  refine (results_one (p := 4) (ty := 62) rfl _ _ _).trans ?_
  rw [hp]
  have h1 := run_loadVar_row (P := Tryz.prog) wx R 62 62 c (0, 0) _ hr Tryz.underlying62 rfl (by rw [hn]; exact infoV)
  simp [asAddr, h1, Result.andThen]
set_option maxRecDepth 1000000 in
set_option maxHeartbeats 1000000 in
theorem remade_any (F : Nat) (eF : ∀ args w, (callFunc F args).run Tryz.prog w = .ok (.enter F args) w) (R : Tv → Tv → Prop) (t : Tv) (ih : ∀ u ∈ t.is, AgainC F R u) (w : World) (cs : Array Value) (ht : Tin w t cs) (hm : tmuch t ≤ 3000000) :
    Calls Tryz.prog 36 #[.agg cs, .func (.func F) #[] #[]] w fun e w' => ∃ c' js, e = .returned (.agg c') ∧ Mad R t.is js ∧ Ntv w' w.heap.size w'.heap.size (t.wi js) c' ∧ Below w.heap.size w w' := by
  have hme := tmuch_eq t
  have HIH := hide ih
  have HKL : Hid (t.ks.length ≤ 3000000) := by show _ ≤ _; omega
  have hlen : t.is.length ≤ 3000000 := by have := tmuchL_len t.is; omega
  have HML : Hid (tmuchL t.is ≤ 3000000) := by show _ ≤ _; omega
  clear ih hme hm
  obtain ⟨vy, vk, vi, rfl, hy, hk, hv, hb⟩ := ht.parts
  have HY := hide hy
  have HK := hide hk
  have HBD := hide hb
  obtain ⟨⟨ay, cy, rfl, _, _⟩, _, _⟩ := hy
  obtain ⟨⟨ak, ck, rfl, _, _⟩, _, _⟩ := hk
  obtain ⟨⟨a, cap, rfl, _, hform⟩, hmax⟩ := hv
  have HF := hide hform
  clear ht hb hform
  have HW0 := hide (Rm.start w (vcs t (.slice ay t.y.length cy) (.slice ak t.ks.length ck) (.slice a t.is.length cap)))
  have HZ0 : Hid (((w.alloc (.cells (vcs t (.slice ay t.y.length cy) (.slice ak t.ks.length ck) (.slice a t.is.length cap)) 62)).alloc (.cells zv 62)).heap.size = w.heap.size + 2) := by show _ = _; simp
  generalize hcs : vcs t (.slice ay t.y.length cy) (.slice ak t.ks.length ck) (.slice a t.is.length cap) = cs at *
  have HCS := hide hcs
  have HCI : Hid (cs[12]? = some (.slice a t.is.length cap)) := by show _ = _; rw [← hcs]; rfl
  clear hcs
  have q12 := blk_cell (j := 12) HW0.out.p HCI.out
  unfold zv at q12 HW0 HZ0
  go_enter Tryz.func36, Tryz.ntmps36
  go_wp2_with fail
  generalize (w.alloc (.cells cs 62)).alloc (.cells #[.int .i64 0, .bool false, .bool false, .int .u64 0, .int .u64 0, .string ⟨#[]⟩, .slice none 0 0, .int .i64 0, .int .u64 0, .int .u64 0, .string ⟨#[]⟩, .slice none 0 0, .slice none 0 0] 62) = w2 at *
  clear q12
  have HL0 : Hid (Nvi w2 w2.heap.size w2 (.slice none 0 0) [] []) := ⟨World.ownsRow_nil _ _ _ _, by simp, Below.refl _ _, Nat.le_refl _, fun j u c _ h => by simp at h⟩
  generalize hB : w2.heap.size = B at *
  have HBe := hide hB
  clear hB
  go_loopw [5, 11] (fun vv ii wx => ∃ (i : Nat) (L : List (Array Value)) (js : List Tv), i ≤ t.is.length ∧ ii = .int .i64 (i : Nat) ∧ Hid (L.length = i) ∧ Hid (js.length = i ∧ ∀ (j : Nat) (u s : Tv), t.is[j]? = some u → js[j]? = some s → R u s) ∧ Hid (Nvi w2 B wx vv L js)) (fun _ ii _ => t.is.length - (intOf ii).toNat)
  case atStart => exact ⟨0, [], [], by omega, rfl, rfl, ⟨rfl, fun j u s _ h => by simp at h⟩, HL0⟩
  case round =>
    obtain ⟨i, L, js, hi, rfl, HLn, HJ, HL⟩ := hrel
    clear HL0
    by_cases hlt : i < t.is.length
    · as_aux_lemma =>
      have g1 : (i : Int) < (t.is.length : Int) := by omega
      obtain ⟨u, hu⟩ : ∃ u, t.is[i]? = some u := ⟨t.is[i], List.getElem?_eq_getElem hlt⟩
      obtain ⟨b, off, rfl, hcells⟩ := HF.out.resolve_left (fun h => by rw [h] at hlt; simp at hlt)
      obtain ⟨cu, hcu, hcc⟩ := hcells i u hu
      have hb2 : Below w2.heap.size w2 wr := by have e := HL.out.b; rw [← HBe.out] at e; exact e
      have hkb : ∀ p x, w.cell? p = some x → wr.cell? p = some x := fun p x h => keep_below hb2 _ _ (keep_below HW0.out.b _ _ h)
      have HCC : Hid (∀ j x, cu[j]? = some x → wr.cell? ⟨b, off + i * 13 + j, none⟩ = some x) := fun j x hx => hkb _ _ (hcc j x hx)
      have hmem := List.mem_of_getElem? hu
      have HSZ := hide hcu.size13
      have HA1 := hide hcu.all1
      have HIT := hide (itm_mk wr cu)
      have HG0 := hide (heap_alloc_new wr (.cells zv 62))
      have HIN : Hid ((Tryz.prog.info? 62).map (·.size) = some cu.size) := by show _ = _; rw [HSZ.out]; exact infoV
      have HZV : Hid (zv.size = cu.size) := by show _ = _; rw [HSZ.out]; rfl
      have HCA := hide (HIH.out u hmem _ cu ((hcu.move hkb).move (keep_below HIT.out.b)) (Nat.le_trans (tmuchL_mem hmem) HML.out))
      have HCX := hide HIT.out.cells
      have HU := hide hu
      clear hu hcells hcu hcc hmem hkb hb2
      obtain ⟨ax, cx, hvx⟩ : ∃ ax cx, u5 = .slice ax L.length cx := by
        rcases HL.out.o.2 with ⟨e, h0⟩ | ⟨g, c, cur, e, _⟩
        · exact ⟨none, 0, by rw [e, h0]⟩
        · exact ⟨_, c, e⟩
      subst hvx
      go_wp2_with (first
        | (refine wpList_valAt rfl rfl b (off + i * 13) cu rfl HSZ.out HCC.out ?_)
        | (refine wpList_storeRow rfl rfl wr.heap.size zv cu 62 rfl rfl HG0.out HIN.out HZV.out HA1.out ?_)
        | (refine wpList_valAt rfl rfl wr.heap.size 0 cu rfl HSZ.out HCX.out ?_))
      refine HCA.out.mono ?_
      rintro e w5 ⟨c, s, rfl, hrs, hlt5, hb5⟩
      have hi1 := HIT.out.b.size
      have hsz5 := hb5.size
      have HL5 := hide ((HL.out.next HIT.out.b).next hb5)
      have HC5 := hide hlt5
      have HO := hide hlt5.one
      have HQ : Hid (∀ q, (Value.slice ax L.length cx).ownBlock = some q → q < wr.heap.size) := fun q hq => (HL.out.o.lt q hq).2
      have HZ5 : Hid (B ≤ wr.heap.size) := HL.out.z
      have HZ6 : Hid (wr.heap.size ≤ ((wr.alloc (.cells zv 62)).setRow wr.heap.size cu).heap.size) := hi1
      have HJ2 : Hid ((js ++ [s]).length = i + 1 ∧ ∀ (j : Nat) (u s' : Tv), t.is[j]? = some u → (js ++ [s])[j]? = some s' → R u s') := by
        refine ⟨by rw [List.length_append, HJ.out.1]; rfl, fun j u' s' h1 h2 => ?_⟩
        rcases Nat.lt_or_ge j js.length with hj | hj
        · rw [List.getElem?_append_left hj] at h2
          exact HJ.out.2 j u' s' h1 h2
        · rw [List.getElem?_append_right hj] at h2
          have hj0 : j - js.length = 0 := by
            rcases Nat.eq_zero_or_pos (j - js.length) with e | e
            · exact e
            · rw [List.getElem?_eq_none (by simp; omega)] at h2
              cases h2
          rw [hj0] at h2
          simp at h2
          subst h2
          have hji : j = i := by have := HJ.out.1; omega
          rw [hji, HU.out] at h1
          injection h1 with h1
          subst h1
          exact hrs
      clear hlt5 hb5 HL HCC HCA HCX HIT HG0 hrs hi1 hsz5
      have HL6 := hide (HL5.out.next (below_alloc4 w5 (.cells c 62)))
      have HC6 : Hid (Ntv (w5.alloc (.cells c 62)) ((wr.alloc (.cells zv 62)).setRow wr.heap.size cu).heap.size w5.heap.size s c) := HC5.out.kept (below_alloc4 w5 _)
      have HG6 : Hid ((w5.alloc (.cells c 62)).heap[w5.heap.size]? = some (.cells c 62 (0, 0))) := heap_alloc_new w5 _
      have HS6 : Hid (w5.heap.size ≤ (w5.alloc (.cells c 62)).heap.size) := (below_alloc4 w5 (.cells c 62)).size
      have HLL : Hid (L.length < 1099511627) := by have := HLn.out; show _ < _; omega
      clear HL5 HC5
      go_wp2_with (first
        | (refine wpList_val1 rfl rfl c HO.out.1 rfl ?_)
        | (at_builtin; refine append_val rfl _ _ rfl B _ L.length (vfl L) rfl HL6.out.o w5.heap.size c HO.out rfl HG6.out HLL.out HL6.out.z ?_))
      intro v7 w7 ho7 hg7 hv7
      have HL7 : Hid (Nvi w2 B w7 v7 (L ++ [c]) (js ++ [s])) := by
        refine (HL6.out.ext (fun j hj => ?_)).app HO.out.1 ho7 hg7 (by simpa using hv7) (fun u' hu' => ?_)
        · rw [List.getElem?_append_left (by rw [HJ.out.1, ← HLn.out]; exact hj)]
        · have e : L.length = js.length := by rw [HLn.out, HJ.out.1]
          rw [e] at hu'
          simp at hu'
          subst hu'
          have h1 := HZ5.out
          have h2 := HZ6.out
          exact ⟨_, w5.heap.size, Nat.le_trans h1 h2, HS6.out, fun q hq => .inl (by have := HQ.out q hq; omega), HC6.out⟩
      have HLn7 : Hid ((L ++ [c]).length = i + 1) := by show _ = _; rw [List.length_append, HLn.out]; rfl
      clear ho7 hg7 hv7 HL6 HC6 HG6
      go_wp2_with fail
      go_roundw
      case rel => exact ⟨i + 1, L ++ [c], js ++ [s], by omega, by go_num, HLn7, HJ2, HL7⟩
      case measure => simp [intOf]; omega
    · as_aux_lemma =>
      have hiL : i = t.is.length := by omega
      obtain ⟨ax, cx, hvx⟩ : ∃ ax cx, u5 = .slice ax t.is.length cx := by
        rcases HL.out.o.2 with ⟨e, h0⟩ | ⟨g, c, cur, e, _⟩
        · exact ⟨none, 0, by rw [e, ← hiL, ← HLn.out, h0]⟩
        · exact ⟨_, c, by rw [e, HLn.out, hiL]⟩
      subst hvx
      have hb3 : Below w2.heap.size w2 wr := by have e := HL.out.b; rw [← HBe.out] at e; exact e
      have HW3 := hide (HW0.out.next hb3)
      have HMD : Hid (Mad R t.is js) := ⟨by rw [HJ.out.1, hiL], HJ.out.2⟩
      have HLI : Hid (L.length = t.is.length) := by show _ = _; rw [HLn.out, hiL]
      have HCY : Hid (cs[6]? = some (.slice ay t.y.length cy)) := by show _ = _; rw [← HCS.out]; rfl
      have HOI : Hid (wr.ownsRow (w.heap.size + 2) 62 13 (.slice ax t.is.length cx) t.is.length (vfl L)) := by
        have e := HL.out.o
        rw [HZ0.out, HLI.out] at e
        exact e
      have HGI : Hid (∀ q, (Value.slice ax t.is.length cx).ownBlock = some q → w.heap.size + 2 ≤ q ∧ q < wr.heap.size) := fun q hq => HOI.out.lt q hq
      have HNI : Hid (∀ (j : Nat) (u : Tv) (c : Array Value), js[j]? = some u → L[j]? = some c → Ntv wr (w.heap.size + 2) wr.heap.size u c) := fun j u c h1 h2 => by
        obtain ⟨lo, hi, e1, e2, _, e4⟩ := HL.out.i j u c h1 h2
        rw [HZ0.out] at e1
        exact e4.mono e1 e2
      have H13 := hide HL.out.s
      clear HL HJ HLn hb3 hlt hi
      subst hiL
      have c6 := blk_cell (j := 6) HW3.out.p HCY.out
      have g1 : ¬ (t.is.length : Int) < (t.is.length : Int) := by omega
      go_wp2_with (at_builtin; refine append_bsl rfl _ _ rfl wr.heap.size _ 0 [] rfl (World.ownsRow_nil _ _ _ _) _ t.y rfl (HY.out.move (keep_below HW3.out.b)) ?b1 ?b2 ?_)
      case b1 => have := HBD.out.y; omega
      intro v4 w4 ho4 hg4
      have hb4 : Below wr.heap.size wr w4 := (Below.refl _ _).grown hg4 (Nat.le_refl _) (fun q hq => by cases hq)
      have hz3 := HW3.out.z
      have ho4' : w4.ownsRow wr.heap.size 5 1 v4 t.y.length (bv t.y) := by simpa using ho4
      clear ho4 hg4
      obtain ⟨ya, yc, hv4⟩ := own_slice ho4'
      subst hv4
      have hs4 := hb4.size
      have HGY : Hid (∀ q, (Value.slice ya t.y.length yc).ownBlock = some q → w.heap.size + 2 ≤ q ∧ q < w4.heap.size) := fun q hq => by have := ho4'.lt q hq; exact ⟨by omega, this.2⟩
      have HY4 := hide (own_mono ho4' (show w.heap.size + 2 ≤ wr.heap.size by omega))
      have HI4 := hide ((Kp.of_below (S := fun _ => False) hb4).owns HOI.out (fun _ _ h => h))
      have HN4 : Hid (∀ (j : Nat) (u : Tv) (c : Array Value), js[j]? = some u → L[j]? = some c → Ntv w4 (w.heap.size + 2) wr.heap.size u c) := fun j u c h1 h2 => (HNI.out j u c h1 h2).kept hb4
      have HS4 : Hid (wr.heap.size ≤ w4.heap.size) := hs4
      have HZ3 : Hid (w.heap.size + 2 ≤ wr.heap.size) := hz3
      have HW4 := hide (HW3.out.next hb4)
      clear ho4' hb4 HW3 hs4 hz3 HOI HNI c6
      have c6 := blk_cell (j := 6) HW4.out.p HCY.out
      have f6 := blk_frozen 6 HW4.out.p
      have hset := HW4.out.set 6 (.slice ya t.y.length yc)
      rw [← HCS.out, (setv t _ _ _ _).1] at hset
      have HW5 := hide hset.1
      have HY5 := hide (hset.2.owns HY4.out (fun q hq e => by have := HGY.out q hq; omega))
      have HI5 := hide (hset.2.owns HI4.out (fun q hq e => by have := HGI.out q hq; omega))
      have HN5 : Hid (∀ (j : Nat) (u : Tv) (c : Array Value), js[j]? = some u → L[j]? = some c → Ntv (w4.setCell ⟨w.heap.size, 6, none⟩ (.slice ya t.y.length yc)) (w.heap.size + 2) wr.heap.size u c) := fun j u c h1 h2 => (HN4.out j u c h1 h2).kp hset.2 (fun q h3 _ e => by omega)
      have HS5 : Hid (wr.heap.size ≤ (w4.setCell ⟨w.heap.size, 6, none⟩ (.slice ya t.y.length yc)).heap.size ∧ w4.heap.size ≤ (w4.setCell ⟨w.heap.size, 6, none⟩ (.slice ya t.y.length yc)).heap.size) := ⟨Nat.le_trans HS4.out hset.2.size, hset.2.size⟩
      have c11 := blk_cell (j := 11) HW5.out.p rfl
      have HK5 := hide (HK.out.move (keep_below HW5.out.b))
      clear hset HW4 HY4 HI4 HN4 HCS
      go_wp2_with (at_builtin; refine append_ssl rfl _ _ rfl (w4.setCell ⟨w.heap.size, 6, none⟩ (.slice ya t.y.length yc)).heap.size _ 0 [] rfl (World.ownsRow_nil _ _ _ _) _ t.ks rfl HK5.out ?b3 ?b4 ?_)
      case b3 => have := HKL.out; omega
      case b4 => exact Nat.le_refl _
      intro v6 w6 ho6 hg6
      generalize w4.setCell ⟨w.heap.size, 6, none⟩ (.slice ya t.y.length yc) = w5 at *
      have hb6 : Below w5.heap.size w5 w6 := (Below.refl _ _).grown hg6 (Nat.le_refl _) (fun q hq => by cases hq)
      have hz5 := HW5.out.z
      have ho6' : w6.ownsRow w4.heap.size 9 1 v6 t.ks.length (sv t.ks) := by simpa using ho6
      clear ho6 hg6 c6 f6 c11
      obtain ⟨ka, kc, hv6⟩ := own_slice ho6'
      subst hv6
      have hs6 := hb6.size
      have HGK : Hid (∀ q, (Value.slice ka t.ks.length kc).ownBlock = some q → w.heap.size + 2 ≤ q ∧ q < w6.heap.size) := fun q hq => by have := ho6'.lt q hq; have := HS4.out; have := HZ3.out; exact ⟨by omega, by omega⟩
      have HK6 := hide (own_mono ho6' (show w.heap.size + 2 ≤ w4.heap.size by have := HS4.out; have := HZ3.out; omega))
      have HY6 := hide ((Kp.of_below (S := fun _ => False) hb6).owns HY5.out (fun _ _ h => h))
      have HI6 := hide ((Kp.of_below (S := fun _ => False) hb6).owns HI5.out (fun _ _ h => h))
      have HN6 : Hid (∀ (j : Nat) (u : Tv) (c : Array Value), js[j]? = some u → L[j]? = some c → Ntv w6 (w.heap.size + 2) wr.heap.size u c) := fun j u c h1 h2 => (HN5.out j u c h1 h2).kept hb6
      have HS6 : Hid (wr.heap.size ≤ w6.heap.size ∧ w4.heap.size ≤ w6.heap.size) := by have := HS5.out; exact ⟨by omega, by omega⟩
      have HW6 := hide (HW5.out.next hb6)
      have HKS := hide HK.out.size
      clear ho6' hb6 HW5 hs6 hz5 HI5 HN5 HY5 HK5
      have c11 := blk_cell (j := 11) HW6.out.p rfl
      have f11 := blk_frozen 11 HW6.out.p
      have hset := HW6.out.set 11 (.slice ka t.ks.length kc)
      rw [(setv t _ _ _ _).2.1] at hset
      have HW7 := hide hset.1
      have HY7 := hide (hset.2.owns HY6.out (fun q hq e => by have := HGY.out q hq; omega))
      have HK7 := hide (hset.2.owns HK6.out (fun q hq e => by have := HGK.out q hq; omega))
      have HI7 := hide (hset.2.owns HI6.out (fun q hq e => by have := HGI.out q hq; omega))
      have HN7 : Hid (∀ (j : Nat) (u : Tv) (c : Array Value), js[j]? = some u → L[j]? = some c → Ntv (w6.setCell ⟨w.heap.size, 11, none⟩ (.slice ka t.ks.length kc)) (w.heap.size + 2) wr.heap.size u c) := fun j u c h1 h2 => (HN6.out j u c h1 h2).kp hset.2 (fun q h3 _ e => by omega)
      have HS7 : Hid (wr.heap.size ≤ (w6.setCell ⟨w.heap.size, 11, none⟩ (.slice ka t.ks.length kc)).heap.size ∧ w4.heap.size ≤ (w6.setCell ⟨w.heap.size, 11, none⟩ (.slice ka t.ks.length kc)).heap.size ∧ w6.heap.size ≤ (w6.setCell ⟨w.heap.size, 11, none⟩ (.slice ka t.ks.length kc)).heap.size) := ⟨Nat.le_trans HS6.out.1 hset.2.size, Nat.le_trans HS6.out.2 hset.2.size, hset.2.size⟩
      clear hset HW6 HY6 HI6 HN6 HK6
      have c12 := blk_cell (j := 12) HW7.out.p rfl
      have f12 := blk_frozen 12 HW7.out.p
      have hset := HW7.out.set 12 (.slice ax t.is.length cx)
      rw [(setv t _ _ _ _).2.2] at hset
      have HW9 := hide hset.1
      have HLT : Hid (Ntv ((w6.setCell ⟨w.heap.size, 11, none⟩ (.slice ka t.ks.length kc)).setCell ⟨w.heap.size, 12, none⟩ (.slice ax t.is.length cx)) (w.heap.size + 2) (w6.setCell ⟨w.heap.size, 11, none⟩ (.slice ka t.ks.length kc)).heap.size (t.wi js) (vcs t (.slice ya t.y.length yc) (.slice ka t.ks.length kc) (.slice ax t.is.length cx))) := by
        have h5 := HS7.out
        have hjl : js.length = t.is.length := HMD.out.n
        refine Ntv.mk (t.wi js) _ _ _ L ⟨HBD.out.n, HBD.out.b, HBD.out.s, HBD.out.y, HBD.out.l, HBD.out.d⟩ HY.out.byte ?_ (fun q hq => by have := HGY.out q hq; omega) ?_ (fun q hq => by have := HGK.out q hq; omega) (Nat.le_trans HKL.out (by omega)) HKS.out ?_ (fun q hq => by have := HGI.out q hq; omega) (show js.length ≤ _ by omega) (show L.length = js.length by rw [HLI.out, hjl]) H13.out (fun i u c e1 e2 => ?_)
        · exact hset.2.owns HY7.out (fun q hq e => by have := HGY.out q hq; omega)
        · exact hset.2.owns HK7.out (fun q hq e => by have := HGK.out q hq; omega)
        · show World.ownsRow _ _ _ _ _ js.length _
          rw [hjl]
          exact hset.2.owns HI7.out (fun q hq e => by have := HGI.out q hq; omega)
        · exact ((HN7.out i u c e1 e2).kp hset.2 (fun q h5 h6 e => by omega)).mono (Nat.le_refl _) h5.1
      have HS9 : Hid ((w6.setCell ⟨w.heap.size, 11, none⟩ (.slice ka t.ks.length kc)).heap.size ≤ ((w6.setCell ⟨w.heap.size, 11, none⟩ (.slice ka t.ks.length kc)).setCell ⟨w.heap.size, 12, none⟩ (.slice ax t.is.length cx)).heap.size) := hset.2.size
      clear hset HW7 HY7 HK7 HI7 HN7
      have HXL : Hid (∀ j v, (vcs t (.slice ya t.y.length yc) (.slice ka t.ks.length kc) (.slice ax t.is.length cx))[j]? = some v → ((w6.setCell ⟨w.heap.size, 11, none⟩ (.slice ka t.ks.length kc)).setCell ⟨w.heap.size, 12, none⟩ (.slice ax t.is.length cx)).cell? ⟨w.heap.size, 0 + j, none⟩ = some v) := fun j v hv => by
        rw [Nat.zero_add]
        exact blk_cell HW9.out.p hv
      have HON := hide HLT.out.one
      have HONA : Hid ((vcs t (.slice ya t.y.length yc) (.slice ka t.ks.length kc) (.slice ax t.is.length cx)).all (·.oneCell') = true) := by
        show _ = _
        rw [Array.all_eq_true']
        intro u hu
        exact HON.out.2 u (by simpa using hu)
      have HIN : Hid ((Tryz.prog.info? 62).map (·.size) = some (vcs t (.slice ya t.y.length yc) (.slice ka t.ks.length kc) (.slice ax t.is.length cx)).size) := infoV
      have HR9 := hide HW9.out.r
      have HZV : Hid (zv.size = (vcs t (.slice ya t.y.length yc) (.slice ka t.ks.length kc) (.slice ax t.is.length cx)).size) := rfl
      go_wp2_with (first
        | (refine wpList_valAt rfl rfl w.heap.size 0 (vcs t (.slice ya t.y.length yc) (.slice ka t.ks.length kc) (.slice ax t.is.length cx)) rfl rfl HXL.out ?_)
        | (refine wpList_storeRow rfl rfl (w.heap.size + 1) zv (vcs t (.slice ya t.y.length yc) (.slice ka t.ks.length kc) (.slice ax t.is.length cx)) 62 rfl rfl HR9.out HIN.out HZV.out HONA.out ?_))
      have hkr := row_kp ((w6.setCell ⟨w.heap.size, 11, none⟩ (.slice ka t.ks.length kc)).setCell ⟨w.heap.size, 12, none⟩ (.slice ax t.is.length cx)) (w.heap.size + 1) (vcs t (.slice ya t.y.length yc) (.slice ka t.ks.length kc) (.slice ax t.is.length cx))
      have hzr := hkr.size
      have h89 := HS9.out
      exact bodyPost_ret (end_rm rfl (row_same HR9.out) rfl) rfl ⟨_, js, rfl, HMD.out, (HLT.out.kp hkr (fun q h1 h2 e => by omega)).mono (by omega) (by omega), HW9.out.b.trans (hkr.below HW9.out.b.size (fun q e => by omega))⟩
end
section
open Go.RowKit Go
section
variable {P : Program} {Q : Exit → Act → World → Prop} {S : World → Prop} {l : List Oper} {fuel : Nat} {listed : Array Bool} {a : Act} {w : World}
/-- A region that draws its order, by hand: begin. -/
theorem heldStart {id : Nat} (hm : P.follows .mixedOrders = true) (h : wpAnyH P .any l.toArray Q S l.length (Array.replicate l.length false) a w.drew) : (Code.region id l.toArray true).wp P Q a w :=
  wp_region_held (S := S) hm (by simpa using h)
/-- Take one first that reads alone. -/
theorem heldTake (i : Nat) {oi : Oper} (v : Value) (hi : l[i]? = some oi) (hs : Region.noSelect l.toArray = true) (hf : Region.free .any l.toArray listed i = true) (hr : (Region.ready .any l.toArray listed).contains i = true)
    (hQ : ∀ c a w, Q (.panic c) (a.put oi.dst v) w → Q (.panic c) a w) (hw : Region.wanted oi (yielded l.toArray a.tmps) = true) (hS : S w) (hy : ∀ w, S w → (execOp a.eval oi).run P w = .ok (.value v) w)
    (h : wpAnyH P .any l.toArray Q S fuel (listed.setIfInBounds i true) (a.put oi.dst v) w) : wpAnyH P .any l.toArray Q S (fuel + 1) listed a w :=
  wpAnyH_take (by simpa using hi) hs hf hr hQ (.inl ⟨hw, hy⟩) hS h
/-- The only one that may come up. -/
theorem heldStep (i : Nat) {oi : Oper} (hi : l[i]? = some oi) (hr : Region.ready .any l.toArray listed = [i])
    (h : ∀ K : Act → World → Prop, Hid (∀ a w, S w → (S w → wpAnyH P .any l.toArray Q S fuel (listed.setIfInBounds i true) a w) → K a w) → if Region.wanted oi (yielded l.toArray a.tmps) = true then Oper.wp P oi a w K Q else K (a.put oi.dst undef) w) : wpAnyH P .any l.toArray Q S (fuel + 1) listed a w :=
  wpAnyH_ready hr (by simp) (AllReadyH.cons (by simpa using hi) (fun K hK => h K hK) AllReadyH.nil)
theorem heldDone (hr : Region.ready .any l.toArray listed = []) (h : Q .normal a w) : wpAnyH P .any l.toArray Q S fuel listed a w := wpAnyH_done hr h fuel
end
end
end Go.Proofs.YtadilnmkjcmnnaaGreatDoor

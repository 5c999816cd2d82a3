import Derived.Test.YtibcepokeaaoiabDoorJf
import Derived.Deep.RegionHeld
import Derived.Test.YtibcepokeaaoiabDoorSlav
import Derived.SliceStrings
namespace Go.Proofs.YtibcepokeaaoiabDoor
section
open Go.RowKit Go
theorem Tin.all1 {w : World} {t : Tv} {c : Array Value} (h : Tin w t c) : c.all (·.oneCell') = true := by
  obtain ⟨vy, vk, vi, rfl, hy, hk, hv, _⟩ := h.parts
  obtain ⟨⟨ay, cy, rfl, _, _⟩, _⟩ := hy
  obtain ⟨⟨ak, ck, rfl, _, _⟩, _, _⟩ := hk
  obtain ⟨⟨ai, ci, rfl, _, _⟩, _⟩ := hv
  kernel_rfl
theorem Tin.size13 {w : World} {t : Tv} {c : Array Value} (h : Tin w t c) : c.size = 13 := by
  obtain ⟨vy, vk, vi, rfl, _⟩ := h.parts
  rfl
/-- A range's item in a variable of its own. -/
structure Itm (w wi : World) (c : Array Value) : Prop where
  b : Below w.heap.size w wi
  r : wi.heap[w.heap.size]? = some (.cells c 29 (0, 0))
  z : wi.heap.size = w.heap.size + 1
theorem itm_mk (w : World) (c : Array Value) : Itm w ((w.alloc (.cells zv 29)).setRow w.heap.size c) c := by
  have h0 := heap_alloc_new w (.cells zv 29)
  have hk := row_kp (w.alloc (.cells zv 29)) w.heap.size c
  refine ⟨(below_alloc4 w _).trans (hk.below (by simp) (fun q e => by omega)), row_same h0, ?_⟩
  simp [World.setRow]
theorem Itm.cells {w wi : World} {c : Array Value} (h : Itm w wi c) : ∀ j u, c[j]? = some u → wi.cell? ⟨w.heap.size, 0 + j, none⟩ = some u := fun j u hu => by
  rw [Nat.zero_add]
  exact blk_cell h.r hu

set_option maxRecDepth 1000000 in
set_option maxHeartbeats 1000000 in
theorem nests_any (t : Tv) (w : World) (cs : Array Value) (ht : Tin w t cs) : Calls Tryd.prog 33 #[.agg cs] w fun e w' => e = .returned (.bool (decide (t.k = 8 ∨ t.k = 9))) ∧ Below w.heap.size w w' := by
  obtain ⟨vy, vk, vi, rfl, hy, hk, hv, hb⟩ := ht.parts
  obtain ⟨⟨ay, cy, rfl, _, _⟩, _⟩ := hy
  obtain ⟨⟨ak, ck, rfl, _, _⟩, _, _⟩ := hk
  obtain ⟨⟨ai, ci, rfl, _, _⟩, _⟩ := hv
  clear ht hb
  unfold vcs
  have HB0 := hide (below_alloc4 w (.cells #[.int .i64 t.k, .bool t.f, .bool t.g, .int .u64 (t.n : Nat), .int .u64 (t.b : Nat), .string t.s, .slice ay t.y.length cy, .int .i64 t.l.v, .int .u64 (t.l.c : Nat), .int .u64 (t.l.h : Nat), .string (nstr t.l.d), .slice ak t.ks.length ck, .slice ai t.is.length ci] 29))
  go_enter Tryd.func33, Tryd.ntmps33
  by_cases h8 : t.k = 8
  · as_aux_lemma =>
    have g8 : (t.k == 8) = true := by rw [h8]; rfl
    have HR : Hid (decide (t.k = 8 ∨ t.k = 9) = true) := decide_eq_true (.inl h8)
    clear h8
    go_wp2_with fail
    go_ret
    exact ⟨by rw [HR.out]; rfl, HB0.out⟩
  · have g8 : (t.k == 8) = false := by simpa using h8
    by_cases h9 : t.k = 9
    · as_aux_lemma =>
      have g9 : (t.k == 9) = true := by rw [h9]; rfl
      have HR : Hid (decide (t.k = 8 ∨ t.k = 9) = true) := decide_eq_true (.inr h9)
      clear h8 h9
      go_wp2_with fail
      go_ret
      exact ⟨by rw [HR.out]; rfl, HB0.out⟩
    · as_aux_lemma =>
      have g9 : (t.k == 9) = false := by simpa using h9
      have HR : Hid (decide (t.k = 8 ∨ t.k = 9) = false) := decide_eq_false (fun h => h.elim h8 h9)
      clear h8 h9
      go_wp2_with fail
      go_ret
      exact ⟨by rw [HR.out]; rfl, HB0.out⟩
end
section
open Go.RowKit Go
/-- A value's own variable. -/
theorem box_mk (w : World) (c : Array Value) : Below w.heap.size w (w.alloc (.cells c 29)) ∧ (w.alloc (.cells c 29)).heap[w.heap.size]? = some (.cells c 29 (0, 0)) := ⟨below_alloc4 w _, heap_alloc_new w _⟩
set_option maxRecDepth 1000000 in
set_option maxHeartbeats 1000000 in
theorem depth_step (N : Nat) (ih : ∀ t : Tv, SizeOf.sizeOf t < N → ∀ (w : World) (cs : Array Value), Tin w t cs → tdepth t ≤ 100000 → Calls Tryd.prog 13 #[.agg cs] w fun e w' => e = .returned (.int .i64 (tdepth t : Nat)) ∧ Below w.heap.size w w')
    (t : Tv) (hN : SizeOf.sizeOf t = N) (w : World) (cs : Array Value) (ht : Tin w t cs) (hd : tdepth t ≤ 100000) : Calls Tryd.prog 13 #[.agg cs] w fun e w' => e = .returned (.int .i64 (tdepth t : Nat)) ∧ Below w.heap.size w w' := by
  have HIH := hide ih
  clear ih
  have HTN := hide ht
  obtain ⟨vy, vk, vi, rfl, hy, hk, hv, hb⟩ := ht.parts
  have HDE := hide (tdepth_eq t)
  have HNN := hide hN
  obtain ⟨⟨ay, cy, rfl, _, _⟩, _⟩ := hy
  obtain ⟨⟨ak, ck, rfl, _, _⟩, _, _⟩ := hk
  obtain ⟨⟨a, cap, rfl, hcap, hform⟩, hmax⟩ := hv
  have HF := hide hform
  clear hb ht hcap hform hN
  have HQ0 := hide (box_mk w (vcs t (.slice ay t.y.length cy) (.slice ak t.ks.length ck) (.slice a t.is.length cap)))
  generalize hcs : vcs t (.slice ay t.y.length cy) (.slice ak t.ks.length ck) (.slice a t.is.length cap) = cs at *
  have HZ : Hid (cs.size = 13) := by show _ = _; rw [← hcs]; rfl
  have HCI : Hid (cs[12]? = some (.slice a t.is.length cap)) := by show _ = _; rw [← hcs]; rfl
  clear hcs
  go_enter Tryd.func13, Tryd.ntmps13
  have HCB : Hid (∀ j u, cs[j]? = some u → (w.alloc (.cells cs 29)).cell? ⟨w.heap.size, 0 + j, none⟩ = some u) := fun j u hu => by rw [Nat.zero_add]; exact blk_cell HQ0.out.2 hu
  have HNE := hide (nests_any t (w.alloc (.cells cs 29)) cs (HTN.out.move (keep_below HQ0.out.1)))
  by_cases hk8 : t.k = 8 ∨ t.k = 9
  · rw [if_pos hk8] at HDE
    have HDL : Hid (tdepthL t.is ≤ 99999) := by have := HDE.out; show _ ≤ _; omega
    rw [decide_eq_true hk8] at HNE
    clear hk8
    go_wp2_with (first
      | (refine wpList_valAt rfl rfl w.heap.size 0 cs rfl HZ.out HCB.out ?_)
      | (go_at_call 33; refine HNE.out.mono ?_; rintro e w1 ⟨rfl, hb1⟩; have HQ1 : Hid (Below w.heap.size w w1 ∧ w1.heap[w.heap.size]? = some (.cells cs 29 (0, 0))) := ⟨HQ0.out.1.trans (hb1.mono HQ0.out.1.size), (hb1.block _ (blk_lt HQ0.out.2)).trans HQ0.out.2⟩; clear hb1; have q12 : w1.cell? ⟨w.heap.size, 12, none⟩ = some (.slice a t.is.length cap) := blk_cell HQ1.out.2 HCI.out))
    clear HCB HNE HQ0
    go_loopw [3, 12] (fun mm ii wx => ∃ i m : Nat, i ≤ t.is.length ∧ m ≤ 99999 ∧ mm = .int .i64 (m : Nat) ∧ ii = .int .i64 (i : Nat) ∧ Hid (m = tdepthL (t.is.take i)) ∧ Hid (Below w.heap.size w wx)) (fun _ ii _ => t.is.length - (intOf ii).toNat)
    case atStart => exact ⟨0, 0, by omega, by omega, rfl, rfl, by show _ = _; simp [tdepthL], HQ1.out.1⟩
    case round => as_aux_lemma =>
      rename World => wz
      obtain ⟨i, m, hi, hm, rfl, rfl, HM, HQ⟩ := hrel
      clear HQ1 q12
      by_cases hlt : i < t.is.length
      · have g1 : (i : Int) < (t.is.length : Int) := by omega
        obtain ⟨u, hu⟩ : ∃ u, t.is[i]? = some u := ⟨t.is[i], List.getElem?_eq_getElem hlt⟩
        obtain ⟨b, off, rfl, hcells⟩ := HF.out.resolve_left (fun h => by rw [h] at hlt; simp at hlt)
        obtain ⟨cu, hcu, hcc⟩ := hcells i u hu
        have HCC : Hid (∀ j v, cu[j]? = some v → wz.cell? ⟨b, off + i * 13 + j, none⟩ = some v) := fun j v hv => keep_below HQ.out _ _ (hcc j v hv)
        have hmem := List.mem_of_getElem? hu
        have HSZ := hide hcu.size13
        have HA1 := hide hcu.all1
        have hdu : tdepth u ≤ 99999 := Nat.le_trans (tdepthL_mem hmem) HDL.out
        have HIT := hide (itm_mk wz cu)
        have HG0 := hide (heap_alloc_new wz (.cells zv 29))
        have HIN : Hid ((Tryd.prog.info? 29).map (·.size) = some cu.size) := by show _ = _; rw [HSZ.out]; exact infoV
        have HZV : Hid (zv.size = cu.size) := by show _ = _; rw [HSZ.out]; rfl
        have HCA := hide (HIH.out u (by rw [← HNN.out]; exact Tv.is_lt hmem) _ cu ((hcu.move (keep_below HQ.out)).move (keep_below HIT.out.b)) (by omega))
        have HCX := hide HIT.out.cells
        have HM2 : Hid (tdepthL (t.is.take (i + 1)) = max m (tdepth u)) := by
          show _ = _
          rw [takeT _ _ _ hu, tdepthL_app, ← HM.out]
          simp [tdepthL]
        clear hu hcells hcu hcc hmem
        generalize tdepth u = du at *
        go_wp2_with (first
          | (refine wpList_valAt rfl rfl b (off + i * 13) cu rfl HSZ.out HCC.out ?_)
          | (refine wpList_storeRow rfl rfl wz.heap.size zv cu 29 rfl rfl HG0.out HIN.out HZV.out HA1.out ?_)
          | (refine wpList_valAt rfl rfl wz.heap.size 0 cu rfl HSZ.out HCX.out ?_))
        refine HCA.out.mono ?_
        rintro e w5 ⟨rfl, hb5⟩
        have HQ5 : Hid (Below w.heap.size w w5) := (HQ.out.trans (HIT.out.b.mono HQ.out.size)).trans (hb5.mono (Nat.le_trans HQ.out.size HIT.out.b.size))
        clear hb5 HQ HCC HCA HCX HIT
        go_wp2_with fail
        have HME : Hid ((if m < du then (du : Int) else (m : Int)) = ((max m du : Nat) : Int)) := by
          show _ = _
          split <;> omega
        have HMX : Hid (max (m : Int) (du : Int) = ((max m du : Nat) : Int)) := by
          show _ = _
          omega
        go_roundw
        case rel => exact ⟨i + 1, max m du, by omega, by omega, by first | rw [HME.out] | rw [HMX.out], by go_num, HM2.out.symm, HQ5⟩
        case measure => simp [intOf]; omega
      · as_aux_lemma =>
        have g1 : ¬ (i : Int) < (t.is.length : Int) := by omega
        have HM3 : Hid (tdepth t = m + 1) := by
          show _ = _
          rw [HDE.out, HM.out, List.take_of_length_le (by omega)]
        go_wp2_with fail
        go_ret
        exact ⟨by rw [HM3.out]; rfl, HQ.out⟩
  · as_aux_lemma =>
    rw [if_neg hk8] at HDE
    rw [decide_eq_false hk8] at HNE
    clear hk8
    go_wp2_with (first
      | (refine wpList_valAt rfl rfl w.heap.size 0 cs rfl HZ.out HCB.out ?_)
      | (go_at_call 33; refine HNE.out.mono ?_; rintro e w1 ⟨rfl, hb1⟩))
    go_ret
    exact ⟨by rw [HDE.out]; rfl, HQ0.out.1.trans (hb1.mono HQ0.out.1.size)⟩
theorem depth_any (t : Tv) (w : World) (cs : Array Value) (ht : Tin w t cs) (hd : tdepth t ≤ 100000) : Calls Tryd.prog 13 #[.agg cs] w fun e w' => e = .returned (.int .i64 (tdepth t : Nat)) ∧ Below w.heap.size w w' := by
  have h : ∀ N, ∀ t : Tv, SizeOf.sizeOf t = N → ∀ (w : World) (cs : Array Value), Tin w t cs → tdepth t ≤ 100000 → Calls Tryd.prog 13 #[.agg cs] w fun e w' => e = .returned (.int .i64 (tdepth t : Nat)) ∧ Below w.heap.size w w' := by
    intro N
    induction N using Nat.strongRecOn with
    | _ N ih => exact fun t hN w cs ht hd => depth_step N (fun u hu => ih _ hu u rfl) t hN w cs ht hd
  exact h _ t rfl w cs ht hd
end
section
open Go.RowKit Go
theorem made_iv (c : Nat) : madeCells (Value.int .i64 0).cells c = (ivs (List.replicate c 0)).toArray := by
  apply Array.ext'
  simp only [madeCells, Value.cells, ivs, List.map_replicate]
  apply List.ext_getElem
  · simp
  · intro j h1 h2
    simp [Nat.mod_one]
/-- make([]int, n). -/
theorem mk_ints (w : World) (c : Nat) (hc : c ≤ 1000000) : (Instr.makeSlice 54 (.int .i64 (c : Nat)) (.int .i64 (c : Nat))).run Tryd.prog w = .ok (.slice (some ⟨w.heap.size, 0, none⟩) c c) (w.alloc (.cells (ivs (List.replicate c 0)).toArray 3)) := by
  obtain ⟨i3, hi, hz0, hz1, hz2⟩ := info3_ex
  have hr := run_make (P := Tryd.prog) w 54 3 i3 (.int .i64 0) Tryd.underlying54 hi hz0 .i64 .i64 c c (by omega) (by omega) (by rw [hz2]; omega) (by omega)
  simp only [Int.toNat_natCast, hz1, Nat.mul_one, made_iv] at hr
  exact hr
/-- What order has in hand. -/
structure Odw (w wx : World) (cs : Array Value) (n i : Nat) : Prop where
  b : Below w.heap.size w wx
  r : wx.heap[w.heap.size]? = some (.cells cs 29 (0, 0))
  o : wx.heap[w.heap.size + 1]? = some (.cells (ivs (List.range i ++ List.replicate (n - i) 0)).toArray 3 (0, 0))
theorem Odw.start (w : World) (cs : Array Value) (n : Nat) : Odw w ((w.alloc (.cells cs 29)).alloc (.cells (ivs (List.replicate n 0)).toArray 3)) cs n 0 := by
  have h0 := heap_alloc_new w (.cells cs 29)
  have e : (w.alloc (.cells cs 29)).heap.size = w.heap.size + 1 := by simp
  have h1 := heap_alloc_new (w.alloc (.cells cs 29)) (.cells (ivs (List.replicate n 0)).toArray 3)
  rw [e] at h1
  refine ⟨(below_alloc4 w _).trans ((below_alloc4 _ _).mono (by omega)), blk_alloc _ h0, ?_⟩
  simpa using h1
theorem Odw.set {w wx : World} {cs : Array Value} {n i : Nat} (h : Odw w wx cs n i) (hi : i < n) : Odw w (wx.setCell ⟨w.heap.size + 1, i, none⟩ (.int .i64 (i : Nat))) cs n (i + 1) := by
  have hk : Kp (fun q => q = w.heap.size + 1) wx (wx.setCell ⟨w.heap.size + 1, i, none⟩ (.int .i64 (i : Nat))) := (Kp.refl _ _).setCell _ _ (fun _ => rfl)
  refine ⟨h.b.trans (hk.below h.b.size (fun k e => by omega)), blk_other i _ h.r (by omega), ?_⟩
  rw [blk_set i _ h.o]
  congr 2
  apply Array.ext_getElem?
  intro k
  simp only [Array.getElem?_setIfInBounds, ivs, List.getElem?_toArray, List.map_append, List.size_toArray, List.length_append, List.length_map, List.length_range, List.length_replicate, List.map_replicate]
  by_cases e : i = k
  · subst e
    rw [if_pos rfl, if_pos (by omega), List.getElem?_append_left (by simp)]
    simp
  · rw [if_neg e]
    by_cases hk2 : k < i
    · rw [List.getElem?_append_left (by simpa using hk2), List.getElem?_append_left (by simp; omega)]
      simp [hk2, show k < i + 1 by omega]
    · rw [List.getElem?_append_right (by simp; omega), List.getElem?_append_right (by simp; omega)]
      simp only [List.length_map, List.length_range, List.getElem?_replicate]
      by_cases h3 : k < n
      · rw [if_pos (by omega), if_pos (by omega)]
      · rw [if_neg (by omega), if_neg (by omega)]
set_option maxRecDepth 1000000 in
set_option maxHeartbeats 1000000 in
theorem order6_any (t : Tv) (w : World) (cs : Array Value) (ht : Tin w t cs) (hn : min t.ks.length t.is.length ≤ 1000000) :
    Calls Tryd.prog 25 #[.agg cs] w fun e w' => ∃ v ps, e = .returned v ∧ ps = ordp t.ks (min t.ks.length t.is.length) ∧ Srp t.ks (min t.ks.length t.is.length) ps ∧ w'.ownsRow w.heap.size 3 1 v ps.length (ivs ps) ∧ Below w.heap.size w w' := by
  have hmf : ∀ (fn : Fn) (first cap : Array Value) (w : World), (Instr.makeFunc fn first cap).run Tryd.prog w = .ok (.func fn first cap) w := fun _ _ _ _ => rfl
  obtain ⟨vy, vk, vi, rfl, hy, hk, hv, hb⟩ := ht.parts
  obtain ⟨⟨ay, cy, rfl, _, _⟩, _⟩ := hy
  have HKS := hide hk
  obtain ⟨⟨ak, ck, rfl, hck, hkf⟩, hkm, hks⟩ := hk
  obtain ⟨⟨a, cap, rfl, hcap, hform⟩, hmax⟩ := hv
  have HKF := hide hkf
  clear hb ht hcap hform hkf hks
  generalize hcs : vcs t (.slice ay t.y.length cy) (.slice ak t.ks.length ck) (.slice a t.is.length cap) = cs at *
  have HCK : Hid (cs[11]? = some (.slice ak t.ks.length ck)) := by show _ = _; rw [← hcs]; rfl
  have HCI : Hid (cs[12]? = some (.slice a t.is.length cap)) := by show _ = _; rw [← hcs]; rfl
  clear hcs
  generalize hnn : min t.ks.length t.is.length = n at *
  have hnk : n ≤ t.ks.length := by omega
  have hmn : min (t.ks.length : Int) (t.is.length : Int) = (n : Int) := by omega
  clear hnn
  have HOS := hide (Odw.start w cs n)
  have q11 := blk_cell (j := 11) (heap_alloc_new w (.cells cs 29)) HCK.out
  have q12 := blk_cell (j := 12) (heap_alloc_new w (.cells cs 29)) HCI.out
  have hmk := mk_ints (w.alloc (.cells cs 29)) n hn
  go_enter Tryd.func25, Tryd.ntmps25
  go_wp2_with fail
  have HL0 : Hid (0 ≤ n ∧ Odw w ((w.alloc (.cells cs 29)).alloc (.cells (ivs (List.replicate n 0)).toArray 3)) cs n 0) := ⟨Nat.zero_le _, HOS.out⟩
  clear HOS q11 q12 hmk hmn
  go_loopw [15] (fun ii wx => ∃ i : Nat, i ≤ n ∧ ii = .int .i64 (i : Nat) ∧ Hid (Odw w wx cs n i)) (fun ii _ => n - (intOf ii).toNat)
  case atStart => exact ⟨0, HL0.out.1, rfl, HL0.out.2⟩
  case round =>
    obtain ⟨i, hi, rfl, HO⟩ := hrel
    clear HL0
    by_cases hlt : i < n
    · as_aux_lemma =>
      have g1 : (i : Int) < (n : Int) := by omega
      have c1 : wr.cell? ⟨w.heap.size + 1, i, none⟩ = some (.int .i64 0) := blk_cell HO.out.o (by
        simp only [ivs, List.map_append, List.getElem?_toArray]
        rw [List.getElem?_append_right (by simp)]
        simp only [List.map_replicate, List.length_map, List.length_range, Nat.sub_self, List.getElem?_replicate]
        rw [if_pos (by omega)]
        rfl)
      have f1 := blk_frozen i HO.out.o
      have HO2 := hide (HO.out.set hlt)
      go_wp2_with fail
      go_roundw
      case rel => exact ⟨i + 1, by omega, by go_num, HO2⟩
      case measure => simp [intOf]; omega
    · have g1 : ¬ (i : Int) < (n : Int) := by omega
      have e1 : i = n := by omega
      subst e1
      have hO := HO.out.o
      rw [Nat.sub_self, List.replicate_zero, List.append_nil] at hO
      have HBW := hide HO.out.b
      have HR := hide HO.out.r
      have HG := hide hO
      clear HO hO
      by_cases hz : i = 0
      · as_aux_lemma =>
        subst hz
        have HSF := hide (fun W => AnyF.slices_SortFunc_none (P := Tryd.prog) (ρ := Tryd.sortL_ren) { Tryd.sortL with } (some ⟨w.heap.size + 1, 0, none⟩) 0 (.func (.func 43) #[] #[.pointer (some ⟨w.heap.size, 0, none⟩)]) W)
        go_wp2_with (go_at_call 42; refine (Hid.out HSF wr).mono ?_; rintro e w' ⟨rfl, rfl⟩)
        go_ret
        refine ⟨_, [], rfl, by simp [ordp], ⟨by simp, fun i j p q _ h => by simp at h⟩, ?_, HBW.out⟩
        exact ⟨by simp [ivs], .inr ⟨w.heap.size + 1, 0, _, rfl, by omega, HG.out, Nat.le_refl _, by unfold maxLen; omega, by simp [ivs], by simp [ivs]⟩⟩
      · as_aux_lemma =>
        obtain ⟨b, off, rfl, hcc⟩ := HKF.out.resolve_left (fun h => by rw [h] at hnk; simp at hnk; omega)
        have hbl : ∀ j s, t.ks[j]? = some s → b < w.heap.size := fun j s hs => World.block_lt_of_cell? w _ (hcc j s hs)
        have hb1 : b < w.heap.size := hbl 0 _ (List.getElem?_eq_getElem (by omega))
        have HSF := hide (sort_any wr w.heap.size b off ck i (w.heap.size + 1) t.ks (by omega) hnk hn (blk_cell HR.out HCK.out) (fun j s hs => keep_below HBW.out _ _ (hcc j s hs)) HG.out (by omega) (by omega))
        clear hcc hbl
        go_wp2_with (go_at_call 42; refine (Hid.out HSF).mono ?_; rintro e w' ⟨rfl, ps, hpo, hps, hg', hkp⟩)
        go_ret
        have hln := hps.len
        refine ⟨_, ps, rfl, hpo, hps, ?_, HBW.out.trans (hkp.below HBW.out.size (fun k e => by omega))⟩
        exact ⟨by simp [ivs], .inr ⟨w.heap.size + 1, i, _, by rw [hln]; rfl, by omega, hg', by omega, by unfold maxLen; omega, by simp [ivs, hln], by rw [List.take_of_length_le (by simp [ivs])]⟩⟩
end
section
open Go.RowKit Go
/-- What CopyValues has in hand. -/
structure Nvi (w : World) (B : Nat) (wx : World) (v : Value) (L : List (Array Value)) (is : List Tv) : Prop where
  o : wx.ownsRow B 29 13 v L.length (vfl L)
  s : ∀ c ∈ L, c.size = 13
  b : Below B w wx
  z : B ≤ wx.heap.size
  i : ∀ (j : Nat) (u : Tv) (c : Array Value), is[j]? = some u → L[j]? = some c → ∃ lo hi, B ≤ lo ∧ hi ≤ wx.heap.size ∧ (∀ q, v.ownBlock = some q → q < lo ∨ hi ≤ q) ∧ Ntv wx lo hi u c
theorem Nvi.next {w : World} {B : Nat} {wx wy : World} {v : Value} {L : List (Array Value)} {is : List Tv} (h : Nvi w B wx v L is) (hb : Below wx.heap.size wx wy) : Nvi w B wy v L is :=
  ⟨(Kp.of_below (S := fun _ => False) hb).owns h.o (fun _ _ hf => hf), h.s, h.b.trans (hb.mono h.z), Nat.le_trans h.z hb.size, fun j u c h1 h2 => by
    obtain ⟨lo, hi, e1, e2, e3, e4⟩ := h.i j u c h1 h2
    exact ⟨lo, hi, e1, Nat.le_trans e2 hb.size, e3, e4.kept hb⟩⟩
theorem Nvi.app {w : World} {B : Nat} {wx wy : World} {v v' : Value} {L : List (Array Value)} {is : List Tv} (h : Nvi w B wx v L is) {c : Array Value} (hc : c.size = 13) (ho : wy.ownsRow B 29 13 v' (L.length + 1) (vfl L ++ c.toList)) (hg : wx.grownBy wy v.ownBlock) (hv : v'.ownBlock = v.ownBlock ∨ v'.ownBlock = some wx.heap.size)
    (hnew : ∀ u, is[L.length]? = some u → ∃ lo hi, B ≤ lo ∧ hi ≤ wx.heap.size ∧ (∀ q, v.ownBlock = some q → q < lo ∨ hi ≤ q) ∧ Ntv wx lo hi u c) : Nvi w B wy v' (L ++ [c]) is := by
  have hk : Kp (fun q => v.ownBlock = some q) wx wy := (Kp.refl _ _).grown hg (fun k _ h => h)
  have hz := hk.size
  refine ⟨?_, ?_, h.b.grown hg h.z (fun g hg => (h.o.lt g hg).1), Nat.le_trans h.z hz, fun j u c' h1 h2 => ?_⟩
  · rw [vfl_app, List.length_append]
    have e : vfl [c] = c.toList := by simp [vfl]
    rw [e]
    exact ho
  · intro d hd
    rcases List.mem_append.1 hd with hd | hd
    · exact h.s d hd
    · simp only [List.mem_singleton] at hd
      rw [hd]
      exact hc
  · have key : ∃ lo hi, B ≤ lo ∧ hi ≤ wx.heap.size ∧ (∀ q, v.ownBlock = some q → q < lo ∨ hi ≤ q) ∧ Ntv wx lo hi u c' := by
      rcases Nat.lt_or_ge j L.length with hj | hj
      · rw [List.getElem?_append_left hj] at h2
        exact h.i j u c' h1 h2
      · rw [List.getElem?_append_right hj] at h2
        have hj0 : j = L.length := by
          rcases Nat.eq_or_lt_of_le hj with e | e
          · exact e.symm
          · rw [List.getElem?_eq_none (by simp; omega)] at h2
            cases h2
        subst hj0
        simp at h2
        subst h2
        exact hnew u h1
    obtain ⟨lo, hi, e1, e2, e3, e4⟩ := key
    refine ⟨lo, hi, e1, Nat.le_trans e2 hz, fun q hq => ?_, e4.kp hk (fun q h1 h2 e => by rcases e3 q e with h | h <;> omega)⟩
    rcases hv with hv | hv
    · exact e3 q (by rw [← hv]; exact hq)
    · rw [hv] at hq
      injection hq with hq
      subst hq
      exact .inr e2
/-- What CopyValues gives. -/
structure NvP (w w' : World) (is : List Tv) (v : Value) (L : List (Array Value)) : Prop where
  o : w'.ownsRow w.heap.size 29 13 v is.length (vfl L)
  n : L.length = is.length
  s : ∀ c ∈ L, c.size = 13
  i : ∀ (j : Nat) (u : Tv) (c : Array Value), is[j]? = some u → L[j]? = some c → Ntv w' w.heap.size w'.heap.size u c
  b : Below w.heap.size w w'
def CopsV (N : Nat) : Prop := ∀ t : Tv, SizeOf.sizeOf t < N → ∀ (w : World) (cs : Array Value), Tin w t cs → tmuch t ≤ 100000 → Calls Tryd.prog 19 #[.agg cs] w fun e w' => ∃ c, e = .returned (.agg c) ∧ Ntv w' w.heap.size w'.heap.size t c ∧ Below w.heap.size w w'
set_option maxRecDepth 1000000 in
set_option maxHeartbeats 1000000 in
theorem copyValues_any (N : Nat) (ih : CopsV N) (is : List Tv) (hN : ∀ u ∈ is, SizeOf.sizeOf u < N) (w : World) (v : Value) (hsl : VSl w v is) (hm : tmuchL is ≤ 100000) :
    Calls Tryd.prog 39 #[v] w fun e w' => ∃ v' L, e = .returned v' ∧ NvP w w' is v' L := by
  have HIH := hide ih
  have HNN := hide hN
  have HMM := hide hm
  have hlen : is.length ≤ 100000 := Nat.le_trans (tmuchL_len is) hm
  obtain ⟨⟨a, cap, rfl, hn, hc⟩, hmax⟩ := hsl
  have HF := hide hc
  clear ih hN hm hn hc hmax
  have HL0 : Hid (Nvi w w.heap.size w (.slice none 0 0) [] is) := ⟨World.ownsRow_nil _ _ _ _, by simp, Below.refl _ _, Nat.le_refl _, fun j u c _ h => by simp at h⟩
  generalize hB : w.heap.size = B at *
  have HBe := hide hB
  clear hB
  go_enter Tryd.func39, Tryd.ntmps39
  go_wp2_with fail
  go_loopw [3, 4] (fun v ii wx => ∃ (i : Nat) (L : List (Array Value)), i ≤ is.length ∧ ii = .int .i64 (i : Nat) ∧ Hid (L.length = i) ∧ Hid (Nvi w B wx v L is)) (fun _ ii _ => is.length - (intOf ii).toNat)
  case atStart => exact ⟨0, [], by omega, rfl, rfl, HL0⟩
  case round =>
    obtain ⟨i, L, hi, rfl, HLn, HL⟩ := hrel
    clear HL0
    by_cases hlt : i < is.length
    · as_aux_lemma =>
      have g1 : (i : Int) < (is.length : Int) := by omega
      obtain ⟨u, hu⟩ : ∃ u, is[i]? = some u := ⟨is[i], List.getElem?_eq_getElem hlt⟩
      obtain ⟨b, off, rfl, hcells⟩ := HF.out.resolve_left (fun h => by rw [h] at hlt; simp at hlt)
      obtain ⟨cu, hcu, hcc⟩ := hcells i u hu
      have hkb : ∀ p x, w.cell? p = some x → wr.cell? p = some x := keep_below (by have e := HL.out.b; rw [← HBe.out] at e; exact e)
      have HCC : Hid (∀ j x, cu[j]? = some x → wr.cell? ⟨b, off + i * 13 + j, none⟩ = some x) := fun j x hx => hkb _ _ (hcc j x hx)
      have hmem := List.mem_of_getElem? hu
      have HSZ : Hid (cu.size = 13) := by
        obtain ⟨y1, y2, y3, e, _⟩ := hcu.parts
        show _ = _
        rw [e]
        rfl
      have HCA := hide (HIH.out u (HNN.out u hmem) wr cu (hcu.move hkb) (Nat.le_trans (tmuchL_mem hmem) HMM.out))
      have HU := hide hu
      clear hu hcells hcu hcc hmem hkb
      obtain ⟨ax, cx, hvx⟩ : ∃ ax cx, u3 = .slice ax L.length cx := by
        rcases HL.out.o.2 with ⟨e, h0⟩ | ⟨g, c, cur, e, _⟩
        · exact ⟨none, 0, by rw [e, h0]⟩
        · exact ⟨_, c, e⟩
      subst hvx
      go_wp2_with (refine wpList_valAt rfl rfl b (off + i * 13) cu rfl HSZ.out HCC.out ?_)
      refine HCA.out.mono ?_
      rintro e w5 ⟨c, rfl, hlt5, hb5⟩
      have HL5 := hide (HL.out.next hb5)
      have HC5 := hide hlt5
      have HO := hide hlt5.one
      have HQ : Hid (∀ q, (Value.slice ax L.length cx).ownBlock = some q → q < wr.heap.size) := fun q hq => (HL.out.o.lt q hq).2
      have HZ5 : Hid (B ≤ wr.heap.size) := HL.out.z
      clear hlt5 hb5 HL HCC HCA
      have HL6 := hide (HL5.out.next (below_alloc4 w5 (.cells c 29)))
      have HC6 : Hid (Ntv (w5.alloc (.cells c 29)) wr.heap.size w5.heap.size u c) := HC5.out.kept (below_alloc4 w5 _)
      have HG6 : Hid ((w5.alloc (.cells c 29)).heap[w5.heap.size]? = some (.cells c 29 (0, 0))) := heap_alloc_new w5 _
      have HS6 : Hid (w5.heap.size ≤ (w5.alloc (.cells c 29)).heap.size) := (below_alloc4 w5 (.cells c 29)).size
      have HLL : Hid (L.length < 1099511627) := by have := HLn.out; show _ < _; omega
      clear HL5 HC5
      go_wp2_with (first
        | (refine wpList_val1 rfl rfl c HO.out.1 rfl ?_)
        | (at_builtin; refine append_val rfl _ _ rfl B _ L.length (vfl L) rfl HL6.out.o w5.heap.size c HO.out rfl HG6.out HLL.out HL6.out.z ?_))
      intro v7 w7 ho7 hg7 hv7
      have HL7 : Hid (Nvi w B w7 v7 (L ++ [c]) is) := HL6.out.app HO.out.1 ho7 hg7 (by simpa using hv7) (fun u' hu' => by
        rw [HLn.out, HU.out] at hu'
        injection hu' with hu'
        subst hu'
        exact ⟨wr.heap.size, w5.heap.size, HZ5.out, HS6.out, fun q hq => .inl (HQ.out q hq), HC6.out⟩)
      have HLn7 : Hid ((L ++ [c]).length = i + 1) := by show _ = _; rw [List.length_append, HLn.out]; rfl
      clear ho7 hg7 hv7 HL6 HC6 HG6
      go_wp2_with fail
      go_roundw
      case rel => exact ⟨i + 1, L ++ [c], by omega, by go_num, HLn7, HL7⟩
      case measure => simp [intOf]; omega
    · as_aux_lemma =>
      have g1 : ¬ (i : Int) < (is.length : Int) := by omega
      have HLe : Hid (L.length = is.length) := by have := HLn.out; show _ = _; omega
      have HP : Hid (NvP w wr is u3 L) := by
        have h := HL.out
        rw [← HBe.out] at h
        refine ⟨by have e := h.o; rw [HLe.out] at e; exact e, HLe.out, h.s, fun j u c e1 e2 => ?_, h.b⟩
        obtain ⟨lo, hi, f1, f2, _, f4⟩ := h.i j u c e1 e2
        exact f4.mono f1 f2
      go_wp2_with fail
      go_ret
      exact ⟨_, rfl, L, HP.out⟩
end
section
open Go.RowKit Go
theorem own_slice {w : World} {B e s n : Nat} {v : Value} {xs : List Value} (h : w.ownsRow B e s v n xs) : ∃ a c, v = .slice a n c := by
  rcases h.2 with ⟨e, h0⟩ | ⟨g, c, cur, e, _⟩
  · exact ⟨none, 0, by rw [e, h0]⟩
  · exact ⟨_, c, e⟩
theorem end_v1c {wx : World} {R : Nat} {c : Array Value} {tmps : Array Value} (hn : c.size = 13) (hr : wx.heap[R]? = some (.cells c 29 (0, 0))) (hp : tmps.getD 2 undef = .pointer (some ⟨R, 0, none⟩)) : (results Tryd.f19 tmps).run Tryd.prog wx = .ok (.agg c) wx := by
  refine (results_one (p := 2) (ty := 29) rfl _ _ _).trans ?_
  rw [hp]
  have h1 := run_loadVar_row (P := Tryd.prog) wx R 29 29 c (0, 0) _ hr Tryd.underlying29 rfl (by rw [hn]; exact infoV)
  simp [asAddr, h1, Result.andThen]
set_option maxRecDepth 1000000 in
set_option maxHeartbeats 1000000 in
theorem copyValue_step (N : Nat) (ih : CopsV N) (t : Tv) (hN : SizeOf.sizeOf t = N) (w : World) (cs : Array Value) (ht : Tin w t cs) (hm : tmuch t ≤ 100000) :
    Calls Tryd.prog 19 #[.agg cs] w fun e w' => ∃ c, e = .returned (.agg c) ∧ Ntv w' w.heap.size w'.heap.size t c ∧ Below w.heap.size w w' := by
  have hme := tmuch_eq t
  have HIH := hide ih
  have HNN : Hid (∀ u ∈ t.is, SizeOf.sizeOf u < N) := fun u hu => by rw [← hN]; exact Tv.is_lt hu
  have HKL : Hid (t.ks.length ≤ 100000) := by show _ ≤ _; omega
  have HIL : Hid (t.is.length ≤ 100000) := by have := tmuchL_len t.is; show _ ≤ _; omega
  have HML : Hid (tmuchL t.is ≤ 100000) := by show _ ≤ _; omega
  clear ih hN hme hm
  obtain ⟨vy, vk, vi, rfl, hy, hk, hv, hb⟩ := ht.parts
  have HY := hide hy
  have HK := hide hk
  have HV := hide hv
  have HBD := hide hb
  obtain ⟨⟨ay, cy, rfl, _, _⟩, _, _⟩ := hy
  obtain ⟨⟨ak, ck, rfl, _, _⟩, _, _⟩ := hk
  obtain ⟨⟨ai, ci, rfl, _, _⟩, _⟩ := hv
  clear ht hb
  unfold vcs
  have HW0 : Hid (Lw w (((w.alloc (.cells #[.int .i64 t.k, .bool t.f, .bool t.g, .int .u64 (t.n : Nat), .int .u64 (t.b : Nat), .string t.s, .slice ay t.y.length cy, .int .i64 t.l.v, .int .u64 (t.l.c : Nat), .int .u64 (t.l.h : Nat), .string (nstr t.l.d), .slice ak t.ks.length ck, .slice ai t.is.length ci] 29)).alloc (.cells #[.int .i64 0, .bool false, .bool false, .int .u64 0, .int .u64 0, .string ⟨#[]⟩, .slice none 0 0, .int .i64 0, .int .u64 0, .int .u64 0, .string ⟨#[]⟩, .slice none 0 0, .slice none 0 0] 29)).alloc (.cells #[.int .i64 t.k, .bool t.f, .bool t.g, .int .u64 (t.n : Nat), .int .u64 (t.b : Nat), .string t.s, .slice ay t.y.length cy, .int .i64 t.l.v, .int .u64 (t.l.c : Nat), .int .u64 (t.l.h : Nat), .string (nstr t.l.d), .slice ak t.ks.length ck, .slice ai t.is.length ci] 29)) (vcs t (.slice ay t.y.length cy) (.slice ak t.ks.length ck) (.slice ai t.is.length ci)) (vcs t (.slice ay t.y.length cy) (.slice ak t.ks.length ck) (.slice ai t.is.length ci))) := Lw.start w _
  have HZ0 : Hid ((((w.alloc (.cells #[.int .i64 t.k, .bool t.f, .bool t.g, .int .u64 (t.n : Nat), .int .u64 (t.b : Nat), .string t.s, .slice ay t.y.length cy, .int .i64 t.l.v, .int .u64 (t.l.c : Nat), .int .u64 (t.l.h : Nat), .string (nstr t.l.d), .slice ak t.ks.length ck, .slice ai t.is.length ci] 29)).alloc (.cells #[.int .i64 0, .bool false, .bool false, .int .u64 0, .int .u64 0, .string ⟨#[]⟩, .slice none 0 0, .int .i64 0, .int .u64 0, .int .u64 0, .string ⟨#[]⟩, .slice none 0 0, .slice none 0 0] 29)).alloc (.cells #[.int .i64 t.k, .bool t.f, .bool t.g, .int .u64 (t.n : Nat), .int .u64 (t.b : Nat), .string t.s, .slice ay t.y.length cy, .int .i64 t.l.v, .int .u64 (t.l.c : Nat), .int .u64 (t.l.h : Nat), .string (nstr t.l.d), .slice ak t.ks.length ck, .slice ai t.is.length ci] 29)).heap.size = w.heap.size + 3) := by show _ = _; simp
  go_enter Tryd.func19, Tryd.ntmps19
  go_wp2_with fail
  generalize ((w.alloc (.cells #[.int .i64 t.k, .bool t.f, .bool t.g, .int .u64 (t.n : Nat), .int .u64 (t.b : Nat), .string t.s, .slice ay t.y.length cy, .int .i64 t.l.v, .int .u64 (t.l.c : Nat), .int .u64 (t.l.h : Nat), .string (nstr t.l.d), .slice ak t.ks.length ck, .slice ai t.is.length ci] 29)).alloc (.cells #[.int .i64 0, .bool false, .bool false, .int .u64 0, .int .u64 0, .string ⟨#[]⟩, .slice none 0 0, .int .i64 0, .int .u64 0, .int .u64 0, .string ⟨#[]⟩, .slice none 0 0, .slice none 0 0] 29)).alloc (.cells #[.int .i64 t.k, .bool t.f, .bool t.g, .int .u64 (t.n : Nat), .int .u64 (t.b : Nat), .string t.s, .slice ay t.y.length cy, .int .i64 t.l.v, .int .u64 (t.l.c : Nat), .int .u64 (t.l.h : Nat), .string (nstr t.l.d), .slice ak t.ks.length ck, .slice ai t.is.length ci] 29) = w3 at *
  have hz3 := HZ0.out
  refine (copy_any w3 _ t.y (HY.out.move (keep_below HW0.out.b)) HBD.out.y).mono ?_
  rintro e w4 ⟨vy4, rfl, ho4, hb4⟩
  obtain ⟨ya, yc, hv4⟩ := own_slice ho4
  subst hv4
  have hs4 := hb4.size
  have HGY : Hid (∀ q, (Value.slice ya t.y.length yc).ownBlock = some q → w.heap.size + 3 ≤ q ∧ q < w4.heap.size) := fun q hq => by have := ho4.lt q hq; exact ⟨by omega, this.2⟩
  have HY4 := hide (own_mono ho4 (show w.heap.size + 3 ≤ w3.heap.size by omega))
  have HW4 := hide (HW0.out.next hb4)
  have HS4 : Hid (w.heap.size + 3 ≤ w4.heap.size) := by show _ ≤ _; omega
  have HKS := hide HK.out.size
  clear ho4 hb4 HW0 hs4
  have c6 := blk_cell (j := 6) HW4.out.x rfl
  have f6 := blk_frozen 6 HW4.out.x
  have hset := HW4.out.set 6 (.slice ya t.y.length yc)
  rw [(setv t _ _ _ _).1] at hset
  have HW5 := hide hset.1
  have HY5 := hide (hset.2.owns HY4.out (fun q hq e => by have := HGY.out q hq; omega))
  have HS5 : Hid (w.heap.size + 3 ≤ (w4.setCell ⟨w.heap.size + 1 + 1, 6, none⟩ (.slice ya t.y.length yc)).heap.size ∧ w4.heap.size ≤ (w4.setCell ⟨w.heap.size + 1 + 1, 6, none⟩ (.slice ya t.y.length yc)).heap.size) := by
    have h1 := hset.2.size
    have h2 := HS4.out
    exact ⟨by omega, by omega⟩
  have c11 := blk_cell (j := 11) HW5.out.a rfl
  clear hset HW4 HY4
  go_wp2_with fail
  clear c6 f6 c11
  generalize w4.setCell ⟨w.heap.size + 1 + 1, 6, none⟩ (.slice ya t.y.length yc) = w5 at *
  refine (copyStrings_any w5 _ t.ks (HK.out.move (keep_below HW5.out.b)) (by have := HKL.out; omega)).mono ?_
  rintro e w6 ⟨vk6, rfl, ho6, hb6⟩
  obtain ⟨ka, kc, hv6⟩ := own_slice ho6
  subst hv6
  have hs6 := hb6.size
  have HGK : Hid (∀ q, (Value.slice ka t.ks.length kc).ownBlock = some q → w.heap.size + 3 ≤ q ∧ q < w6.heap.size) := fun q hq => by have := ho6.lt q hq; have := HS5.out; exact ⟨by omega, by omega⟩
  have HS6 : Hid (w.heap.size + 3 ≤ w6.heap.size ∧ w4.heap.size ≤ w6.heap.size) := by have := HS5.out; exact ⟨by omega, by omega⟩
  have HK6 := hide (own_mono ho6 (show w.heap.size + 3 ≤ w5.heap.size by have := HS5.out; omega))
  have HY6 := hide ((Kp.of_below (S := fun _ => False) hb6).owns HY5.out (fun _ _ h => h))
  have HW6 := hide (HW5.out.next hb6)
  clear ho6 hb6 hs6 HW5 HY5 HS5
  have c11 := blk_cell (j := 11) HW6.out.x rfl
  have f11 := blk_frozen 11 HW6.out.x
  have hset := HW6.out.set 11 (.slice ka t.ks.length kc)
  rw [(setv t _ _ _ _).2.1] at hset
  have HW7 := hide hset.1
  have HY7 := hide (hset.2.owns HY6.out (fun q hq e => by have := HGY.out q hq; omega))
  have HK7 := hide (hset.2.owns HK6.out (fun q hq e => by have := HGK.out q hq; omega))
  have HS7 : Hid (w.heap.size + 3 ≤ (w6.setCell ⟨w.heap.size + 1 + 1, 11, none⟩ (.slice ka t.ks.length kc)).heap.size ∧ w4.heap.size ≤ (w6.setCell ⟨w.heap.size + 1 + 1, 11, none⟩ (.slice ka t.ks.length kc)).heap.size ∧ w6.heap.size ≤ (w6.setCell ⟨w.heap.size + 1 + 1, 11, none⟩ (.slice ka t.ks.length kc)).heap.size) := by
    have h1 := hset.2.size
    have h2 := HS6.out
    exact ⟨by omega, by omega, by omega⟩
  have c12 := blk_cell (j := 12) HW7.out.a rfl
  clear hset HW6 HY6 HK6
  go_wp2_with fail
  clear c11 f11 c12
  generalize w6.setCell ⟨w.heap.size + 1 + 1, 11, none⟩ (.slice ka t.ks.length kc) = w7 at *
  refine (copyValues_any N HIH.out t.is HNN.out w7 _ (HV.out.move (keep_below HW7.out.b)) HML.out).mono ?_
  rintro e w8 ⟨vi8, L, rfl, hp8⟩
  obtain ⟨ia, ic, hv8⟩ := own_slice hp8.o
  subst hv8
  have hs8 := hp8.b.size
  have HGI : Hid (∀ q, (Value.slice ia t.is.length ic).ownBlock = some q → w.heap.size + 3 ≤ q ∧ q < w8.heap.size) := fun q hq => by have := hp8.o.lt q hq; have := HS7.out; exact ⟨by omega, by omega⟩
  have HS8 : Hid (w4.heap.size ≤ w8.heap.size ∧ w6.heap.size ≤ w8.heap.size) := by have := HS7.out; exact ⟨by omega, by omega⟩
  have HP8 := hide hp8
  have HY8 := hide ((Kp.of_below (S := fun _ => False) hp8.b).owns HY7.out (fun _ _ h => h))
  have HK8 := hide ((Kp.of_below (S := fun _ => False) hp8.b).owns HK7.out (fun _ _ h => h))
  have HW8 := hide (HW7.out.next hp8.b)
  have HB7 : Hid (w.heap.size + 3 ≤ w7.heap.size) := HS7.out.1
  clear hp8 hs8 HW7 HY7 HK7 HS7
  have c12 := blk_cell (j := 12) HW8.out.x rfl
  have f12 := blk_frozen 12 HW8.out.x
  have hset := HW8.out.set 12 (.slice ia t.is.length ic)
  rw [(setv t _ _ _ _).2.2] at hset
  have HW9 := hide hset.1
  have HLT : Hid (Ntv (w8.setCell ⟨w.heap.size + 1 + 1, 12, none⟩ (.slice ia t.is.length ic)) (w.heap.size + 3) w8.heap.size t (vcs t (.slice ya t.y.length yc) (.slice ka t.ks.length kc) (.slice ia t.is.length ic))) := by
    have h4 := HB7.out
    have h5 := HS8.out
    refine Ntv.mk t _ _ _ L HBD.out HY.out.byte ?_ (fun q hq => by have := HGY.out q hq; omega) ?_ (fun q hq => by have := HGK.out q hq; omega) (by have := HKL.out; omega) HKS.out ?_ (fun q hq => by have := HGI.out q hq; omega) (by have := HIL.out; omega) HP8.out.n HP8.out.s (fun i u c e1 e2 => ?_)
    · exact hset.2.owns HY8.out (fun q hq e => by have := HGY.out q hq; omega)
    · exact hset.2.owns HK8.out (fun q hq e => by have := HGK.out q hq; omega)
    · exact own_mono (hset.2.owns HP8.out.o (fun q hq e => by have := HGI.out q hq; omega)) (by omega)
    · exact ((HP8.out.i i u c e1 e2).kp hset.2 (fun q h5 h6 e => by omega)).mono (by omega) (Nat.le_refl _)
  have HS9 : Hid (w8.heap.size ≤ (w8.setCell ⟨w.heap.size + 1 + 1, 12, none⟩ (.slice ia t.is.length ic)).heap.size) := hset.2.size
  clear hset HW8 HY8 HK8 HP8
  have HXL : Hid (∀ j v, (vcs t (.slice ya t.y.length yc) (.slice ka t.ks.length kc) (.slice ia t.is.length ic))[j]? = some v → (w8.setCell ⟨w.heap.size + 1 + 1, 12, none⟩ (.slice ia t.is.length ic)).cell? ⟨w.heap.size + 1 + 1, 0 + j, none⟩ = some v) := fun j v hv => by
    rw [Nat.zero_add]
    exact blk_cell HW9.out.x hv
  have HON := hide HLT.out.one
  have HONA : Hid ((vcs t (.slice ya t.y.length yc) (.slice ka t.ks.length kc) (.slice ia t.is.length ic)).all (·.oneCell') = true) := by
    show _ = _
    rw [Array.all_eq_true']
    intro u hu
    exact HON.out.2 u (by simpa using hu)
  have HIN : Hid ((Tryd.prog.info? 29).map (·.size) = some (vcs t (.slice ya t.y.length yc) (.slice ka t.ks.length kc) (.slice ia t.is.length ic)).size) := infoV
  have HR9 := hide HW9.out.r
  have HZV : Hid (zv.size = (vcs t (.slice ya t.y.length yc) (.slice ka t.ks.length kc) (.slice ia t.is.length ic)).size) := rfl
  go_wp2_with (first
    | (refine wpList_valAt rfl rfl (w.heap.size + 1 + 1) 0 (vcs t (.slice ya t.y.length yc) (.slice ka t.ks.length kc) (.slice ia t.is.length ic)) rfl rfl HXL.out ?_)
    | (refine wpList_storeRow rfl rfl (w.heap.size + 1) zv (vcs t (.slice ya t.y.length yc) (.slice ka t.ks.length kc) (.slice ia t.is.length ic)) 29 rfl rfl HR9.out HIN.out HZV.out HONA.out ?_))
  have hkr := row_kp (w8.setCell ⟨w.heap.size + 1 + 1, 12, none⟩ (.slice ia t.is.length ic)) (w.heap.size + 1) (vcs t (.slice ya t.y.length yc) (.slice ka t.ks.length kc) (.slice ia t.is.length ic))
  have hzr := hkr.size
  have h89 := HS9.out
  exact bodyPost_ret (end_v1c rfl (row_same HR9.out) rfl) rfl ⟨_, rfl, (HLT.out.kp hkr (fun q h1 h2 e => by omega)).mono (by omega) (by omega), HW9.out.b.trans (hkr.below HW9.out.b.size (fun q e => by omega))⟩
theorem copyValue_any (t : Tv) (w : World) (cs : Array Value) (ht : Tin w t cs) (hm : tmuch t ≤ 100000) :
    Calls Tryd.prog 19 #[.agg cs] w fun e w' => ∃ c, e = .returned (.agg c) ∧ Ntv w' w.heap.size w'.heap.size t c ∧ Below w.heap.size w w' := by
  have h : ∀ N, CopsV N := by
    intro N
    induction N with
    | zero => exact fun t h => absurd h (by omega)
    | succ N ih =>
      intro t htN w cs ht hm
      exact copyValue_step (SizeOf.sizeOf t) (fun u hu => ih u (by omega)) t rfl w cs ht hm
  exact h _ t (Nat.lt_succ_self _) w cs ht hm
end
section
open Go.RowKit Go
/-- A value with other items. -/
def Tv.wi (t : Tv) (is : List Tv) : Tv := .mk t.k t.f t.g t.n t.b t.s t.y t.l t.ks is
/-- What remade has in hand. -/
structure Rm (w wx : World) (c : Array Value) : Prop where
  p : wx.heap[w.heap.size]? = some (.cells c 29 (0, 0))
  r : wx.heap[w.heap.size + 1]? = some (.cells zv 29 (0, 0))
  b : Below w.heap.size w wx
  z : w.heap.size + 2 ≤ wx.heap.size
theorem Rm.start (w : World) (c : Array Value) : Rm w ((w.alloc (.cells c 29)).alloc (.cells zv 29)) c := by
  have h1 := heap_alloc_new w (.cells c 29)
  have e1 : (w.alloc (.cells c 29)).heap.size = w.heap.size + 1 := by simp
  have h2 := heap_alloc_new (w.alloc (.cells c 29)) (.cells zv 29)
  rw [e1] at h2
  have b1 := below_alloc4 w (.cells c 29)
  have b2 := below_alloc4 (w.alloc (.cells c 29)) (.cells zv 29)
  exact ⟨blk_alloc _ h1, h2, b1.trans (b2.mono b1.size), by simp⟩
theorem Rm.next {w wx wy : World} {c : Array Value} (h : Rm w wx c) (hb : Below wx.heap.size wx wy) : Rm w wy c :=
  ⟨(hb.block _ (blk_lt h.p)).trans h.p, (hb.block _ (blk_lt h.r)).trans h.r, h.b.trans (hb.mono h.b.size), Nat.le_trans h.z hb.size⟩
theorem Rm.set {w wx : World} {c : Array Value} (h : Rm w wx c) (j : Nat) (v : Value) : Rm w (wx.setCell ⟨w.heap.size, j, none⟩ v) (c.setIfInBounds j v) ∧ Kp (fun q => q = w.heap.size) wx (wx.setCell ⟨w.heap.size, j, none⟩ v) := by
  have hk : Kp (fun q => q = w.heap.size) wx (wx.setCell ⟨w.heap.size, j, none⟩ v) := (Kp.refl _ _).setCell _ _ (fun _ => rfl)
  exact ⟨⟨blk_set j v h.p, blk_other j v h.r (by omega), h.b.trans (hk.below h.b.size (fun q e => by omega)), Nat.le_trans h.z hk.size⟩, hk⟩
theorem Nvi.ext {w : World} {B : Nat} {wx : World} {v : Value} {L : List (Array Value)} {is is2 : List Tv} (h : Nvi w B wx v L is) (he : ∀ j, j < L.length → is2[j]? = is[j]?) : Nvi w B wx v L is2 :=
  ⟨h.o, h.s, h.b, h.z, fun j u c h1 h2 => h.i j u c (by rw [← he j (List.getElem?_eq_some_iff.1 h2).1]; exact h1) h2⟩
/-- What is asked of the function that remade is handed. -/
def AgainC (F : Nat) (R : Tv → Tv → Prop) (u : Tv) : Prop := ∀ (w : World) (c : Array Value), Tin w u c → tmuch u ≤ 100000 → Calls Tryd.prog F #[.agg c] w fun e w' => ∃ c' s, e = .returned (.agg c') ∧ R u s ∧ Ntv w' w.heap.size w'.heap.size s c' ∧ Below w.heap.size w w'
/-- Items made again. -/
structure Mad (R : Tv → Tv → Prop) (is js : List Tv) : Prop where
  n : js.length = is.length
  r : ∀ (i : Nat) (u s : Tv), is[i]? = some u → js[i]? = some s → R u s
theorem end_rm {wx : World} {R : Nat} {c : Array Value} {tmps : Array Value} (hn : c.size = 13) (hr : wx.heap[R]? = some (.cells c 29 (0, 0))) (hp : tmps.getD 4 undef = .pointer (some ⟨R, 0, none⟩)) : (results Tryd.f24 tmps).run Tryd.prog wx = .ok (.agg c) wx := by
  refine (results_one (p := 4) (ty := 29) rfl _ _ _).trans ?_
  rw [hp]
  have h1 := run_loadVar_row (P := Tryd.prog) wx R 29 29 c (0, 0) _ hr Tryd.underlying29 rfl (by rw [hn]; exact infoV)
  simp [asAddr, h1, Result.andThen]
set_option maxRecDepth 1000000 in
set_option maxHeartbeats 1000000 in
theorem remade_any (F : Nat) (eF : ∀ args w, (callFunc F args).run Tryd.prog w = .ok (.enter F args) w) (R : Tv → Tv → Prop) (t : Tv) (ih : ∀ u ∈ t.is, AgainC F R u) (w : World) (cs : Array Value) (ht : Tin w t cs) (hm : tmuch t ≤ 100000) :
    Calls Tryd.prog 24 #[.agg cs, .func (.func F) #[] #[]] w fun e w' => ∃ c' js, e = .returned (.agg c') ∧ Mad R t.is js ∧ Ntv w' w.heap.size w'.heap.size (t.wi js) c' ∧ Below w.heap.size w w' := by
  have hme := tmuch_eq t
  have HIH := hide ih
  have HKL : Hid (t.ks.length ≤ 100000) := by show _ ≤ _; omega
  have hlen : t.is.length ≤ 100000 := by have := tmuchL_len t.is; omega
  have HML : Hid (tmuchL t.is ≤ 100000) := by show _ ≤ _; omega
  clear ih hme hm
  obtain ⟨vy, vk, vi, rfl, hy, hk, hv, hb⟩ := ht.parts
  have HY := hide hy
  have HK := hide hk
  have HBD := hide hb
  obtain ⟨⟨ay, cy, rfl, _, _⟩, _, _⟩ := hy
  obtain ⟨⟨ak, ck, rfl, _, _⟩, _, _⟩ := hk
  obtain ⟨⟨a, cap, rfl, _, hform⟩, hmax⟩ := hv
  have HF := hide hform
  clear ht hb hform
  have HW0 := hide (Rm.start w (vcs t (.slice ay t.y.length cy) (.slice ak t.ks.length ck) (.slice a t.is.length cap)))
  have HZ0 : Hid (((w.alloc (.cells (vcs t (.slice ay t.y.length cy) (.slice ak t.ks.length ck) (.slice a t.is.length cap)) 29)).alloc (.cells zv 29)).heap.size = w.heap.size + 2) := by show _ = _; simp
  generalize hcs : vcs t (.slice ay t.y.length cy) (.slice ak t.ks.length ck) (.slice a t.is.length cap) = cs at *
  have HCS := hide hcs
  have HCI : Hid (cs[12]? = some (.slice a t.is.length cap)) := by show _ = _; rw [← hcs]; rfl
  clear hcs
  have q12 := blk_cell (j := 12) HW0.out.p HCI.out
  unfold zv at q12 HW0 HZ0
  go_enter Tryd.func24, Tryd.ntmps24
  go_wp2_with fail
  generalize (w.alloc (.cells cs 29)).alloc (.cells #[.int .i64 0, .bool false, .bool false, .int .u64 0, .int .u64 0, .string ⟨#[]⟩, .slice none 0 0, .int .i64 0, .int .u64 0, .int .u64 0, .string ⟨#[]⟩, .slice none 0 0, .slice none 0 0] 29) = w2 at *
  clear q12
  have HL0 : Hid (Nvi w2 w2.heap.size w2 (.slice none 0 0) [] []) := ⟨World.ownsRow_nil _ _ _ _, by simp, Below.refl _ _, Nat.le_refl _, fun j u c _ h => by simp at h⟩
  generalize hB : w2.heap.size = B at *
  have HBe := hide hB
  clear hB
  go_loopw [5, 11] (fun vv ii wx => ∃ (i : Nat) (L : List (Array Value)) (js : List Tv), i ≤ t.is.length ∧ ii = .int .i64 (i : Nat) ∧ Hid (L.length = i) ∧ Hid (js.length = i ∧ ∀ (j : Nat) (u s : Tv), t.is[j]? = some u → js[j]? = some s → R u s) ∧ Hid (Nvi w2 B wx vv L js)) (fun _ ii _ => t.is.length - (intOf ii).toNat)
  case atStart => exact ⟨0, [], [], by omega, rfl, rfl, ⟨rfl, fun j u s _ h => by simp at h⟩, HL0⟩
  case round =>
    obtain ⟨i, L, js, hi, rfl, HLn, HJ, HL⟩ := hrel
    clear HL0
    by_cases hlt : i < t.is.length
    · as_aux_lemma =>
      have g1 : (i : Int) < (t.is.length : Int) := by omega
      obtain ⟨u, hu⟩ : ∃ u, t.is[i]? = some u := ⟨t.is[i], List.getElem?_eq_getElem hlt⟩
      obtain ⟨b, off, rfl, hcells⟩ := HF.out.resolve_left (fun h => by rw [h] at hlt; simp at hlt)
      obtain ⟨cu, hcu, hcc⟩ := hcells i u hu
      have hb2 : Below w2.heap.size w2 wr := by have e := HL.out.b; rw [← HBe.out] at e; exact e
      have hkb : ∀ p x, w.cell? p = some x → wr.cell? p = some x := fun p x h => keep_below hb2 _ _ (keep_below HW0.out.b _ _ h)
      have HCC : Hid (∀ j x, cu[j]? = some x → wr.cell? ⟨b, off + i * 13 + j, none⟩ = some x) := fun j x hx => hkb _ _ (hcc j x hx)
      have hmem := List.mem_of_getElem? hu
      have HSZ := hide hcu.size13
      have HA1 := hide hcu.all1
      have HIT := hide (itm_mk wr cu)
      have HG0 := hide (heap_alloc_new wr (.cells zv 29))
      have HIN : Hid ((Tryd.prog.info? 29).map (·.size) = some cu.size) := by show _ = _; rw [HSZ.out]; exact infoV
      have HZV : Hid (zv.size = cu.size) := by show _ = _; rw [HSZ.out]; rfl
      have HCA := hide (HIH.out u hmem _ cu ((hcu.move hkb).move (keep_below HIT.out.b)) (Nat.le_trans (tmuchL_mem hmem) HML.out))
      have HCX := hide HIT.out.cells
      have HU := hide hu
      clear hu hcells hcu hcc hmem hkb hb2
      obtain ⟨ax, cx, hvx⟩ : ∃ ax cx, u5 = .slice ax L.length cx := by
        rcases HL.out.o.2 with ⟨e, h0⟩ | ⟨g, c, cur, e, _⟩
        · exact ⟨none, 0, by rw [e, h0]⟩
        · exact ⟨_, c, e⟩
      subst hvx
      go_wp2_with (first
        | (refine wpList_valAt rfl rfl b (off + i * 13) cu rfl HSZ.out HCC.out ?_)
        | (refine wpList_storeRow rfl rfl wr.heap.size zv cu 29 rfl rfl HG0.out HIN.out HZV.out HA1.out ?_)
        | (refine wpList_valAt rfl rfl wr.heap.size 0 cu rfl HSZ.out HCX.out ?_))
      refine HCA.out.mono ?_
      rintro e w5 ⟨c, s, rfl, hrs, hlt5, hb5⟩
      have hi1 := HIT.out.b.size
      have hsz5 := hb5.size
      have HL5 := hide ((HL.out.next HIT.out.b).next hb5)
      have HC5 := hide hlt5
      have HO := hide hlt5.one
      have HQ : Hid (∀ q, (Value.slice ax L.length cx).ownBlock = some q → q < wr.heap.size) := fun q hq => (HL.out.o.lt q hq).2
      have HZ5 : Hid (B ≤ wr.heap.size) := HL.out.z
      have HZ6 : Hid (wr.heap.size ≤ ((wr.alloc (.cells zv 29)).setRow wr.heap.size cu).heap.size) := hi1
      have HJ2 : Hid ((js ++ [s]).length = i + 1 ∧ ∀ (j : Nat) (u s' : Tv), t.is[j]? = some u → (js ++ [s])[j]? = some s' → R u s') := by
        refine ⟨by rw [List.length_append, HJ.out.1]; rfl, fun j u' s' h1 h2 => ?_⟩
        rcases Nat.lt_or_ge j js.length with hj | hj
        · rw [List.getElem?_append_left hj] at h2
          exact HJ.out.2 j u' s' h1 h2
        · rw [List.getElem?_append_right hj] at h2
          have hj0 : j - js.length = 0 := by
            rcases Nat.eq_zero_or_pos (j - js.length) with e | e
            · exact e
            · rw [List.getElem?_eq_none (by simp; omega)] at h2
              cases h2
          rw [hj0] at h2
          simp at h2
          subst h2
          have hji : j = i := by have := HJ.out.1; omega
          rw [hji, HU.out] at h1
          injection h1 with h1
          subst h1
          exact hrs
      clear hlt5 hb5 HL HCC HCA HCX HIT HG0 hrs hi1 hsz5
      have HL6 := hide (HL5.out.next (below_alloc4 w5 (.cells c 29)))
      have HC6 : Hid (Ntv (w5.alloc (.cells c 29)) ((wr.alloc (.cells zv 29)).setRow wr.heap.size cu).heap.size w5.heap.size s c) := HC5.out.kept (below_alloc4 w5 _)
      have HG6 : Hid ((w5.alloc (.cells c 29)).heap[w5.heap.size]? = some (.cells c 29 (0, 0))) := heap_alloc_new w5 _
      have HS6 : Hid (w5.heap.size ≤ (w5.alloc (.cells c 29)).heap.size) := (below_alloc4 w5 (.cells c 29)).size
      have HLL : Hid (L.length < 1099511627) := by have := HLn.out; show _ < _; omega
      clear HL5 HC5
      go_wp2_with (first
        | (refine wpList_val1 rfl rfl c HO.out.1 rfl ?_)
        | (at_builtin; refine append_val rfl _ _ rfl B _ L.length (vfl L) rfl HL6.out.o w5.heap.size c HO.out rfl HG6.out HLL.out HL6.out.z ?_))
      intro v7 w7 ho7 hg7 hv7
      have HL7 : Hid (Nvi w2 B w7 v7 (L ++ [c]) (js ++ [s])) := by
        refine (HL6.out.ext (fun j hj => ?_)).app HO.out.1 ho7 hg7 (by simpa using hv7) (fun u' hu' => ?_)
        · rw [List.getElem?_append_left (by rw [HJ.out.1, ← HLn.out]; exact hj)]
        · have e : L.length = js.length := by rw [HLn.out, HJ.out.1]
          rw [e] at hu'
          simp at hu'
          subst hu'
          have h1 := HZ5.out
          have h2 := HZ6.out
          exact ⟨_, w5.heap.size, Nat.le_trans h1 h2, HS6.out, fun q hq => .inl (by have := HQ.out q hq; omega), HC6.out⟩
      have HLn7 : Hid ((L ++ [c]).length = i + 1) := by show _ = _; rw [List.length_append, HLn.out]; rfl
      clear ho7 hg7 hv7 HL6 HC6 HG6
      go_wp2_with fail
      go_roundw
      case rel => exact ⟨i + 1, L ++ [c], js ++ [s], by omega, by go_num, HLn7, HJ2, HL7⟩
      case measure => simp [intOf]; omega
    · as_aux_lemma =>
      have hiL : i = t.is.length := by omega
      obtain ⟨ax, cx, hvx⟩ : ∃ ax cx, u5 = .slice ax t.is.length cx := by
        rcases HL.out.o.2 with ⟨e, h0⟩ | ⟨g, c, cur, e, _⟩
        · exact ⟨none, 0, by rw [e, ← hiL, ← HLn.out, h0]⟩
        · exact ⟨_, c, by rw [e, HLn.out, hiL]⟩
      subst hvx
      have hb3 : Below w2.heap.size w2 wr := by have e := HL.out.b; rw [← HBe.out] at e; exact e
      have HW3 := hide (HW0.out.next hb3)
      have HMD : Hid (Mad R t.is js) := ⟨by rw [HJ.out.1, hiL], HJ.out.2⟩
      have HLI : Hid (L.length = t.is.length) := by show _ = _; rw [HLn.out, hiL]
      have HCY : Hid (cs[6]? = some (.slice ay t.y.length cy)) := by show _ = _; rw [← HCS.out]; rfl
      have HOI : Hid (wr.ownsRow (w.heap.size + 2) 29 13 (.slice ax t.is.length cx) t.is.length (vfl L)) := by
        have e := HL.out.o
        rw [HZ0.out, HLI.out] at e
        exact e
      have HGI : Hid (∀ q, (Value.slice ax t.is.length cx).ownBlock = some q → w.heap.size + 2 ≤ q ∧ q < wr.heap.size) := fun q hq => HOI.out.lt q hq
      have HNI : Hid (∀ (j : Nat) (u : Tv) (c : Array Value), js[j]? = some u → L[j]? = some c → Ntv wr (w.heap.size + 2) wr.heap.size u c) := fun j u c h1 h2 => by
        obtain ⟨lo, hi, e1, e2, _, e4⟩ := HL.out.i j u c h1 h2
        rw [HZ0.out] at e1
        exact e4.mono e1 e2
      have H13 := hide HL.out.s
      clear HL HJ HLn hb3 hlt hi
      subst hiL
      have c6 := blk_cell (j := 6) HW3.out.p HCY.out
      have g1 : ¬ (t.is.length : Int) < (t.is.length : Int) := by omega
      go_wp2_with (at_builtin; refine append_bsl rfl _ _ rfl wr.heap.size _ 0 [] rfl (World.ownsRow_nil _ _ _ _) _ t.y rfl (HY.out.move (keep_below HW3.out.b)) ?b1 ?b2 ?_)
      case b1 => have := HBD.out.y; omega
      intro v4 w4 ho4 hg4
      have hb4 : Below wr.heap.size wr w4 := (Below.refl _ _).grown hg4 (Nat.le_refl _) (fun q hq => by cases hq)
      have hz3 := HW3.out.z
      have ho4' : w4.ownsRow wr.heap.size 5 1 v4 t.y.length (bv t.y) := by simpa using ho4
      clear ho4 hg4
      obtain ⟨ya, yc, hv4⟩ := own_slice ho4'
      subst hv4
      have hs4 := hb4.size
      have HGY : Hid (∀ q, (Value.slice ya t.y.length yc).ownBlock = some q → w.heap.size + 2 ≤ q ∧ q < w4.heap.size) := fun q hq => by have := ho4'.lt q hq; exact ⟨by omega, this.2⟩
      have HY4 := hide (own_mono ho4' (show w.heap.size + 2 ≤ wr.heap.size by omega))
      have HI4 := hide ((Kp.of_below (S := fun _ => False) hb4).owns HOI.out (fun _ _ h => h))
      have HN4 : Hid (∀ (j : Nat) (u : Tv) (c : Array Value), js[j]? = some u → L[j]? = some c → Ntv w4 (w.heap.size + 2) wr.heap.size u c) := fun j u c h1 h2 => (HNI.out j u c h1 h2).kept hb4
      have HS4 : Hid (wr.heap.size ≤ w4.heap.size) := hs4
      have HZ3 : Hid (w.heap.size + 2 ≤ wr.heap.size) := hz3
      have HW4 := hide (HW3.out.next hb4)
      clear ho4' hb4 HW3 hs4 hz3 HOI HNI c6
      have c6 := blk_cell (j := 6) HW4.out.p HCY.out
      have f6 := blk_frozen 6 HW4.out.p
      have hset := HW4.out.set 6 (.slice ya t.y.length yc)
      rw [← HCS.out, (setv t _ _ _ _).1] at hset
      have HW5 := hide hset.1
      have HY5 := hide (hset.2.owns HY4.out (fun q hq e => by have := HGY.out q hq; omega))
      have HI5 := hide (hset.2.owns HI4.out (fun q hq e => by have := HGI.out q hq; omega))
      have HN5 : Hid (∀ (j : Nat) (u : Tv) (c : Array Value), js[j]? = some u → L[j]? = some c → Ntv (w4.setCell ⟨w.heap.size, 6, none⟩ (.slice ya t.y.length yc)) (w.heap.size + 2) wr.heap.size u c) := fun j u c h1 h2 => (HN4.out j u c h1 h2).kp hset.2 (fun q h3 _ e => by omega)
      have HS5 : Hid (wr.heap.size ≤ (w4.setCell ⟨w.heap.size, 6, none⟩ (.slice ya t.y.length yc)).heap.size ∧ w4.heap.size ≤ (w4.setCell ⟨w.heap.size, 6, none⟩ (.slice ya t.y.length yc)).heap.size) := ⟨Nat.le_trans HS4.out hset.2.size, hset.2.size⟩
      have c11 := blk_cell (j := 11) HW5.out.p rfl
      have HK5 := hide (HK.out.move (keep_below HW5.out.b))
      clear hset HW4 HY4 HI4 HN4 HCS
      go_wp2_with (at_builtin; refine append_ssl rfl _ _ rfl (w4.setCell ⟨w.heap.size, 6, none⟩ (.slice ya t.y.length yc)).heap.size _ 0 [] rfl (World.ownsRow_nil _ _ _ _) _ t.ks rfl HK5.out ?b3 ?b4 ?_)
      case b3 => have := HKL.out; omega
      case b4 => exact Nat.le_refl _
      intro v6 w6 ho6 hg6
      generalize w4.setCell ⟨w.heap.size, 6, none⟩ (.slice ya t.y.length yc) = w5 at *
      have hb6 : Below w5.heap.size w5 w6 := (Below.refl _ _).grown hg6 (Nat.le_refl _) (fun q hq => by cases hq)
      have hz5 := HW5.out.z
      have ho6' : w6.ownsRow w4.heap.size 9 1 v6 t.ks.length (sv t.ks) := by simpa using ho6
      clear ho6 hg6 c6 f6 c11
      obtain ⟨ka, kc, hv6⟩ := own_slice ho6'
      subst hv6
      have hs6 := hb6.size
      have HGK : Hid (∀ q, (Value.slice ka t.ks.length kc).ownBlock = some q → w.heap.size + 2 ≤ q ∧ q < w6.heap.size) := fun q hq => by have := ho6'.lt q hq; have := HS4.out; have := HZ3.out; exact ⟨by omega, by omega⟩
      have HK6 := hide (own_mono ho6' (show w.heap.size + 2 ≤ w4.heap.size by have := HS4.out; have := HZ3.out; omega))
      have HY6 := hide ((Kp.of_below (S := fun _ => False) hb6).owns HY5.out (fun _ _ h => h))
      have HI6 := hide ((Kp.of_below (S := fun _ => False) hb6).owns HI5.out (fun _ _ h => h))
      have HN6 : Hid (∀ (j : Nat) (u : Tv) (c : Array Value), js[j]? = some u → L[j]? = some c → Ntv w6 (w.heap.size + 2) wr.heap.size u c) := fun j u c h1 h2 => (HN5.out j u c h1 h2).kept hb6
      have HS6 : Hid (wr.heap.size ≤ w6.heap.size ∧ w4.heap.size ≤ w6.heap.size) := by have := HS5.out; exact ⟨by omega, by omega⟩
      have HW6 := hide (HW5.out.next hb6)
      have HKS := hide HK.out.size
      clear ho6' hb6 HW5 hs6 hz5 HI5 HN5 HY5 HK5
      have c11 := blk_cell (j := 11) HW6.out.p rfl
      have f11 := blk_frozen 11 HW6.out.p
      have hset := HW6.out.set 11 (.slice ka t.ks.length kc)
      rw [(setv t _ _ _ _).2.1] at hset
      have HW7 := hide hset.1
      have HY7 := hide (hset.2.owns HY6.out (fun q hq e => by have := HGY.out q hq; omega))
      have HK7 := hide (hset.2.owns HK6.out (fun q hq e => by have := HGK.out q hq; omega))
      have HI7 := hide (hset.2.owns HI6.out (fun q hq e => by have := HGI.out q hq; omega))
      have HN7 : Hid (∀ (j : Nat) (u : Tv) (c : Array Value), js[j]? = some u → L[j]? = some c → Ntv (w6.setCell ⟨w.heap.size, 11, none⟩ (.slice ka t.ks.length kc)) (w.heap.size + 2) wr.heap.size u c) := fun j u c h1 h2 => (HN6.out j u c h1 h2).kp hset.2 (fun q h3 _ e => by omega)
      have HS7 : Hid (wr.heap.size ≤ (w6.setCell ⟨w.heap.size, 11, none⟩ (.slice ka t.ks.length kc)).heap.size ∧ w4.heap.size ≤ (w6.setCell ⟨w.heap.size, 11, none⟩ (.slice ka t.ks.length kc)).heap.size ∧ w6.heap.size ≤ (w6.setCell ⟨w.heap.size, 11, none⟩ (.slice ka t.ks.length kc)).heap.size) := ⟨Nat.le_trans HS6.out.1 hset.2.size, Nat.le_trans HS6.out.2 hset.2.size, hset.2.size⟩
      clear hset HW6 HY6 HI6 HN6 HK6
      have c12 := blk_cell (j := 12) HW7.out.p rfl
      have f12 := blk_frozen 12 HW7.out.p
      have hset := HW7.out.set 12 (.slice ax t.is.length cx)
      rw [(setv t _ _ _ _).2.2] at hset
      have HW9 := hide hset.1
      have HLT : Hid (Ntv ((w6.setCell ⟨w.heap.size, 11, none⟩ (.slice ka t.ks.length kc)).setCell ⟨w.heap.size, 12, none⟩ (.slice ax t.is.length cx)) (w.heap.size + 2) (w6.setCell ⟨w.heap.size, 11, none⟩ (.slice ka t.ks.length kc)).heap.size (t.wi js) (vcs t (.slice ya t.y.length yc) (.slice ka t.ks.length kc) (.slice ax t.is.length cx))) := by
        have h5 := HS7.out
        have hjl : js.length = t.is.length := HMD.out.n
        refine Ntv.mk (t.wi js) _ _ _ L ⟨HBD.out.n, HBD.out.b, HBD.out.s, HBD.out.y, HBD.out.l, HBD.out.d⟩ HY.out.byte ?_ (fun q hq => by have := HGY.out q hq; omega) ?_ (fun q hq => by have := HGK.out q hq; omega) (Nat.le_trans HKL.out (by omega)) HKS.out ?_ (fun q hq => by have := HGI.out q hq; omega) (show js.length ≤ _ by omega) (show L.length = js.length by rw [HLI.out, hjl]) H13.out (fun i u c e1 e2 => ?_)
        · exact hset.2.owns HY7.out (fun q hq e => by have := HGY.out q hq; omega)
        · exact hset.2.owns HK7.out (fun q hq e => by have := HGK.out q hq; omega)
        · show World.ownsRow _ _ _ _ _ js.length _
          rw [hjl]
          exact hset.2.owns HI7.out (fun q hq e => by have := HGI.out q hq; omega)
        · exact ((HN7.out i u c e1 e2).kp hset.2 (fun q h5 h6 e => by omega)).mono (Nat.le_refl _) h5.1
      have HS9 : Hid ((w6.setCell ⟨w.heap.size, 11, none⟩ (.slice ka t.ks.length kc)).heap.size ≤ ((w6.setCell ⟨w.heap.size, 11, none⟩ (.slice ka t.ks.length kc)).setCell ⟨w.heap.size, 12, none⟩ (.slice ax t.is.length cx)).heap.size) := hset.2.size
      clear hset HW7 HY7 HK7 HI7 HN7
      have HXL : Hid (∀ j v, (vcs t (.slice ya t.y.length yc) (.slice ka t.ks.length kc) (.slice ax t.is.length cx))[j]? = some v → ((w6.setCell ⟨w.heap.size, 11, none⟩ (.slice ka t.ks.length kc)).setCell ⟨w.heap.size, 12, none⟩ (.slice ax t.is.length cx)).cell? ⟨w.heap.size, 0 + j, none⟩ = some v) := fun j v hv => by
        rw [Nat.zero_add]
        exact blk_cell HW9.out.p hv
      have HON := hide HLT.out.one
      have HONA : Hid ((vcs t (.slice ya t.y.length yc) (.slice ka t.ks.length kc) (.slice ax t.is.length cx)).all (·.oneCell') = true) := by
        show _ = _
        rw [Array.all_eq_true']
        intro u hu
        exact HON.out.2 u (by simpa using hu)
      have HIN : Hid ((Tryd.prog.info? 29).map (·.size) = some (vcs t (.slice ya t.y.length yc) (.slice ka t.ks.length kc) (.slice ax t.is.length cx)).size) := infoV
      have HR9 := hide HW9.out.r
      have HZV : Hid (zv.size = (vcs t (.slice ya t.y.length yc) (.slice ka t.ks.length kc) (.slice ax t.is.length cx)).size) := rfl
      go_wp2_with (first
        | (refine wpList_valAt rfl rfl w.heap.size 0 (vcs t (.slice ya t.y.length yc) (.slice ka t.ks.length kc) (.slice ax t.is.length cx)) rfl rfl HXL.out ?_)
        | (refine wpList_storeRow rfl rfl (w.heap.size + 1) zv (vcs t (.slice ya t.y.length yc) (.slice ka t.ks.length kc) (.slice ax t.is.length cx)) 29 rfl rfl HR9.out HIN.out HZV.out HONA.out ?_))
      have hkr := row_kp ((w6.setCell ⟨w.heap.size, 11, none⟩ (.slice ka t.ks.length kc)).setCell ⟨w.heap.size, 12, none⟩ (.slice ax t.is.length cx)) (w.heap.size + 1) (vcs t (.slice ya t.y.length yc) (.slice ka t.ks.length kc) (.slice ax t.is.length cx))
      have hzr := hkr.size
      have h89 := HS9.out
      exact bodyPost_ret (end_rm rfl (row_same HR9.out) rfl) rfl ⟨_, js, rfl, HMD.out, (HLT.out.kp hkr (fun q h1 h2 e => by omega)).mono (by omega) (by omega), HW9.out.b.trans (hkr.below HW9.out.b.size (fun q e => by omega))⟩
end
section
open Go.RowKit Go
section
variable {P : Program} {Q : Exit → Act → World → Prop} {S : World → Prop} {l : List Oper} {fuel : Nat} {listed : Array Bool} {a : Act} {w : World}
/-- A region that draws its order, by hand: begin. -/
theorem heldStart {id : Nat} (hm : P.follows .mixedOrders = true) (h : wpAnyH P .any l.toArray Q S l.length (Array.replicate l.length false) a w.drew) : (Code.region id l.toArray true).wp P Q a w :=
  wp_region_held (S := S) hm (by simpa using h)
/-- Take one first that reads alone. -/
theorem heldTake (i : Nat) {oi : Oper} (v : Value) (hi : l[i]? = some oi) (hs : Region.noSelect l.toArray = true) (hf : Region.free .any l.toArray listed i = true) (hr : (Region.ready .any l.toArray listed).contains i = true)
    (hQ : ∀ c a w, Q (.panic c) (a.put oi.dst v) w → Q (.panic c) a w) (hw : Region.wanted oi (yielded l.toArray a.tmps) = true) (hS : S w) (hy : ∀ w, S w → (execOp a.eval oi).run P w = .ok (.value v) w)
    (h : wpAnyH P .any l.toArray Q S fuel (listed.setIfInBounds i true) (a.put oi.dst v) w) : wpAnyH P .any l.toArray Q S (fuel + 1) listed a w :=
  wpAnyH_take (by simpa using hi) hs hf hr hQ (.inl ⟨hw, hy⟩) hS h
/-- The only one that may come up. -/
theorem heldStep (i : Nat) {oi : Oper} (hi : l[i]? = some oi) (hr : Region.ready .any l.toArray listed = [i])
    (h : ∀ K : Act → World → Prop, Hid (∀ a w, S w → (S w → wpAnyH P .any l.toArray Q S fuel (listed.setIfInBounds i true) a w) → K a w) → if Region.wanted oi (yielded l.toArray a.tmps) = true then Oper.wp P oi a w K Q else K (a.put oi.dst undef) w) : wpAnyH P .any l.toArray Q S (fuel + 1) listed a w :=
  wpAnyH_ready hr (by simp) (AllReadyH.cons (by simpa using hi) (fun K hK => h K hK) AllReadyH.nil)
theorem heldDone (hr : Region.ready .any l.toArray listed = []) (h : Q .normal a w) : wpAnyH P .any l.toArray Q S fuel listed a w := wpAnyH_done hr h fuel
end
end
section
open Go.RowKit Go
/-- The same fields but for keys and items. -/
structure Top (t z : Tv) : Prop where
  k : z.k = t.k
  f : z.f = t.f
  g : z.g = t.g
  n : z.n = t.n
  b : z.b = t.b
  s : z.s = t.s
  y : z.y = t.y
  l : z.l = t.l
/-- A value told again, sorted: every map's entries in keys' order. -/
inductive SrtR : Tv → Tv → Prop
  | rest (t s : Tv) (h9 : t.k ≠ 9) (ht : Top t s) (hk : s.ks = t.ks) (hn : s.is.length = t.is.length) (hi : ∀ (i : Nat) (u v : Tv), t.is[i]? = some u → s.is[i]? = some v → SrtR u v) : SrtR t s
  | map (t s : Tv) (ps : List Nat) (h9 : t.k = 9) (ht : Top t s) (hp : Srp t.ks (min t.ks.length t.is.length) ps) (hk : s.ks = pickS t.ks ps) (hn : s.is.length = ps.length) (hi : ∀ (i p : Nat) (u v : Tv), ps[i]? = some p → t.is[p]? = some u → s.is[i]? = some v → SrtR u v) : SrtR t s
/-- The items at these places. -/
def zt : Tv := .mk 0 false false 0 0 ⟨#[]⟩ [] ⟨0, 0, 0, []⟩ [] []
def pickT (js : List Tv) (ps : List Nat) : List Tv := ps.map fun p => js.getD p zt
def Tv.wp (t : Tv) (js : List Tv) (ps : List Nat) : Tv := .mk t.k t.f t.g t.n t.b t.s t.y t.l (pickS t.ks ps) (pickT js ps)
theorem pickT_get {js : List Tv} {ps : List Nat} {i p : Nat} (hp : ps[i]? = some p) (hl : p < js.length) : (pickT js ps)[i]? = js[p]? := by
  simp [pickT, hp, List.getD, List.getElem?_eq_getElem hl]
theorem pickL_get {L : List (Array Value)} {ps : List Nat} {i p : Nat} (hp : ps[i]? = some p) (hl : p < L.length) : (pickL L ps)[i]? = L[p]? := by
  simp [pickL, hp, List.getD, List.getElem?_eq_getElem hl]
theorem pickS_mem {ks : List ByteArray} {ps : List Nat} {s : ByteArray} (h : s ∈ pickS ks ps) (hl : ∀ p ∈ ps, p < ks.length) : s ∈ ks := by
  obtain ⟨p, hp, rfl⟩ := List.mem_map.1 h
  have := hl p hp
  simp [List.getD, List.getElem?_eq_getElem this]
/-- A sorted map in new memory. -/
theorem ntv_pick {wx w5 : World} {lo g3 hi : Nat} {t : Tv} {js : List Tv} {ps : List Nat} {L : List (Array Value)} {vy vA vB : Value} (hbd : Tbd t) (hyb : ∀ x ∈ t.y, x < 256) (hy : wx.ownsRow lo 5 1 vy t.y.length (bv t.y)) (hgy : ∀ q, vy.ownBlock = some q → q < hi)
    (hA : wx.ownsRow lo 9 1 vA ps.length (sv (pickS t.ks ps))) (hgA : ∀ q, vA.ownBlock = some q → q < hi) (hB : wx.ownsRow lo 29 13 vB ps.length (vfl (pickL L ps))) (hgB : ∀ q, vB.ownBlock = some q → q < hi) (hpl : ps.length ≤ 100000) (hks : ∀ s ∈ t.ks, s.size ≤ 140737488351232) (hpk : ∀ p ∈ ps, p < t.ks.length) (hpj : ∀ p ∈ ps, p < js.length)
    (hL : L.length = js.length) (h13 : ∀ c ∈ L, c.size = 13) (hk : Kp (fun q => q = g3) w5 wx) (hcs : ∀ (i : Nat) (u : Tv) (c : Array Value), js[i]? = some u → L[i]? = some c → Ntv w5 lo g3 u c) (hgh : g3 ≤ hi) : Ntv wx lo hi (t.wp js ps) (vcs t vy vA vB) := by
  refine Ntv.mk (t.wp js ps) vy vA vB (pickL L ps) ⟨hbd.n, hbd.b, hbd.s, hbd.y, hbd.l, hbd.d⟩ hyb hy hgy ?_ hgA ?_ ?_ ?_ hgB ?_ ?_ ?_ ?_
  · show World.ownsRow _ _ _ _ _ (pickS t.ks ps).length _
    rw [pickS_len]
    exact hA
  · show (pickS t.ks ps).length ≤ _
    rw [pickS_len]
    omega
  · intro s hs
    exact hks s (pickS_mem hs hpk)
  · show World.ownsRow _ _ _ _ _ (pickT js ps).length _
    have e : (pickT js ps).length = ps.length := by simp [pickT]
    rw [e]
    exact hB
  · show (pickT js ps).length ≤ _
    have e : (pickT js ps).length = ps.length := by simp [pickT]
    omega
  · show (pickL L ps).length = (pickT js ps).length
    simp [pickL, pickT]
  · intro c hc
    obtain ⟨p, hp, rfl⟩ := List.mem_map.1 hc
    have := hpj p hp
    exact h13 _ (by simp [List.getD, List.getElem?_eq_getElem (show p < L.length by omega)])
  · intro i u c h1 h2
    have hi : i < ps.length := by
      have := (List.getElem?_eq_some_iff.1 h2).1
      rw [pickL_len] at this
      exact this
    have hp : ps[i]? = some ps[i] := List.getElem?_eq_getElem hi
    have hm := hpj _ (List.mem_of_getElem? hp)
    have h1' : (pickT js ps)[i]? = some u := h1
    rw [pickT_get hp hm] at h1'
    rw [pickL_get hp (by omega)] at h2
    exact ((hcs _ u c h1' h2).kp hk (fun q _ h e => by omega)).mono (Nat.le_refl _) hgh
theorem srt_pick {t : Tv} {js : List Tv} {ps : List Nat} (hk9 : t.k = 9) (hmd : Mad SrtR t.is js) (hsp : Srp t.ks (min t.ks.length t.is.length) ps) : SrtR t (t.wp js ps) :=
  SrtR.map t (t.wp js ps) ps hk9 ⟨rfl, rfl, rfl, rfl, rfl, rfl, rfl, rfl⟩ hsp rfl (by simp [Tv.wp, Tv.is, pickT]) fun i p u v hp hu hv => by
    have := hsp.lt p (List.mem_of_getElem? hp)
    have := hmd.n
    have e : (pickT js ps)[i]? = some v := hv
    rw [pickT_get hp (by omega)] at e
    exact hmd.r p u v hu e
theorem end_so {wx : World} {R : Nat} {c : Array Value} {tmps : Array Value} (hn : c.size = 13) (hr : wx.heap[R]? = some (.cells c 29 (0, 0))) (hp : tmps.getD 2 undef = .pointer (some ⟨R, 0, none⟩)) : (results Tryd.f11 tmps).run Tryd.prog wx = .ok (.agg c) wx := by
  refine (results_one (p := 2) (ty := 29) rfl _ _ _).trans ?_
  rw [hp]
  have h1 := run_loadVar_row (P := Tryd.prog) wx R 29 29 c (0, 0) _ hr Tryd.underlying29 rfl (by rw [hn]; exact infoV)
  simp [asAddr, h1, Result.andThen]
set_option maxRecDepth 1000000 in
set_option maxHeartbeats 1000000 in
theorem sorted_step (t : Tv) (ih : ∀ u ∈ t.is, AgainC 11 SrtR u) : AgainC 11 SrtR t := by
  intro w cs ht hm
  have eF : ∀ args w, (callFunc 11 args).run Tryd.prog w = .ok (.enter 11 args) w := enters_of Tryd.func11 (by kernel_rfl) rfl
  have HIH := hide ih
  have HTN := hide ht
  have hme := tmuch_eq t
  have HKL : Hid (t.ks.length ≤ 100000) := by show _ ≤ _; omega
  have HMM := hide hm
  have HSZ := hide ht.size13
  have HK0 : Hid (cs[0]? = some (.int .i64 t.k)) := by
    obtain ⟨vy, vk, vi, rfl, _⟩ := ht.parts
    exact rfl
  clear ih ht hm hme
  have HW0 := hide (Rm.start w cs)
  have HZ0 : Hid (((w.alloc (.cells cs 29)).alloc (.cells zv 29)).heap.size = w.heap.size + 2) := by show _ = _; simp
  have HCB : Hid (∀ j u, cs[j]? = some u → ((w.alloc (.cells cs 29)).alloc (.cells zv 29)).cell? ⟨w.heap.size, 0 + j, none⟩ = some u) := fun j u hu => by rw [Nat.zero_add]; exact blk_cell HW0.out.p hu
  unfold zv at HW0 HZ0 HCB
  go_enter Tryd.func11, Tryd.ntmps11
  go_wp2_with (refine wpList_valAt rfl rfl w.heap.size 0 cs rfl HSZ.out HCB.out ?_)
  generalize (w.alloc (.cells cs 29)).alloc (.cells #[.int .i64 0, .bool false, .bool false, .int .u64 0, .int .u64 0, .string ⟨#[]⟩, .slice none 0 0, .int .i64 0, .int .u64 0, .int .u64 0, .string ⟨#[]⟩, .slice none 0 0, .slice none 0 0] 29) = w2 at *
  refine (remade_any 11 eF SrtR t HIH.out w2 cs (HTN.out.move (keep_below HW0.out.b)) HMM.out).mono ?_
  rintro e w3 ⟨c, js, rfl, hmd, hnt, hb3⟩
  have HMD := hide hmd
  have HW3 := hide (HW0.out.next hb3)
  have HNT : Hid (Ntv w3 (w.heap.size + 2) w3.heap.size (t.wi js) c) := hnt.mono (by rw [HZ0.out]; omega) (Nat.le_refl _)
  have HA1 := hide hnt.tin.all1
  have HS1 := hide hnt.size
  clear hmd hnt hb3 HW0 HCB HZ0
  have HIT := hide (itm_mk w3 c)
  have HG0 := hide (heap_alloc_new w3 (.cells zv 29))
  have HIN : Hid ((Tryd.prog.info? 29).map (·.size) = some c.size) := by show _ = _; rw [HS1.out]; exact infoV
  have HZV : Hid (zv.size = c.size) := by show _ = _; rw [HS1.out]; rfl
  have HW4 := hide (HW3.out.next HIT.out.b)
  have HN4 := hide (HNT.out.kept HIT.out.b)
  have q0 := blk_cell (j := 0) HW4.out.p HK0.out
  unfold zv at q0
  by_cases hk9 : t.k = 9
  · have g9 : (t.k == 9) = true := by rw [hk9]; rfl
    have HCX : Hid (∀ j u, cs[j]? = some u → ((w3.alloc (.cells zv 29)).setRow w3.heap.size c).cell? ⟨w.heap.size, 0 + j, none⟩ = some u) := fun j u hu => by rw [Nat.zero_add]; exact blk_cell HW4.out.p hu
    go_wp2_with (first
      | (refine wpList_storeRow rfl rfl w3.heap.size zv c 29 rfl rfl HG0.out HIN.out HZV.out HA1.out ?_)
      | (refine wpList_valAt rfl rfl w.heap.size 0 cs rfl HSZ.out HCX.out ?_))
    refine (order6_any t _ cs (HTN.out.move (keep_below HW4.out.b)) (by have := HKL.out; omega)).mono ?_
    rintro e w5 ⟨vp, ps, rfl, hpo, hsrp, hop, hb5⟩
    clear hpo
    have HW5 := hide (HW4.out.next hb5)
    have HN5 := hide (HN4.out.kept hb5)
    have HR5 : Hid (w5.heap[w3.heap.size]? = some (.cells c 29 (0, 0))) := (hb5.block _ (blk_lt HIT.out.r)).trans HIT.out.r
    have HZ5 : Hid (w3.heap.size < w5.heap.size) := blk_lt HR5.out
    have HSP := hide hsrp
    have hpl : ps.length ≤ 100000 := by have := hsrp.len; have := HKL.out; omega
    have HIS := hide (ISl.own hop rfl (by omega))
    obtain ⟨pa, pc, hvp⟩ := own_slice hop
    subst hvp
    clear hop hsrp hb5 HW4 HN4 HIT HG0 q0 HCX HZV HIN
    have HNk := hide HN5.out
    generalize htj : t.wi js = tj at HNk
    obtain ⟨_, vy, vk, vi, L, hbd, hyb, hy, hgy, hk, hgk, hkl, hks, hv, hgi, hil, hL, h13, hcs⟩ := HNk.out
    subst htj
    obtain ⟨ya, yc, hvy⟩ := own_slice hy
    obtain ⟨ka, kc, hvk⟩ := own_slice hk
    obtain ⟨ia, ic, hvi⟩ := own_slice hv
    subst hvy hvk hvi
    have HO1 : Hid (∀ c ∈ L, one13 c) := fun c hc => by
      obtain ⟨i, hi, e⟩ := List.getElem_of_mem hc
      have h1 : L[i]? = some c := by rw [List.getElem?_eq_getElem hi, e]
      exact (hcs i _ c (List.getElem?_eq_getElem (show i < js.length by have : L.length = js.length := hL; omega)) h1).one
    have HP1 : Hid (∀ wx, Below w5.heap.size w5 wx → Calls Tryd.prog 26 #[.slice ka t.ks.length kc, .slice pa ps.length pc] wx fun e w' => ∃ v', e = .returned v' ∧ w'.ownsRow wx.heap.size 9 1 v' ps.length (sv (pickS t.ks ps)) ∧ Below wx.heap.size wx w') := fun wx hb => pickedS_any wx _ _ t.ks ps ((SSl.own hk rfl hkl hks).move (keep_below hb)) (HIS.out.move (keep_below hb)) (fun p hp => by have := HSP.out.lt p hp; omega) hpl
    have HP2 : Hid (∀ wx, Below w5.heap.size w5 wx → Calls Tryd.prog 27 #[.slice ia js.length ic, .slice pa ps.length pc] wx fun e w' => ∃ v', e = .returned v' ∧ w'.ownsRow wx.heap.size 29 13 v' ps.length (vfl (pickL L ps)) ∧ Below wx.heap.size wx w') := fun wx hb => pickedV_any wx _ _ L ps _ (by rw [hL]; exact (Kp.of_below (S := fun _ => False) hb).owns hv (fun _ _ h => h)) HO1.out (HIS.out.move (keep_below hb)) (fun p hp => by have := HSP.out.lt p hp; have : L.length = js.length := hL; have := HMD.out.n; omega) hpl
    have HRB : Hid (∀ wx, Below w5.heap.size w5 wx → wx.heap[w3.heap.size]? = some (.cells (vcs (t.wi js) (.slice ya (t.wi js).y.length yc) (.slice ka (t.wi js).ks.length kc) (.slice ia (t.wi js).is.length ic)) 29 (0, 0))) := fun wx hb => (hb.block _ HZ5.out).trans HR5.out
    have HBD := hide hbd
    have HYB := hide hyb
    have HYO := hide hy
    have HYG := hide hgy
    have HKSZ := hide hks
    have HCS := hide hcs
    have HLL := hide hL
    have H13 := hide h13
    clear hbd hyb hy hgy hk hgk hkl hks hv hgi hil hL h13 hcs HNk
    have c11 : w5.cell? ⟨w3.heap.size, 11, none⟩ = some (.slice ka t.ks.length kc) := blk_cell HR5.out rfl
    have c12 : w5.cell? ⟨w3.heap.size, 12, none⟩ = some (.slice ia js.length ic) := blk_cell HR5.out rfl
    generalize hg3 : w3.heap.size = g3 at *
    have HG3 := hide hg3
    clear hg3
    have HB0 : Hid (Below w5.heap.size w5 w5.drew) := by
      refine Below.drew ?_
      exact Below.refl _ _
    have c11d : w5.drew.cell? ⟨g3, 11, none⟩ = some (.slice ka t.ks.length kc) := c11
    have c12d : w5.drew.cell? ⟨g3, 12, none⟩ = some (.slice ia js.length ic) := c12
    go_wp2_with fail
    refine heldStart (S := fun _ => True) (by kernel_rfl) ?_
    have hS : True := trivial
    refine heldTake 0 _ rfl (by kernel_rfl) (by kernel_rfl) (by kernel_rfl) (fun _ _ _ h => h) rfl hS (fun wy hy => by first | (go_simp; done) | (go_simp; rfl) | rfl) ?_
    (try simp only [Act.put]); (try simp only [List.setIfInBounds_toArray, List.set_cons_zero, List.set_cons_succ])
    refine heldTake 2 _ rfl (by kernel_rfl) (by kernel_rfl) (by kernel_rfl) (fun _ _ _ h => h) rfl hS (fun wy hy => by first | (go_simp; done) | (go_simp; rfl) | rfl) ?_
    (try simp only [Act.put]); (try simp only [List.setIfInBounds_toArray, List.set_cons_zero, List.set_cons_succ])
    refine heldTake 4 _ rfl (by kernel_rfl) (by kernel_rfl) (by kernel_rfl) (fun _ _ _ h => h) rfl hS (fun wy hy => by first | (go_simp; done) | (go_simp; rfl) | rfl) ?_
    (try simp only [Act.put]); (try simp only [List.setIfInBounds_toArray, List.set_cons_zero, List.set_cons_succ])
    refine heldTake 6 _ rfl (by kernel_rfl) (by kernel_rfl) (by kernel_rfl) (fun _ _ _ h => h) rfl hS (fun wy hy => by first | (go_simp; done) | (go_simp; rfl) | rfl) ?_
    (try simp only [Act.put]); (try simp only [List.setIfInBounds_toArray, List.set_cons_zero, List.set_cons_succ])
    refine wpAnyH_ready (rs := [1, 5]) (by kernel_rfl) (by simp) ?_
    refine AllReadyH.cons rfl (fun K hK => ?_) (AllReadyH.cons rfl (fun K hK => ?_) AllReadyH.nil)
    · go_simp
      refine (Shut.out hK) _ _ trivial (fun _ => ?_)
      clear hK K
      (try simp only [Act.put]); (try simp only [List.setIfInBounds_toArray, List.set_cons_zero, List.set_cons_succ])
      refine wpAnyH_ready (rs := [3, 5]) (by kernel_rfl) (by simp) ?_
      refine AllReadyH.cons rfl (fun K hK => ?_) (AllReadyH.cons rfl (fun K hK => ?_) AllReadyH.nil)
      · as_aux_lemma =>
        go_simp
        refine (HP1.out _ HB0.out).mono ?_
        rintro e wA ⟨vA, rfl, hoA, hbA⟩
        obtain ⟨kA, cA, hvA⟩ := own_slice hoA
        subst hvA
        have c12A : wA.cell? ⟨g3, 12, none⟩ = some (.slice ia js.length ic) := keep_below hbA _ _ c12d
        have hbA5 : Below w5.heap.size w5 wA := HB0.out.trans (hbA.mono HB0.out.size)
        refine (Shut.out hK) _ _ trivial (fun _ => ?_)
        clear hK K
        (try simp only [Act.put]); (try simp only [List.setIfInBounds_toArray, List.set_cons_zero, List.set_cons_succ])
        refine heldStep 5 rfl (by kernel_rfl) (fun K hK => ?_)
        go_simp
        refine (Hid.out hK) _ _ trivial (fun _ => ?_)
        clear hK K
        (try simp only [Act.put]); (try simp only [List.setIfInBounds_toArray, List.set_cons_zero, List.set_cons_succ])
        refine heldTake 8 _ rfl (by kernel_rfl) (by kernel_rfl) (by kernel_rfl) (fun _ _ _ h => h) rfl hS (fun wy hy => by first | (go_simp; done) | (go_simp; rfl) | rfl) ?_
        (try simp only [Act.put]); (try simp only [List.setIfInBounds_toArray, List.set_cons_zero, List.set_cons_succ])
        refine heldStep 7 rfl (by kernel_rfl) (fun K hK => ?_)
        go_simp
        refine (HP2.out _ hbA5).mono ?_
        rintro e wB ⟨vB, rfl, hoB, hbB⟩
        obtain ⟨kB, cB, hvB⟩ := own_slice hoB
        subst hvB
        refine (Hid.out hK) _ _ trivial (fun _ => ?_)
        clear hK K
        (try simp only [Act.put]); (try simp only [List.setIfInBounds_toArray, List.set_cons_zero, List.set_cons_succ])
        have hSB : (fun _ : World => True) wB := trivial
        have hb5B : Below w5.heap.size w5 wB := hbA5.trans (hbB.mono hbA5.size)
        have hzA := HB0.out.size
        have hzA2 := hbA.size
        have hzB := hbB.size
        have hRB := HRB.out wB hb5B
        have c11B := blk_cell (j := 11) hRB rfl
        have f11B := blk_frozen 11 hRB
        have hR1 := blk_set 11 (.slice kA ps.length cA) hRB
        have c12B : (wB.setCell ⟨g3, 11, none⟩ (.slice kA ps.length cA)).cell? ⟨g3, 12, none⟩ = some (.slice ia js.length ic) := blk_cell hR1 rfl
        have f12B := blk_frozen 12 hR1
        have hR2 := blk_set 12 (.slice kB ps.length cB) hR1
        have HR2 : Hid (((wB.setCell ⟨g3, 11, none⟩ (.slice kA ps.length cA)).setCell ⟨g3, 12, none⟩ (.slice kB ps.length cB)).heap[g3]? = some (.cells (vcs t (.slice ya t.y.length yc) (.slice kA ps.length cA) (.slice kB ps.length cB)) 29 (0, 0))) := hR2
        have hk1 : Kp (fun q => q = g3) wB (wB.setCell ⟨g3, 11, none⟩ (.slice kA ps.length cA)) := (Kp.refl _ _).setCell _ _ (fun _ => rfl)
        have hk2 : Kp (fun q => q = g3) wB ((wB.setCell ⟨g3, 11, none⟩ (.slice kA ps.length cA)).setCell ⟨g3, 12, none⟩ (.slice kB ps.length cB)) := hk1.setCell _ _ (fun _ => rfl)
        have hzs := hk2.size
        have HK2 := hide hk2
        have HOA : Hid (wB.ownsRow w5.heap.size 9 1 (.slice kA ps.length cA) ps.length (sv (pickS t.ks ps))) := own_mono ((Kp.of_below (S := fun _ => False) hbB).owns hoA (fun _ _ h => h)) hzA
        have HOB : Hid (wB.ownsRow w5.heap.size 29 13 (.slice kB ps.length cB) ps.length (vfl (pickL L ps))) := own_mono hoB (by omega)
        have HB5 := hide hb5B
        have HZS : Hid (w5.heap.size ≤ wB.heap.size ∧ wB.heap.size ≤ ((wB.setCell ⟨g3, 11, none⟩ (.slice kA ps.length cA)).setCell ⟨g3, 12, none⟩ (.slice kB ps.length cB)).heap.size) := ⟨hb5B.size, hzs⟩
        clear hRB hR1 hR2 hk1 hk2 hoA hoB hbA hbB hb5B hbA5 hzA hzA2 hzB hzs c11 c12 c11d c12d c12A
        refine heldStep 9 rfl (by kernel_rfl) (fun K hK => ?_)
        go_simp
        refine (Hid.out hK) _ _ trivial (fun _ => ?_)
        clear hK K
        (try simp only [Act.put]); (try simp only [List.setIfInBounds_toArray, List.set_cons_zero, List.set_cons_succ])
        refine heldTake 10 _ rfl (by kernel_rfl) (by kernel_rfl) (by kernel_rfl) (fun _ _ _ h => h) rfl hS (fun wy hy => by first | (go_simp; done) | (go_simp; rfl) | rfl) ?_
        (try simp only [Act.put]); (try simp only [List.setIfInBounds_toArray, List.set_cons_zero, List.set_cons_succ])
        refine heldStep 11 rfl (by kernel_rfl) (fun K hK => ?_)
        go_simp
        refine (Hid.out hK) _ _ trivial (fun _ => ?_)
        clear hK K
        (try simp only [Act.put]); (try simp only [List.setIfInBounds_toArray, List.set_cons_zero, List.set_cons_succ])
        refine heldDone (by kernel_rfl) ?_
        clear c11B f11B c12B f12B
        have hz := HZS.out
        have hg5 := HZ5.out
        have hg3 : w.heap.size + 2 ≤ g3 := by have := HW3.out.z; have := HG3.out; omega
        have HK5 : Hid (Kp (fun q => q = g3) w5 ((wB.setCell ⟨g3, 11, none⟩ (.slice kA ps.length cA)).setCell ⟨g3, 12, none⟩ (.slice kB ps.length cB))) := (Kp.of_below HB5.out).trans HK2.out (fun _ _ h => h)
        have HNT : Hid (Ntv ((wB.setCell ⟨g3, 11, none⟩ (.slice kA ps.length cA)).setCell ⟨g3, 12, none⟩ (.slice kB ps.length cB)) (w.heap.size + 2) ((wB.setCell ⟨g3, 11, none⟩ (.slice kA ps.length cA)).setCell ⟨g3, 12, none⟩ (.slice kB ps.length cB)).heap.size (t.wp js ps) (vcs t (.slice ya t.y.length yc) (.slice kA ps.length cA) (.slice kB ps.length cB))) := by
          refine ntv_pick ⟨HBD.out.n, HBD.out.b, HBD.out.s, HBD.out.y, HBD.out.l, HBD.out.d⟩ HYB.out ?_ ?_ ?_ ?_ ?_ ?_ hpl HKSZ.out (fun p hp => by have := HSP.out.lt p hp; omega) (fun p hp => by have := HSP.out.lt p hp; have := HMD.out.n; omega) HLL.out H13.out HK5.out HCS.out (by omega)
          · exact HK5.out.owns HYO.out (fun q hq e => by have := HYG.out q hq; omega)
          · intro q hq
            have := HYG.out q hq
            omega
          · exact own_mono (HK2.out.owns HOA.out (fun q hq e => by have := HOA.out.lt q hq; omega)) (by omega)
          · intro q hq
            have := HOA.out.lt q hq
            omega
          · exact own_mono (HK2.out.owns HOB.out (fun q hq e => by have := HOB.out.lt q hq; omega)) (by omega)
          · intro q hq
            have := HOB.out.lt q hq
            omega
        have HXL : Hid (∀ j v, (vcs t (.slice ya t.y.length yc) (.slice kA ps.length cA) (.slice kB ps.length cB))[j]? = some v → ((wB.setCell ⟨g3, 11, none⟩ (.slice kA ps.length cA)).setCell ⟨g3, 12, none⟩ (.slice kB ps.length cB)).cell? ⟨g3, 0 + j, none⟩ = some v) := fun j v hv => by
          rw [Nat.zero_add]
          exact blk_cell HR2.out hv
        have HONA := hide HNT.out.tin.all1
        have HIN : Hid ((Tryd.prog.info? 29).map (·.size) = some (vcs t (.slice ya t.y.length yc) (.slice kA ps.length cA) (.slice kB ps.length cB)).size) := infoV
        have HRR : Hid (((wB.setCell ⟨g3, 11, none⟩ (.slice kA ps.length cA)).setCell ⟨g3, 12, none⟩ (.slice kB ps.length cB)).heap[w.heap.size + 1]? = some (.cells zv 29 (0, 0))) := (HK5.out.block _ (by omega) (fun e => by omega)).trans HW5.out.r
        have HZV : Hid (zv.size = (vcs t (.slice ya t.y.length yc) (.slice kA ps.length cA) (.slice kB ps.length cB)).size) := rfl
        have HBF : Hid (Below w.heap.size w ((wB.setCell ⟨g3, 11, none⟩ (.slice kA ps.length cA)).setCell ⟨g3, 12, none⟩ (.slice kB ps.length cB))) := HW5.out.b.trans (HK5.out.below HW5.out.b.size (fun q e => by omega))
        clear hz hg5 hg3
        go_wp2_with (first
          | (refine wpList_valAt rfl rfl g3 0 (vcs t (.slice ya t.y.length yc) (.slice kA ps.length cA) (.slice kB ps.length cB)) rfl rfl HXL.out ?_)
          | (refine wpList_storeRow rfl rfl (w.heap.size + 1) zv (vcs t (.slice ya t.y.length yc) (.slice kA ps.length cA) (.slice kB ps.length cB)) 29 rfl rfl HRR.out HIN.out HZV.out HONA.out ?_))
        have hkr := row_kp ((wB.setCell ⟨g3, 11, none⟩ (.slice kA ps.length cA)).setCell ⟨g3, 12, none⟩ (.slice kB ps.length cB)) (w.heap.size + 1) (vcs t (.slice ya t.y.length yc) (.slice kA ps.length cA) (.slice kB ps.length cB))
        have hzr := hkr.size
        exact bodyPost_ret (end_so rfl (row_same HRR.out) rfl) rfl ⟨_, rfl, t.wp js ps, srt_pick hk9 HMD.out HSP.out, (HNT.out.kp hkr (fun q h1 h2 e => by omega)).mono (by omega) hzr, HBF.out.trans (hkr.below HBF.out.size (fun q e => by omega))⟩
      · as_aux_lemma =>
        go_simp
        refine (Shut.out hK) _ _ trivial (fun _ => ?_)
        clear hK K
        (try simp only [Act.put]); (try simp only [List.setIfInBounds_toArray, List.set_cons_zero, List.set_cons_succ])
        refine heldStep 3 rfl (by kernel_rfl) (fun K hK => ?_)
        go_simp
        refine (HP1.out _ HB0.out).mono ?_
        rintro e wA ⟨vA, rfl, hoA, hbA⟩
        obtain ⟨kA, cA, hvA⟩ := own_slice hoA
        subst hvA
        have c12A : wA.cell? ⟨g3, 12, none⟩ = some (.slice ia js.length ic) := keep_below hbA _ _ c12d
        have hbA5 : Below w5.heap.size w5 wA := HB0.out.trans (hbA.mono HB0.out.size)
        refine (Hid.out hK) _ _ trivial (fun _ => ?_)
        clear hK K
        (try simp only [Act.put]); (try simp only [List.setIfInBounds_toArray, List.set_cons_zero, List.set_cons_succ])
        refine heldTake 8 _ rfl (by kernel_rfl) (by kernel_rfl) (by kernel_rfl) (fun _ _ _ h => h) rfl hS (fun wy hy => by first | (go_simp; done) | (go_simp; rfl) | rfl) ?_
        (try simp only [Act.put]); (try simp only [List.setIfInBounds_toArray, List.set_cons_zero, List.set_cons_succ])
        refine heldStep 7 rfl (by kernel_rfl) (fun K hK => ?_)
        go_simp
        refine (HP2.out _ hbA5).mono ?_
        rintro e wB ⟨vB, rfl, hoB, hbB⟩
        obtain ⟨kB, cB, hvB⟩ := own_slice hoB
        subst hvB
        refine (Hid.out hK) _ _ trivial (fun _ => ?_)
        clear hK K
        (try simp only [Act.put]); (try simp only [List.setIfInBounds_toArray, List.set_cons_zero, List.set_cons_succ])
        have hSB : (fun _ : World => True) wB := trivial
        have hb5B : Below w5.heap.size w5 wB := hbA5.trans (hbB.mono hbA5.size)
        have hzA := HB0.out.size
        have hzA2 := hbA.size
        have hzB := hbB.size
        have hRB := HRB.out wB hb5B
        have c11B := blk_cell (j := 11) hRB rfl
        have f11B := blk_frozen 11 hRB
        have hR1 := blk_set 11 (.slice kA ps.length cA) hRB
        have c12B : (wB.setCell ⟨g3, 11, none⟩ (.slice kA ps.length cA)).cell? ⟨g3, 12, none⟩ = some (.slice ia js.length ic) := blk_cell hR1 rfl
        have f12B := blk_frozen 12 hR1
        have hR2 := blk_set 12 (.slice kB ps.length cB) hR1
        have HR2 : Hid (((wB.setCell ⟨g3, 11, none⟩ (.slice kA ps.length cA)).setCell ⟨g3, 12, none⟩ (.slice kB ps.length cB)).heap[g3]? = some (.cells (vcs t (.slice ya t.y.length yc) (.slice kA ps.length cA) (.slice kB ps.length cB)) 29 (0, 0))) := hR2
        have hk1 : Kp (fun q => q = g3) wB (wB.setCell ⟨g3, 11, none⟩ (.slice kA ps.length cA)) := (Kp.refl _ _).setCell _ _ (fun _ => rfl)
        have hk2 : Kp (fun q => q = g3) wB ((wB.setCell ⟨g3, 11, none⟩ (.slice kA ps.length cA)).setCell ⟨g3, 12, none⟩ (.slice kB ps.length cB)) := hk1.setCell _ _ (fun _ => rfl)
        have hzs := hk2.size
        have HK2 := hide hk2
        have HOA : Hid (wB.ownsRow w5.heap.size 9 1 (.slice kA ps.length cA) ps.length (sv (pickS t.ks ps))) := own_mono ((Kp.of_below (S := fun _ => False) hbB).owns hoA (fun _ _ h => h)) hzA
        have HOB : Hid (wB.ownsRow w5.heap.size 29 13 (.slice kB ps.length cB) ps.length (vfl (pickL L ps))) := own_mono hoB (by omega)
        have HB5 := hide hb5B
        have HZS : Hid (w5.heap.size ≤ wB.heap.size ∧ wB.heap.size ≤ ((wB.setCell ⟨g3, 11, none⟩ (.slice kA ps.length cA)).setCell ⟨g3, 12, none⟩ (.slice kB ps.length cB)).heap.size) := ⟨hb5B.size, hzs⟩
        clear hRB hR1 hR2 hk1 hk2 hoA hoB hbA hbB hb5B hbA5 hzA hzA2 hzB hzs c11 c12 c11d c12d c12A
        refine heldStep 9 rfl (by kernel_rfl) (fun K hK => ?_)
        go_simp
        refine (Hid.out hK) _ _ trivial (fun _ => ?_)
        clear hK K
        (try simp only [Act.put]); (try simp only [List.setIfInBounds_toArray, List.set_cons_zero, List.set_cons_succ])
        refine heldTake 10 _ rfl (by kernel_rfl) (by kernel_rfl) (by kernel_rfl) (fun _ _ _ h => h) rfl hS (fun wy hy => by first | (go_simp; done) | (go_simp; rfl) | rfl) ?_
        (try simp only [Act.put]); (try simp only [List.setIfInBounds_toArray, List.set_cons_zero, List.set_cons_succ])
        refine heldStep 11 rfl (by kernel_rfl) (fun K hK => ?_)
        go_simp
        refine (Hid.out hK) _ _ trivial (fun _ => ?_)
        clear hK K
        (try simp only [Act.put]); (try simp only [List.setIfInBounds_toArray, List.set_cons_zero, List.set_cons_succ])
        refine heldDone (by kernel_rfl) ?_
        clear c11B f11B c12B f12B
        have hz := HZS.out
        have hg5 := HZ5.out
        have hg3 : w.heap.size + 2 ≤ g3 := by have := HW3.out.z; have := HG3.out; omega
        have HK5 : Hid (Kp (fun q => q = g3) w5 ((wB.setCell ⟨g3, 11, none⟩ (.slice kA ps.length cA)).setCell ⟨g3, 12, none⟩ (.slice kB ps.length cB))) := (Kp.of_below HB5.out).trans HK2.out (fun _ _ h => h)
        have HNT : Hid (Ntv ((wB.setCell ⟨g3, 11, none⟩ (.slice kA ps.length cA)).setCell ⟨g3, 12, none⟩ (.slice kB ps.length cB)) (w.heap.size + 2) ((wB.setCell ⟨g3, 11, none⟩ (.slice kA ps.length cA)).setCell ⟨g3, 12, none⟩ (.slice kB ps.length cB)).heap.size (t.wp js ps) (vcs t (.slice ya t.y.length yc) (.slice kA ps.length cA) (.slice kB ps.length cB))) := by
          refine ntv_pick ⟨HBD.out.n, HBD.out.b, HBD.out.s, HBD.out.y, HBD.out.l, HBD.out.d⟩ HYB.out ?_ ?_ ?_ ?_ ?_ ?_ hpl HKSZ.out (fun p hp => by have := HSP.out.lt p hp; omega) (fun p hp => by have := HSP.out.lt p hp; have := HMD.out.n; omega) HLL.out H13.out HK5.out HCS.out (by omega)
          · exact HK5.out.owns HYO.out (fun q hq e => by have := HYG.out q hq; omega)
          · intro q hq
            have := HYG.out q hq
            omega
          · exact own_mono (HK2.out.owns HOA.out (fun q hq e => by have := HOA.out.lt q hq; omega)) (by omega)
          · intro q hq
            have := HOA.out.lt q hq
            omega
          · exact own_mono (HK2.out.owns HOB.out (fun q hq e => by have := HOB.out.lt q hq; omega)) (by omega)
          · intro q hq
            have := HOB.out.lt q hq
            omega
        have HXL : Hid (∀ j v, (vcs t (.slice ya t.y.length yc) (.slice kA ps.length cA) (.slice kB ps.length cB))[j]? = some v → ((wB.setCell ⟨g3, 11, none⟩ (.slice kA ps.length cA)).setCell ⟨g3, 12, none⟩ (.slice kB ps.length cB)).cell? ⟨g3, 0 + j, none⟩ = some v) := fun j v hv => by
          rw [Nat.zero_add]
          exact blk_cell HR2.out hv
        have HONA := hide HNT.out.tin.all1
        have HIN : Hid ((Tryd.prog.info? 29).map (·.size) = some (vcs t (.slice ya t.y.length yc) (.slice kA ps.length cA) (.slice kB ps.length cB)).size) := infoV
        have HRR : Hid (((wB.setCell ⟨g3, 11, none⟩ (.slice kA ps.length cA)).setCell ⟨g3, 12, none⟩ (.slice kB ps.length cB)).heap[w.heap.size + 1]? = some (.cells zv 29 (0, 0))) := (HK5.out.block _ (by omega) (fun e => by omega)).trans HW5.out.r
        have HZV : Hid (zv.size = (vcs t (.slice ya t.y.length yc) (.slice kA ps.length cA) (.slice kB ps.length cB)).size) := rfl
        have HBF : Hid (Below w.heap.size w ((wB.setCell ⟨g3, 11, none⟩ (.slice kA ps.length cA)).setCell ⟨g3, 12, none⟩ (.slice kB ps.length cB))) := HW5.out.b.trans (HK5.out.below HW5.out.b.size (fun q e => by omega))
        clear hz hg5 hg3
        go_wp2_with (first
          | (refine wpList_valAt rfl rfl g3 0 (vcs t (.slice ya t.y.length yc) (.slice kA ps.length cA) (.slice kB ps.length cB)) rfl rfl HXL.out ?_)
          | (refine wpList_storeRow rfl rfl (w.heap.size + 1) zv (vcs t (.slice ya t.y.length yc) (.slice kA ps.length cA) (.slice kB ps.length cB)) 29 rfl rfl HRR.out HIN.out HZV.out HONA.out ?_))
        have hkr := row_kp ((wB.setCell ⟨g3, 11, none⟩ (.slice kA ps.length cA)).setCell ⟨g3, 12, none⟩ (.slice kB ps.length cB)) (w.heap.size + 1) (vcs t (.slice ya t.y.length yc) (.slice kA ps.length cA) (.slice kB ps.length cB))
        have hzr := hkr.size
        exact bodyPost_ret (end_so rfl (row_same HRR.out) rfl) rfl ⟨_, rfl, t.wp js ps, srt_pick hk9 HMD.out HSP.out, (HNT.out.kp hkr (fun q h1 h2 e => by omega)).mono (by omega) hzr, HBF.out.trans (hkr.below HBF.out.size (fun q e => by omega))⟩
    · as_aux_lemma =>
      go_simp
      refine (Shut.out hK) _ _ trivial (fun _ => ?_)
      clear hK K
      (try simp only [Act.put]); (try simp only [List.setIfInBounds_toArray, List.set_cons_zero, List.set_cons_succ])
      refine heldStep 1 rfl (by kernel_rfl) (fun K hK => ?_)
      go_simp
      refine (Hid.out hK) _ _ trivial (fun _ => ?_)
      clear hK K
      (try simp only [Act.put]); (try simp only [List.setIfInBounds_toArray, List.set_cons_zero, List.set_cons_succ])
      refine heldStep 3 rfl (by kernel_rfl) (fun K hK => ?_)
      go_simp
      refine (HP1.out _ HB0.out).mono ?_
      rintro e wA ⟨vA, rfl, hoA, hbA⟩
      obtain ⟨kA, cA, hvA⟩ := own_slice hoA
      subst hvA
      have c12A : wA.cell? ⟨g3, 12, none⟩ = some (.slice ia js.length ic) := keep_below hbA _ _ c12d
      have hbA5 : Below w5.heap.size w5 wA := HB0.out.trans (hbA.mono HB0.out.size)
      refine (Hid.out hK) _ _ trivial (fun _ => ?_)
      clear hK K
      (try simp only [Act.put]); (try simp only [List.setIfInBounds_toArray, List.set_cons_zero, List.set_cons_succ])
      refine heldTake 8 _ rfl (by kernel_rfl) (by kernel_rfl) (by kernel_rfl) (fun _ _ _ h => h) rfl hS (fun wy hy => by first | (go_simp; done) | (go_simp; rfl) | rfl) ?_
      (try simp only [Act.put]); (try simp only [List.setIfInBounds_toArray, List.set_cons_zero, List.set_cons_succ])
      refine heldStep 7 rfl (by kernel_rfl) (fun K hK => ?_)
      go_simp
      refine (HP2.out _ hbA5).mono ?_
      rintro e wB ⟨vB, rfl, hoB, hbB⟩
      obtain ⟨kB, cB, hvB⟩ := own_slice hoB
      subst hvB
      refine (Hid.out hK) _ _ trivial (fun _ => ?_)
      clear hK K
      (try simp only [Act.put]); (try simp only [List.setIfInBounds_toArray, List.set_cons_zero, List.set_cons_succ])
      have hSB : (fun _ : World => True) wB := trivial
      have hb5B : Below w5.heap.size w5 wB := hbA5.trans (hbB.mono hbA5.size)
      have hzA := HB0.out.size
      have hzA2 := hbA.size
      have hzB := hbB.size
      have hRB := HRB.out wB hb5B
      have c11B := blk_cell (j := 11) hRB rfl
      have f11B := blk_frozen 11 hRB
      have hR1 := blk_set 11 (.slice kA ps.length cA) hRB
      have c12B : (wB.setCell ⟨g3, 11, none⟩ (.slice kA ps.length cA)).cell? ⟨g3, 12, none⟩ = some (.slice ia js.length ic) := blk_cell hR1 rfl
      have f12B := blk_frozen 12 hR1
      have hR2 := blk_set 12 (.slice kB ps.length cB) hR1
      have HR2 : Hid (((wB.setCell ⟨g3, 11, none⟩ (.slice kA ps.length cA)).setCell ⟨g3, 12, none⟩ (.slice kB ps.length cB)).heap[g3]? = some (.cells (vcs t (.slice ya t.y.length yc) (.slice kA ps.length cA) (.slice kB ps.length cB)) 29 (0, 0))) := hR2
      have hk1 : Kp (fun q => q = g3) wB (wB.setCell ⟨g3, 11, none⟩ (.slice kA ps.length cA)) := (Kp.refl _ _).setCell _ _ (fun _ => rfl)
      have hk2 : Kp (fun q => q = g3) wB ((wB.setCell ⟨g3, 11, none⟩ (.slice kA ps.length cA)).setCell ⟨g3, 12, none⟩ (.slice kB ps.length cB)) := hk1.setCell _ _ (fun _ => rfl)
      have hzs := hk2.size
      have HK2 := hide hk2
      have HOA : Hid (wB.ownsRow w5.heap.size 9 1 (.slice kA ps.length cA) ps.length (sv (pickS t.ks ps))) := own_mono ((Kp.of_below (S := fun _ => False) hbB).owns hoA (fun _ _ h => h)) hzA
      have HOB : Hid (wB.ownsRow w5.heap.size 29 13 (.slice kB ps.length cB) ps.length (vfl (pickL L ps))) := own_mono hoB (by omega)
      have HB5 := hide hb5B
      have HZS : Hid (w5.heap.size ≤ wB.heap.size ∧ wB.heap.size ≤ ((wB.setCell ⟨g3, 11, none⟩ (.slice kA ps.length cA)).setCell ⟨g3, 12, none⟩ (.slice kB ps.length cB)).heap.size) := ⟨hb5B.size, hzs⟩
      clear hRB hR1 hR2 hk1 hk2 hoA hoB hbA hbB hb5B hbA5 hzA hzA2 hzB hzs c11 c12 c11d c12d c12A
      refine heldStep 9 rfl (by kernel_rfl) (fun K hK => ?_)
      go_simp
      refine (Hid.out hK) _ _ trivial (fun _ => ?_)
      clear hK K
      (try simp only [Act.put]); (try simp only [List.setIfInBounds_toArray, List.set_cons_zero, List.set_cons_succ])
      refine heldTake 10 _ rfl (by kernel_rfl) (by kernel_rfl) (by kernel_rfl) (fun _ _ _ h => h) rfl hS (fun wy hy => by first | (go_simp; done) | (go_simp; rfl) | rfl) ?_
      (try simp only [Act.put]); (try simp only [List.setIfInBounds_toArray, List.set_cons_zero, List.set_cons_succ])
      refine heldStep 11 rfl (by kernel_rfl) (fun K hK => ?_)
      go_simp
      refine (Hid.out hK) _ _ trivial (fun _ => ?_)
      clear hK K
      (try simp only [Act.put]); (try simp only [List.setIfInBounds_toArray, List.set_cons_zero, List.set_cons_succ])
      refine heldDone (by kernel_rfl) ?_
      clear c11B f11B c12B f12B
      have hz := HZS.out
      have hg5 := HZ5.out
      have hg3 : w.heap.size + 2 ≤ g3 := by have := HW3.out.z; have := HG3.out; omega
      have HK5 : Hid (Kp (fun q => q = g3) w5 ((wB.setCell ⟨g3, 11, none⟩ (.slice kA ps.length cA)).setCell ⟨g3, 12, none⟩ (.slice kB ps.length cB))) := (Kp.of_below HB5.out).trans HK2.out (fun _ _ h => h)
      have HNT : Hid (Ntv ((wB.setCell ⟨g3, 11, none⟩ (.slice kA ps.length cA)).setCell ⟨g3, 12, none⟩ (.slice kB ps.length cB)) (w.heap.size + 2) ((wB.setCell ⟨g3, 11, none⟩ (.slice kA ps.length cA)).setCell ⟨g3, 12, none⟩ (.slice kB ps.length cB)).heap.size (t.wp js ps) (vcs t (.slice ya t.y.length yc) (.slice kA ps.length cA) (.slice kB ps.length cB))) := by
        refine ntv_pick ⟨HBD.out.n, HBD.out.b, HBD.out.s, HBD.out.y, HBD.out.l, HBD.out.d⟩ HYB.out ?_ ?_ ?_ ?_ ?_ ?_ hpl HKSZ.out (fun p hp => by have := HSP.out.lt p hp; omega) (fun p hp => by have := HSP.out.lt p hp; have := HMD.out.n; omega) HLL.out H13.out HK5.out HCS.out (by omega)
        · exact HK5.out.owns HYO.out (fun q hq e => by have := HYG.out q hq; omega)
        · intro q hq
          have := HYG.out q hq
          omega
        · exact own_mono (HK2.out.owns HOA.out (fun q hq e => by have := HOA.out.lt q hq; omega)) (by omega)
        · intro q hq
          have := HOA.out.lt q hq
          omega
        · exact own_mono (HK2.out.owns HOB.out (fun q hq e => by have := HOB.out.lt q hq; omega)) (by omega)
        · intro q hq
          have := HOB.out.lt q hq
          omega
      have HXL : Hid (∀ j v, (vcs t (.slice ya t.y.length yc) (.slice kA ps.length cA) (.slice kB ps.length cB))[j]? = some v → ((wB.setCell ⟨g3, 11, none⟩ (.slice kA ps.length cA)).setCell ⟨g3, 12, none⟩ (.slice kB ps.length cB)).cell? ⟨g3, 0 + j, none⟩ = some v) := fun j v hv => by
        rw [Nat.zero_add]
        exact blk_cell HR2.out hv
      have HONA := hide HNT.out.tin.all1
      have HIN : Hid ((Tryd.prog.info? 29).map (·.size) = some (vcs t (.slice ya t.y.length yc) (.slice kA ps.length cA) (.slice kB ps.length cB)).size) := infoV
      have HRR : Hid (((wB.setCell ⟨g3, 11, none⟩ (.slice kA ps.length cA)).setCell ⟨g3, 12, none⟩ (.slice kB ps.length cB)).heap[w.heap.size + 1]? = some (.cells zv 29 (0, 0))) := (HK5.out.block _ (by omega) (fun e => by omega)).trans HW5.out.r
      have HZV : Hid (zv.size = (vcs t (.slice ya t.y.length yc) (.slice kA ps.length cA) (.slice kB ps.length cB)).size) := rfl
      have HBF : Hid (Below w.heap.size w ((wB.setCell ⟨g3, 11, none⟩ (.slice kA ps.length cA)).setCell ⟨g3, 12, none⟩ (.slice kB ps.length cB))) := HW5.out.b.trans (HK5.out.below HW5.out.b.size (fun q e => by omega))
      clear hz hg5 hg3
      go_wp2_with (first
        | (refine wpList_valAt rfl rfl g3 0 (vcs t (.slice ya t.y.length yc) (.slice kA ps.length cA) (.slice kB ps.length cB)) rfl rfl HXL.out ?_)
        | (refine wpList_storeRow rfl rfl (w.heap.size + 1) zv (vcs t (.slice ya t.y.length yc) (.slice kA ps.length cA) (.slice kB ps.length cB)) 29 rfl rfl HRR.out HIN.out HZV.out HONA.out ?_))
      have hkr := row_kp ((wB.setCell ⟨g3, 11, none⟩ (.slice kA ps.length cA)).setCell ⟨g3, 12, none⟩ (.slice kB ps.length cB)) (w.heap.size + 1) (vcs t (.slice ya t.y.length yc) (.slice kA ps.length cA) (.slice kB ps.length cB))
      have hzr := hkr.size
      exact bodyPost_ret (end_so rfl (row_same HRR.out) rfl) rfl ⟨_, rfl, t.wp js ps, srt_pick hk9 HMD.out HSP.out, (HNT.out.kp hkr (fun q h1 h2 e => by omega)).mono (by omega) hzr, HBF.out.trans (hkr.below HBF.out.size (fun q e => by omega))⟩
  · as_aux_lemma =>
    have g9 : (t.k == 9) = false := by simpa using hk9
    have HCX : Hid (∀ j u, c[j]? = some u → ((w3.alloc (.cells zv 29)).setRow w3.heap.size c).cell? ⟨w3.heap.size, 0 + j, none⟩ = some u) := HIT.out.cells
    have HR4 := hide HW4.out.r
    go_wp2_with (first
      | (refine wpList_storeRow rfl rfl w3.heap.size zv c 29 rfl rfl HG0.out HIN.out HZV.out HA1.out ?_)
      | (refine wpList_valAt rfl rfl w3.heap.size 0 c rfl HS1.out HCX.out ?_)
      | (refine wpList_storeRow rfl rfl (w.heap.size + 1) zv c 29 rfl rfl HR4.out HIN.out HZV.out HA1.out ?_))
    have hkr := row_kp ((w3.alloc (.cells zv 29)).setRow w3.heap.size c) (w.heap.size + 1) c
    have hzr := hkr.size
    have hz4 := HIT.out.z
    have hz3 := HW3.out.z
    have hfin : w3.heap.size ≤ (((w3.alloc (.cells zv 29)).setRow w3.heap.size c).setRow (w.heap.size + 1) c).heap.size := by omega
    refine bodyPost_ret (end_so HS1.out (row_same HR4.out) rfl) rfl ⟨_, t.wi js, rfl, SrtR.rest t (t.wi js) hk9 ⟨rfl, rfl, rfl, rfl, rfl, rfl, rfl, rfl⟩ rfl HMD.out.n HMD.out.r, (HN4.out.kp hkr (fun q h1 h2 e => by omega)).mono (by omega) hfin, HW4.out.b.trans (hkr.below HW4.out.b.size (fun q e => by omega))⟩
end
section
open Go.RowKit Go
/-! Sorted values, plainly. -/
/-- What of a tree the order of its entries hangs on. -/
inductive Trk : Tv → Prop
  | mk (t : Tv) (h9 : t.k = 9 → t.ks.length = t.is.length ∧ t.ks.Nodup ∧ t.f = false ∧ t.g = false ∧ t.n = 0 ∧ t.b = 0 ∧ t.s = ⟨#[]⟩ ∧ t.y = [] ∧ t.l = ⟨0, 0, 0, []⟩) (hn : t.k ≠ 9 → t.ks = []) (hi : ∀ u ∈ t.is, Trk u) : Trk t
theorem Trk.m {t : Tv} (h : Trk t) (h9 : t.k = 9) : t.ks.length = t.is.length ∧ t.ks.Nodup ∧ t.f = false ∧ t.g = false ∧ t.n = 0 ∧ t.b = 0 ∧ t.s = ⟨#[]⟩ ∧ t.y = [] ∧ t.l = ⟨0, 0, 0, []⟩ := by
  cases h with
  | mk _ a b c => exact a h9
theorem Trk.e {t : Tv} (h : Trk t) (h9 : t.k ≠ 9) : t.ks = [] := by
  cases h with
  | mk _ a b c => exact b h9
theorem Trk.i {t : Tv} (h : Trk t) : ∀ u ∈ t.is, Trk u := by
  cases h with
  | mk _ a b c => exact c
/-- The same tree, whatever the order of maps' entries. -/
def Teq (a b : Tv) : Prop := ∃ s, SrtR a s ∧ SrtR b s
theorem blt_tot : ∀ (x y : List Nat), x.length = y.length → blt x y = false → blt y x = false → x = y
  | [], [], _, _, _ => rfl
  | [], _ :: _, h, _, _ => by simp at h
  | _ :: _, [], h, _, _ => by simp at h
  | a :: x, b :: y, h, h1, h2 => by
    simp only [blt] at h1 h2
    by_cases e : a = b
    · rw [if_pos e] at h1
      rw [if_pos e.symm] at h2
      rw [e, blt_tot x y (by simpa using h) h1 h2]
    · rw [if_neg e] at h1
      rw [if_neg (fun h => e h.symm)] at h2
      simp at h1 h2
      omega
theorem bfr_tot {x y : List Nat} (h1 : bfr x y = false) (h2 : bfr y x = false) : x = y := by
  unfold bfr at *
  by_cases e : x.length = y.length
  · rw [if_pos e] at h1
    rw [if_pos e.symm] at h2
    exact blt_tot x y e h1 h2
  · rw [if_neg e] at h1
    rw [if_neg (fun h => e h.symm)] at h2
    simp at h1 h2
    omega
theorem sl_inj {s t : ByteArray} (h : sl s = sl t) : s = t := by rw [← nstr_sl s, h, nstr_sl]
theorem nodup_at {ks : List ByteArray} (h : ks.Nodup) {i j : Nat} (hi : i < ks.length) (hj : j < ks.length) (e : ks.getD i ⟨#[]⟩ = ks.getD j ⟨#[]⟩) : i = j := by
  simp only [List.getD, List.getElem?_eq_getElem hi, List.getElem?_eq_getElem hj, Option.getD_some] at e
  have hp := List.pairwise_iff_getElem.1 h
  rcases Nat.lt_trichotomy i j with hij | hij | hij
  · exact absurd e (hp i j hi hj hij)
  · exact hij
  · exact absurd e.symm (hp j i hj hi hij)
theorem Srp.pw {ks : List ByteArray} {n : Nat} {ps : List Nat} (h : Srp ks n ps) : ps.Pairwise (fun p q => bfr (sl (ks.getD q ⟨#[]⟩)) (sl (ks.getD p ⟨#[]⟩)) = false) := by
  rw [List.pairwise_iff_getElem]
  intro i j hi hj hij
  exact h.s i j _ _ hij (List.getElem?_eq_getElem hi) (List.getElem?_eq_getElem hj)
/-- Where no key stands twice there is one order. -/
theorem srp_one {ks : List ByteArray} {n : Nat} {ps qs : List Nat} (hnd : ks.Nodup) (hl : n ≤ ks.length) (h1 : Srp ks n ps) (h2 : Srp ks n qs) : ps = qs := by
  refine List.Perm.eq_of_pairwise (le := fun p q => bfr (sl (ks.getD q ⟨#[]⟩)) (sl (ks.getD p ⟨#[]⟩)) = false) ?_ h1.pw h2.pw (h1.p.trans h2.p.symm)
  intro a b ha hb hab hba
  have e := sl_inj (bfr_tot hab hba)
  have la := h1.lt a ha
  have lb := h2.lt b hb
  exact (nodup_at hnd (by omega) (by omega) e).symm
/-- A list of things that are there one by one. -/
theorem list_of {α : Type} (n : Nat) (P : Nat → α → Prop) (h : ∀ i, i < n → ∃ v, P i v) : ∃ l : List α, l.length = n ∧ ∀ (i : Nat) (v : α), l[i]? = some v → P i v := by
  induction n with
  | zero => exact ⟨[], rfl, fun i v h => by simp at h⟩
  | succ n ih =>
    obtain ⟨l, hl, hp⟩ := ih (fun i hi => h i (by omega))
    obtain ⟨v, hv⟩ := h n (by omega)
    refine ⟨l ++ [v], by simp [hl], fun i u hu => ?_⟩
    rcases Nat.lt_or_ge i l.length with h1 | h1
    · rw [List.getElem?_append_left h1] at hu
      exact hp i u hu
    · rw [List.getElem?_append_right h1] at hu
      have e : i - l.length = 0 := by
        rcases Nat.eq_zero_or_pos (i - l.length) with e | e
        · exact e
        · rw [List.getElem?_eq_none (by simp; omega)] at hu
          cases hu
      rw [e] at hu
      simp at hu
      subst hu
      have : i = n := by omega
      subst this
      exact hv
theorem SrtR.top {t s : Tv} (h : SrtR t s) : Top t s := by
  cases h with
  | rest _ _ _ ht => exact ht
  | map _ _ _ _ ht => exact ht
theorem teq_rest {a b : Tv} (h9 : a.k ≠ 9) (ht : Top a b) (hka : a.ks = []) (hkb : b.ks = []) (hn : a.is.length = b.is.length) (hi : ∀ (i : Nat) (u v : Tv), a.is[i]? = some u → b.is[i]? = some v → Teq u v) : Teq a b := by
  obtain ⟨l, hl, hp⟩ := list_of a.is.length (fun i s => ∀ u v, a.is[i]? = some u → b.is[i]? = some v → SrtR u s ∧ SrtR v s) (fun i hil => by
    obtain ⟨s, h1, h2⟩ := hi i a.is[i] (b.is[i]'(by omega)) (List.getElem?_eq_getElem hil) (List.getElem?_eq_getElem (by omega))
    refine ⟨s, fun u v hu hv => ?_⟩
    rw [List.getElem?_eq_getElem hil] at hu
    rw [List.getElem?_eq_getElem (show i < b.is.length by omega)] at hv
    injection hu with hu
    injection hv with hv
    subst hu hv
    exact ⟨h1, h2⟩)
  refine ⟨a.wi l, SrtR.rest a (a.wi l) h9 ⟨rfl, rfl, rfl, rfl, rfl, rfl, rfl, rfl⟩ rfl hl (fun i u v hu hv => ?_), SrtR.rest b (a.wi l) (by rw [ht.k]; exact h9) ⟨ht.k.symm, ht.f.symm, ht.g.symm, ht.n.symm, ht.b.symm, ht.s.symm, ht.y.symm, ht.l.symm⟩ (by show a.ks = b.ks; rw [hka, hkb]) (by show l.length = _; omega) (fun i u v hu hv => ?_)⟩
  · have hil := (List.getElem?_eq_some_iff.1 hu).1
    exact (hp i v hv u (b.is[i]'(by omega)) hu (List.getElem?_eq_getElem (by omega))).1
  · have hil := (List.getElem?_eq_some_iff.1 hu).1
    exact (hp i v hv (a.is[i]'(by omega)) u (List.getElem?_eq_getElem (by omega)) hu).2
theorem teq_top {a b : Tv} (h : Teq a b) : Top a b := by
  obtain ⟨s, h1, h2⟩ := h
  have t1 := h1.top
  have t2 := h2.top
  exact ⟨t2.k.symm.trans t1.k, t2.f.symm.trans t1.f, t2.g.symm.trans t1.g, t2.n.symm.trans t1.n, t2.b.symm.trans t1.b, t2.s.symm.trans t1.s, t2.y.symm.trans t1.y, t2.l.symm.trans t1.l⟩
theorem teq_items {a b : Tv} (h9 : a.k ≠ 9) (h : Teq a b) : a.is.length = b.is.length ∧ ∀ (i : Nat) (u v : Tv), a.is[i]? = some u → b.is[i]? = some v → Teq u v := by
  have hk := (teq_top h).k
  obtain ⟨s, h1, h2⟩ := h
  cases h1 with
  | map _ _ _ e => exact absurd e h9
  | rest _ _ _ _ _ n1 i1 =>
    cases h2 with
    | map _ _ _ e => exact absurd (hk.symm.trans e) h9
    | rest _ _ _ _ _ n2 i2 =>
      refine ⟨by omega, fun i u v hu hv => ?_⟩
      have hil := (List.getElem?_eq_some_iff.1 hu).1
      have hs : s.is[i]? = some (s.is[i]'(by omega)) := List.getElem?_eq_getElem (by omega)
      exact ⟨_, i1 i u _ hu hs, i2 i v _ hv hs⟩
theorem pickS_at {ks : List ByteArray} {ps : List Nat} {i p : Nat} (hp : ps[i]? = some p) : (pickS ks ps)[i]? = some (ks.getD p ⟨#[]⟩) := by simp [pickS, hp]
/-- Two maps, by the orders of their keys. -/
theorem teq_map {a b : Tv} {pa pb : List Nat} (ha : Trk a) (hb : Trk b) (ka : a.k = 9) (kb : b.k = 9) (spa : Srp a.ks (min a.ks.length a.is.length) pa) (spb : Srp b.ks (min b.ks.length b.is.length) pb) :
    Teq a b ↔ pa.length = pb.length ∧ ∀ (i p q : Nat), pa[i]? = some p → pb[i]? = some q → a.ks.getD p ⟨#[]⟩ = b.ks.getD q ⟨#[]⟩ ∧ ∀ u v, a.is[p]? = some u → b.is[q]? = some v → Teq u v := by
  obtain ⟨la, na, fa⟩ := ha.m ka
  obtain ⟨lb, nb, fb⟩ := hb.m kb
  constructor
  · rintro ⟨s, h1, h2⟩
    cases h1 with
    | rest _ _ e => exact absurd ka e
    | map _ _ pa' _ _ spa' hka hna hia =>
      cases h2 with
      | rest _ _ e => exact absurd kb e
      | map _ _ pb' _ _ spb' hkb hnb hib =>
        have e1 := srp_one na (by omega) spa spa'
        have e2 := srp_one nb (by omega) spb spb'
        subst e1 e2
        refine ⟨by omega, fun i p q hp hq => ⟨?_, fun u v hu hv => ?_⟩⟩
        · have h1 := pickS_at (ks := a.ks) hp
          have h2 := pickS_at (ks := b.ks) hq
          rw [← hka] at h1
          rw [← hkb] at h2
          rw [h1] at h2
          exact Option.some.inj h2
        · have hil := (List.getElem?_eq_some_iff.1 hp).1
          have hs : s.is[i]? = some (s.is[i]'(by omega)) := List.getElem?_eq_getElem (by omega)
          exact ⟨_, hia i p u _ hp hu hs, hib i q v _ hq hv hs⟩
  · rintro ⟨hl, hi⟩
    have lpa := spa.len
    have lpb := spb.len
    obtain ⟨l, hll, hp⟩ := list_of pa.length (fun i s => ∀ p q u v, pa[i]? = some p → pb[i]? = some q → a.is[p]? = some u → b.is[q]? = some v → SrtR u s ∧ SrtR v s) (fun i hil => by
      have h1 : pa[i]? = some pa[i] := List.getElem?_eq_getElem hil
      have h2 : pb[i]? = some (pb[i]'(by omega)) := List.getElem?_eq_getElem (by omega)
      have m1 := spa.lt _ (List.mem_of_getElem? h1)
      have m2 := spb.lt _ (List.mem_of_getElem? h2)
      obtain ⟨s, h3, h4⟩ := (hi i _ _ h1 h2).2 _ _ (List.getElem?_eq_getElem (show pa[i] < a.is.length by omega)) (List.getElem?_eq_getElem (show pb[i]'(by omega) < b.is.length by omega))
      refine ⟨s, fun p q u v hp hq hu hv => ?_⟩
      rw [h1] at hp
      rw [h2] at hq
      injection hp with hp
      injection hq with hq
      subst hp hq
      rw [List.getElem?_eq_getElem (show pa[i] < a.is.length by omega)] at hu
      rw [List.getElem?_eq_getElem (show pb[i]'(by omega) < b.is.length by omega)] at hv
      injection hu with hu
      injection hv with hv
      subst hu hv
      exact ⟨h3, h4⟩)
    have hks : pickS a.ks pa = pickS b.ks pb := by
      apply List.ext_getElem?
      intro i
      by_cases hil : i < pa.length
      · have h1 : pa[i]? = some pa[i] := List.getElem?_eq_getElem hil
        have h2 : pb[i]? = some (pb[i]'(by omega)) := List.getElem?_eq_getElem (by omega)
        rw [pickS_at h1, pickS_at h2, (hi i _ _ h1 h2).1]
      · rw [List.getElem?_eq_none (by rw [pickS_len]; omega), List.getElem?_eq_none (by rw [pickS_len]; omega)]
    refine ⟨.mk 9 false false 0 0 ⟨#[]⟩ [] ⟨0, 0, 0, []⟩ (pickS a.ks pa) l, SrtR.map a _ pa ka ⟨ka.symm, fa.1.symm, fa.2.1.symm, fa.2.2.1.symm, fa.2.2.2.1.symm, fa.2.2.2.2.1.symm, fa.2.2.2.2.2.1.symm, fa.2.2.2.2.2.2.symm⟩ spa rfl hll (fun i p u v hp' hu hv => ?_), SrtR.map b _ pb kb ⟨kb.symm, fb.1.symm, fb.2.1.symm, fb.2.2.1.symm, fb.2.2.2.1.symm, fb.2.2.2.2.1.symm, fb.2.2.2.2.2.1.symm, fb.2.2.2.2.2.2.symm⟩ spb hks (by show l.length = _; omega) (fun i q u v hq hu hv => ?_)⟩
    · have hil := (List.getElem?_eq_some_iff.1 hp').1
      have h2 : pb[i]? = some (pb[i]'(by omega)) := List.getElem?_eq_getElem (by omega)
      have m2 := spb.lt _ (List.mem_of_getElem? h2)
      exact (hp i v hv p _ u _ hp' h2 hu (List.getElem?_eq_getElem (by omega))).1
    · have hil := (List.getElem?_eq_some_iff.1 hq).1
      have h1 : pa[i]? = some (pa[i]'(by omega)) := List.getElem?_eq_getElem (by omega)
      have m1 := spa.lt _ (List.mem_of_getElem? h1)
      exact (hp i v hv _ q _ u h1 hq (List.getElem?_eq_getElem (by omega)) hu).2
end
section
open Go.RowKit Go
/-- The library's tables of UTF-8 lie as its text lays them. -/
def Tabs (w : World) : Prop := Lib.Utf8Tabs (Tryd.laysValid_ren.g 3) (Tryd.laysValid_ren.g 4) w
theorem Tabs.next {w w' : World} (h : Tabs w) (hb : Below w.heap.size w w') : Tabs w' := Utf8Tabs_below h hb
/-- No good UTF-8. -/
def badb (s : ByteArray) : Bool := !Lib.validD s.data.toList
theorem valid_any (s : ByteArray) (w : World) (hs : s.size ≤ 140737488351232) (hT : Tabs w) : Calls Tryd.prog 57 #[.string s] w fun e w' => e = .returned (.bool (!badb s)) ∧ Below w.heap.size w w' := by
  unfold badb
  rw [Bool.not_not]
  exact Any.utf8_ValidString Tryd.laysValid s w (by omega) hT
end
section
open Go.RowKit Go
set_option maxRecDepth 1000000 in
theorem bad6_any (s : ByteArray) (w : World) (hs : s.size ≤ 140737488351232) (hT : Tabs w) : Calls Tryd.prog 47 #[.string s] w fun e w' => e = .returned (.bool (badb s)) ∧ Below w.heap.size w w' := by
  have cV : Calls Tryd.prog 57 #[.string s] w fun e w' => e = .returned (.bool (Lib.validD s.data.toList)) ∧ Below w.heap.size w w' := Any.utf8_ValidString Tryd.laysValid s w (by omega) hT
  have HV := hide cV
  unfold badb
  clear cV hT
  generalize Lib.validD s.data.toList = V at *
  go_enter Tryd.func47, Tryd.ntmps47
  go_wp2_with fail
  refine (Hid.out HV).mono ?_
  rintro e w1 ⟨rfl, hb1⟩
  have HB1 := hide hb1
  clear hb1 HV
  go_wp2_with fail
  go_ret
  exact ⟨rfl, HB1.out⟩
set_option maxRecDepth 1000000 in
set_option maxHeartbeats 1000000 in
theorem indexFunc_any (w : World) (v : Value) (ks : List ByteArray) (hv : SSl w v ks) (hT : Tabs w) : Calls Tryd.prog 58 #[v, .func (.func 47) #[] #[]] w fun e w' => ∃ r : Int, e = .returned (.int .i64 r) ∧ decide (0 ≤ r) = ks.any badb ∧ Below w.heap.size w w' := by
  have HSZ := hide hv.size
  have HT := hide hT
  obtain ⟨⟨a, cap, rfl, _, hc⟩, hmax, _⟩ := hv
  have HC := hide hc
  clear hc hT
  go_enter Tryd.func58, Tryd.ntmps58
  go_wp2_with fail
  go_loopw [8] (fun ii wx => ∃ i : Nat, i ≤ ks.length ∧ ii = .int .i64 (i : Nat) ∧ Hid (∀ j s, j < i → ks[j]? = some s → badb s = false) ∧ Hid (Below w.heap.size w wx)) (fun ii _ => ks.length - (intOf ii).toNat)
  case atStart => exact ⟨0, by omega, rfl, fun j s hj => absurd hj (by omega), Below.refl _ _⟩
  case round =>
    obtain ⟨i, hi, rfl, HI, HBw⟩ := hrel
    by_cases hlt : i < ks.length
    · as_aux_lemma =>
      have g1 : (i : Int) < (ks.length : Int) := by omega
      obtain ⟨s, hs⟩ : ∃ s, ks[i]? = some s := ⟨ks[i], List.getElem?_eq_getElem hlt⟩
      obtain ⟨b, off, rfl, hcc⟩ := HC.out.resolve_left (fun h => by rw [h] at hlt; simp at hlt)
      have c1 := keep_below HBw.out _ _ (hcc i s hs)
      have HCA := hide (bad6_any s wr (HSZ.out s (List.mem_of_getElem? hs)) (HT.out.next HBw.out))
      have HS1 := hide hs
      clear hcc hs HC
      go_wp2_with fail
      refine HCA.out.mono ?_
      rintro e w1 ⟨rfl, hb1⟩
      have HB1 : Hid (Below w.heap.size w w1) := HBw.out.trans (hb1.mono HBw.out.size)
      clear hb1 HCA c1
      rcases Bool.eq_false_or_eq_true (badb s) with hr | hr
      · have HA : Hid (ks.any badb = true) := List.any_eq_true.2 ⟨s, List.mem_of_getElem? HS1.out, hr⟩
        rw [hr]
        go_wp2_with fail
        go_ret
        exact ⟨_, rfl, by rw [HA.out, decide_eq_true (by omega)], HB1.out⟩
      · have HI2 : Hid (∀ j s, j < i + 1 → ks[j]? = some s → badb s = false) := fun j s' hj h1 => by
          by_cases hji : j = i
          · subst hji
            rw [HS1.out] at h1
            injection h1 with h1
            rw [← h1]
            exact hr
          · exact HI.out j s' (by omega) h1
        rw [hr]
        clear hr HS1 HI
        go_wp2_with fail
        go_roundw
        case rel => exact ⟨i + 1, by omega, by go_num, HI2, HB1⟩
        case measure => simp [intOf]; omega
    · as_aux_lemma =>
      have g1 : ¬ (i : Int) < (ks.length : Int) := by omega
      have HA : Hid (ks.any badb = false) := by
        show _ = _
        rw [List.any_eq_false]
        intro s hs
        obtain ⟨j, hj, e⟩ := List.getElem_of_mem hs
        have h := HI.out j s (by omega) (by rw [List.getElem?_eq_getElem hj, e])
        rw [h]
        simp
      go_wp2_with fail
      go_ret
      exact ⟨_, rfl, by rw [HA.out]; rfl, HBw.out⟩
set_option maxRecDepth 1000000 in
theorem containsFunc_any (w : World) (v : Value) (ks : List ByteArray) (hv : SSl w v ks) (hT : Tabs w) : Calls Tryd.prog 48 #[v, .func (.func 47) #[] #[]] w fun e w' => e = .returned (.bool (ks.any badb)) ∧ Below w.heap.size w w' := by
  have HX := hide (indexFunc_any w v ks hv hT)
  obtain ⟨⟨a, cap, rfl, _, hc⟩, hmax, _⟩ := hv
  clear hc hT
  go_enter Tryd.func48, Tryd.ntmps48
  go_wp2_with fail
  refine HX.out.mono ?_
  rintro e w1 ⟨r, rfl, hr, hb1⟩
  have HR := hide hr
  have HB1 := hide hb1
  clear hr hb1 HX
  go_wp2_with fail
  go_ret
  exact ⟨by rw [← HR.out]; rfl, HB1.out⟩
end
section
open Go.ChangeShapes Go.WideShapes Go.ChangeAt Go.RowKit Go.Deep Go.Joins Go
/-- A slice of links. -/
structure LinksIn (w : World) (v : Value) (len : Nat) : Prop where
  form : ∃ a cap, v = .slice a len cap ∧ (len = 0 ∨ ∃ b off, a = some ⟨b, off, none⟩ ∧ ∀ i, i < len → ∃ l : Lk, Lkb l ∧ ∀ j u, (lcs l)[j]? = some u → w.cell? ⟨b, off + i * 4 + j, none⟩ = some u)
  max : len ≤ 9223372036854775807
/-- A slice of strings. -/
structure StrsIn (w : World) (v : Value) (len : Nat) : Prop where
  form : ∃ a cap, v = .slice a len cap ∧ (len = 0 ∨ ∃ b off, a = some ⟨b, off, none⟩ ∧ ∀ i, i < len → ∃ s : ByteArray, s.size ≤ 9223372036854775807 ∧ w.cell? ⟨b, off + i, none⟩ = some (.string s))
  max : len ≤ 9223372036854775807
theorem Tryd.cellsLink : Tryd.prog.cellsOf 25 = 4 := by kernel_rfl
theorem Tryd.cells_int : Tryd.prog.cellsOf 3 = 1 := by kernel_rfl
theorem Tryd.cells_u64 : Tryd.prog.cellsOf 22 = 1 := by kernel_rfl
theorem Tryd.cells_str : Tryd.prog.cellsOf 9 = 1 := by kernel_rfl
set_option maxRecDepth 100000 in
theorem links_open {H : Type} {enc : TypeId × Value → H} {w : World} {base fuel : Nat} {held : Bool} {v : Value} {x : DataW H × List MemPlace} (h : DataW.trod enc Tryd.prog w base (fun _ => true) held fuel 43 [v] = some x) : ∃ len, LinksIn w v len := by
  rcases open_slice Tryd.underlying43 h with ⟨hcs, _⟩ | ⟨a, len, cap, m, n, D, Pl, hcs, _, hl, hm, hmm, hx, hel⟩
  · injection hcs with hcs _
    subst hcs
    exact ⟨0, ⟨none, 0, rfl, .inl rfl⟩, by omega⟩
  · injection hcs with hcs _
    subst hcs
    simp only [if_true] at hmm
    refine ⟨len, ⟨some a, cap, rfl, ?_⟩, by unfold maxLen at hm; omega⟩
    have each : ∀ i, i < len → ∃ l : Lk, Lkb l ∧ ∀ j u, (lcs l)[j]? = some u → w.cell? ((a.add (i * 4)).add j) = some u := by
      intro i hi
      obtain ⟨cs', h1, h2⟩ := hel i (by omega)
      rw [Tryd.cellsLink] at h1
      obtain ⟨_, hlen, hcell⟩ := World.cells?_some h1
      obtain ⟨y0, y1, y2, y3, k, hxy, _, g0, g1, g2, g3⟩ := trod_struct4 Tryd.underlying25 h2
      match cs', hlen with
      | [v0, v1, v2, v3], _ =>
        have e0 := hcell 0 (by omega)
        have e1 := hcell 1 (by omega)
        have e2 := hcell 2 (by omega)
        have e3 := hcell 3 (by omega)
        obtain ⟨n0, f0, _, w0⟩ := DataW.trod_int (fuel := k) (cs := [v0]) Tryd.underlying3 (by simpa [Tryd.cells_int] using g0)
        obtain ⟨n1, f1, _, w1⟩ := DataW.trod_int (fuel := k) (cs := [v1]) Tryd.underlying22 (by simpa [Tryd.cells_u64] using g1)
        obtain ⟨n2, f2, _, w2⟩ := DataW.trod_int (fuel := k) (cs := [v2]) Tryd.underlying22 (by simpa [Tryd.cells_u64] using g2)
        obtain ⟨s, f3, _, hs⟩ := DataW.trod_string (fuel := k) (cs := [v3]) Tryd.underlying9 (by simpa [Tryd.cells_str] using g3)
        injection f0 with f0 _
        injection f1 with f1 _
        injection f2 with f2 _
        injection f3 with f3 _
        subst f0 f1 f2 f3
        have b1 := bounds_u64 w1
        have b2 := bounds_u64 w2
        refine ⟨⟨n0, n1.toNat, n2.toNat, sl s⟩, ⟨by simp only; omega, by simp only; omega, sl_byte s, by simp only [sl_len]; unfold maxLen at hs; omega⟩, fun j u hu => ?_⟩
        have q1 : ((n1.toNat : Nat) : Int) = n1 := by omega
        have q2 : ((n2.toNat : Nat) : Int) = n2 := by omega
        simp only [lcs, nstr_sl, q1, q2] at hu
        match j, hu with
        | 0, hu => simp at hu; subst hu; simpa using e0
        | 1, hu => simp at hu; subst hu; simpa using e1
        | 2, hu => simp at hu; subst hu; simpa using e2
        | 3, hu => simp at hu; subst hu; simpa using e3
        | j + 4, hu => simp at hu
    by_cases hz : len = 0
    · exact .inl hz
    · obtain ⟨b, off, spot⟩ := a
      obtain ⟨l0, _, h1⟩ := each 0 (by omega)
      have hspot : spot = none := by
        have := h1 0 (.int .i64 l0.v) rfl
        simpa [Addr.add] using World.cell?_spot this
      subst hspot
      refine .inr ⟨b, off, rfl, fun i hi => ?_⟩
      obtain ⟨l, hl, hc⟩ := each i hi
      refine ⟨l, hl, fun j u hu => ?_⟩
      have := hc j u hu
      rw [addr_add, addr_add] at this
      exact this
theorem strs_open {H : Type} {enc : TypeId × Value → H} {w : World} {base fuel : Nat} {held : Bool} {v : Value} {x : DataW H × List MemPlace} (h : DataW.trod enc Tryd.prog w base (fun _ => true) held fuel 26 [v] = some x) : ∃ len, StrsIn w v len := by
  rcases open_strings Tryd.underlying26 Tryd.underlying9 Tryd.cells_str h with ⟨hcs, _⟩ | ⟨a, len, cap, ss, hcs, _, hl, hm, hmm, hx, hel, hsz⟩
  · injection hcs with hcs _
    subst hcs
    exact ⟨0, ⟨none, 0, rfl, .inl rfl⟩, by omega⟩
  · injection hcs with hcs _
    subst hcs
    simp only [if_true] at hmm
    refine ⟨len, ⟨some a, cap, rfl, ?_⟩, by unfold maxLen at hm; omega⟩
    by_cases hz : len = 0
    · exact .inl hz
    · obtain ⟨b, off, spot⟩ := a
      have hspot : spot = none := by
        have := hel 0 (by omega)
        simpa [Addr.add] using World.cell?_spot this
      subst hspot
      refine .inr ⟨b, off, rfl, fun i hi => ?_⟩
      have h1 := hel i (by omega)
      rw [addr_add] at h1
      refine ⟨_, ?_, h1⟩
      have hi2 : i < ss.length := by omega
      rw [List.getD_eq_getElem?_getD, List.getElem?_eq_getElem hi2]
      have := hsz _ (List.getElem_mem hi2)
      unfold maxLen at this
      exact this
section
variable {H : Type} {enc : TypeId × Value → H} {P : Program} {w : World} {base : Nat} {spare : Nat → Bool} {held : Bool}
/-- A struct of five fields of one cell. -/
theorem open_agg5 {r : Reach} {b0 : Nat} {t : TypeId} {f0 f1 f2 f3 f4 : Field} {v : Value} {d : DataW H} {p : List MemPlace} (hs : P.underlying t = some (.struct #[f0, f1, f2, f3, f4])) (hone : oneCellFields P #[f0, f1, f2, f3, f4] = true) (hC : P.cellsOf t = 5)
    (hv : Value.okWide P w r b0 t v) (h : DataW.Trod enc P w base spare held t v d p) :
    ∃ (v0 v1 v2 v3 v4 : Value) (y0 y1 y2 y3 y4 : DataW H × List MemPlace) (n : Nat), v = .agg #[v0, v1, v2, v3, v4] ∧ d = .agg [y0.1, y1.1, y2.1, y3.1, y4.1] ∧
      DataW.trod enc P w base spare held n f0.type [v0] = some y0 ∧ DataW.trod enc P w base spare held n f1.type [v1] = some y1 ∧ DataW.trod enc P w base spare held n f2.type [v2] = some y2 ∧ DataW.trod enc P w base spare held n f3.type [v3] = some y3 ∧ DataW.trod enc P w base spare held n f4.type [v4] = some y4 := by
  obtain ⟨cs, rfl, hsz⟩ := okWide_struct hs hv
  obtain ⟨l⟩ := cs
  match l, hsz.trans hC with
  | [c0, c1, c2, c3, c4], _ =>
    obtain ⟨fuel, hf⟩ := h
    obtain ⟨xs, n, _, hx, hl, hlen, hff⟩ := DataW.trod_struct hs hf
    match xs, hlen with
    | [y0, y1, y2, y3, y4], _ =>
      obtain ⟨o0, k0⟩ := hone_of hone 0 f0 rfl
      obtain ⟨o1, k1⟩ := hone_of hone 1 f1 rfl
      obtain ⟨o2, k2⟩ := hone_of hone 2 f2 rfl
      obtain ⟨o3, k3⟩ := hone_of hone 3 f3 rfl
      obtain ⟨o4, k4⟩ := hone_of hone 4 f4 rfl
      have h0 := hff 0 f0 rfl
      have h1 := hff 1 f1 rfl
      have h2 := hff 2 f2 rfl
      have h3 := hff 3 f3 rfl
      have h4 := hff 4 f4 rfl
      simp only [Prod.mk.injEq] at hx
      exact ⟨c0, c1, c2, c3, c4, y0, y1, y2, y3, y4, n, rfl, by simpa using hx.1, by simpa [Value.cells, o0, k0] using h0, by simpa [Value.cells, o1, k1] using h1, by simpa [Value.cells, o2, k2] using h2, by simpa [Value.cells, o3, k3] using h3, by simpa [Value.cells, o4, k4] using h4⟩
end
end
section
open Go.RowKit Go
/-- The digits as a string. -/
def s16 : ByteArray := ⟨#[48, 49, 50, 51, 52, 53, 54, 55, 56, 57, 97, 98, 99, 100, 101, 102]⟩
def s32 : ByteArray := ⟨#[97, 98, 99, 100, 101, 102, 103, 104, 105, 106, 107, 108, 109, 110, 111, 112, 113, 114, 115, 116, 117, 118, 119, 120, 121, 122, 50, 51, 52, 53, 54, 55]⟩
def s58 : ByteArray := ⟨#[49, 50, 51, 52, 53, 54, 55, 56, 57, 65, 66, 67, 68, 69, 70, 71, 72, 74, 75, 76, 77, 78, 80, 81, 82, 83, 84, 85, 86, 87, 88, 89, 90, 97, 98, 99, 100, 101, 102, 103, 104, 105, 106, 107, 109, 110, 111, 112, 113, 114, 115, 116, 117, 118, 119, 120, 121, 122]⟩
theorem sl16 : sl s16 = d16 := by decide
theorem sl32 : sl s32 = d32 := by decide
theorem sl58 : sl s58 = d58 := by decide
/-- A base of the landed code. -/
structure Bs where
  l : ByteArray
  t : ByteArray
  n : Nat
def Bs.cs (b : Bs) : Array Value := #[.string b.l, .string b.t, .int .i64 (b.n : Nat)]
def b16 : Bs := ⟨⟨#[102]⟩, s16, 4⟩
def b32 : Bs := ⟨⟨#[98]⟩, s32, 5⟩
def b58 : Bs := ⟨⟨#[122]⟩, s58, 0⟩
def b0 : Bs := ⟨⟨#[]⟩, ⟨#[]⟩, 0⟩
def bof (n : Int) : Bs := if n = 1 then b16 else if n = 2 then b32 else if n = 3 then b58 else b0
end
section
open Go.RowKit Go
/-- Turned from both ends so far. -/
def revd (xs : List Nat) (k : Nat) : List Nat := (List.range xs.length).map fun j => if j < k ∨ xs.length - k ≤ j then xs.getD (xs.length - 1 - j) 0 else xs.getD j 0
theorem revd_len (xs : List Nat) (k : Nat) : (revd xs k).length = xs.length := by simp [revd]
theorem revd_get (xs : List Nat) (k j : Nat) (h : j < xs.length) : (revd xs k).getD j 0 = if j < k ∨ xs.length - k ≤ j then xs.getD (xs.length - 1 - j) 0 else xs.getD j 0 := by
  simp [revd, List.getD, h]
theorem ext_getD {xs ys : List Nat} (hl : xs.length = ys.length) (h : ∀ j, j < xs.length → xs.getD j 0 = ys.getD j 0) : xs = ys := by
  apply List.ext_getElem hl
  intro j h1 h2
  have := h j h1
  simpa [List.getD, h1, h2] using this
theorem getD_set (xs : List Nat) (i j x : Nat) (h : j < xs.length) : (xs.set i x).getD j 0 = if i = j then x else xs.getD j 0 := by
  simp only [List.getD, List.getElem?_set]
  by_cases e : i = j
  · subst e
    simp [h]
  · simp [e]
theorem revd_zero (xs : List Nat) : revd xs 0 = xs := ext_getD (revd_len _ _) (fun j hj => by
  rw [revd_len] at hj
  rw [revd_get xs 0 j hj, if_neg (by omega)])
theorem revd_end (xs : List Nat) {k : Nat} (h : xs.length ≤ 2 * k + 1) : revd xs k = xs.reverse := ext_getD (by rw [revd_len, List.length_reverse]) (fun j hj => by
  rw [revd_len] at hj
  have hr : xs.reverse.getD j 0 = xs.getD (xs.length - 1 - j) 0 := by
    rw [List.getD_eq_getElem?_getD, List.getElem?_reverse hj, List.getD_eq_getElem?_getD]
  rw [revd_get xs k j hj, hr]
  split
  · rfl
  · have : xs.length - 1 - j = j := by omega
    rw [this])
theorem revd_step (xs : List Nat) {k : Nat} (h : 2 * k + 1 < xs.length) : ((revd xs k).set k ((revd xs k).getD (xs.length - 1 - k) 0)).set (xs.length - 1 - k) ((revd xs k).getD k 0) = revd xs (k + 1) := ext_getD (by simp [revd_len]) (fun j hj => by
  rw [List.length_set, List.length_set, revd_len] at hj
  rw [getD_set _ _ _ _ (by rw [List.length_set, revd_len]; exact hj), getD_set _ _ _ _ (by rw [revd_len]; exact hj), revd_get xs k k (by omega), revd_get xs k (xs.length - 1 - k) (by omega), revd_get xs k j hj, revd_get xs (k + 1) j hj]
  by_cases h1 : xs.length - 1 - k = j
  · subst h1
    rw [if_pos rfl, if_neg (by omega), if_pos (by omega)]
    congr 1
    omega
  · rw [if_neg h1]
    by_cases h2 : k = j
    · subst h2
      rw [if_pos rfl, if_neg (by omega), if_pos (by omega)]
    · rw [if_neg h2]
      by_cases h3 : j < k ∨ xs.length - k ≤ j
      · rw [if_pos h3, if_pos (by omega)]
      · rw [if_neg h3, if_neg (by omega)])
end
section
open Go.RowKit Go
/-- The digits so far, the lowest first, of the number that digits make. -/
structure Rcd (fr tt : Nat) (p L : List Nat) : Prop where
  v : valL tt L = valB fr p
  d : ∀ x ∈ L, x < tt
  n : L = [] ∨ tt ^ (L.length - 1) ≤ valL tt L
theorem Rcd.start (fr tt : Nat) : Rcd fr tt [] [] := ⟨rfl, by simp, .inl rfl⟩
/-- One round under way: the first i digits are new, the carry. -/
structure Rcm (fr tt n : Nat) (L M : List Nat) (i cy : Nat) : Prop where
  l : M.length = L.length
  q : i ≤ L.length
  r : M.drop i = L.drop i
  v : valL tt (M.take i) + tt ^ i * cy = n + fr * valL tt (L.take i)
  d : ∀ x ∈ M, x < tt
  c : cy < 65536
theorem Rcm.start {fr tt n : Nat} {L : List Nat} (hd : ∀ x ∈ L, x < tt) (hn : n < 256) : Rcm fr tt n L L 0 n := ⟨rfl, Nat.zero_le _, rfl, by simp [valL], hd, by omega⟩
theorem Rcm.step {fr tt n : Nat} {L M : List Nat} {i cy : Nat} (h : Rcm fr tt n L M i cy) (hi : i < L.length) (ht : 2 ≤ tt) (ht2 : tt ≤ 256) (hf2 : fr ≤ 256) :
    Rcm fr tt n L (M.set i ((cy + M.getD i 0 * fr) % tt)) (i + 1) ((cy + M.getD i 0 * fr) / tt) := by
  have hiM : i < M.length := by rw [h.l]; exact hi
  have hg : M.getD i 0 = L.getD i 0 := by
    have h1 := congrArg List.head? h.r
    rw [List.head?_drop, List.head?_drop] at h1
    rw [List.getD_eq_getElem?_getD, List.getD_eq_getElem?_getD, h1]
  have hx : M.getD i 0 < tt := by
    rw [List.getD_eq_getElem?_getD, List.getElem?_eq_getElem hiM]
    exact h.d _ (List.getElem_mem hiM)
  have hxf : M.getD i 0 * fr ≤ 255 * 256 := Nat.mul_le_mul (by omega) hf2
  have hs : cy + M.getD i 0 * fr < 131072 := by have := h.c; omega
  refine ⟨by rw [List.length_set]; exact h.l, hi, ?_, ?_, ?_, ?_⟩
  · rw [List.drop_set_of_lt (by omega)]
    have h1 := congrArg List.tail h.r
    rw [List.tail_drop, List.tail_drop] at h1
    exact h1
  · have e1 : (M.set i ((cy + M.getD i 0 * fr) % tt)).take (i + 1) = M.take i ++ [(cy + M.getD i 0 * fr) % tt] := by
      rw [List.take_succ_eq_append_getElem (by rw [List.length_set]; exact hiM), List.take_set_of_le (Nat.le_refl _)]
      simp
    have e2 : L.take (i + 1) = L.take i ++ [L.getD i 0] := take_at L i hi
    have l1 : (M.take i).length = i := by rw [List.length_take]; omega
    have l2 : (L.take i).length = i := by rw [List.length_take]; omega
    rw [e1, e2, valL_app, valL_app, l1, l2, ← hg]
    simp only [valL, Nat.mul_zero, Nat.add_zero]
    have hv := h.v
    have hdm := Nat.mod_add_div (cy + M.getD i 0 * fr) tt
    generalize (cy + M.getD i 0 * fr) % tt = a at *
    generalize (cy + M.getD i 0 * fr) / tt = b at *
    generalize M.getD i 0 = x at *
    have e3 : tt ^ i * a + tt ^ (i + 1) * b = tt ^ i * (cy + x * fr) := by rw [Nat.pow_succ, Nat.mul_assoc, ← Nat.mul_add, hdm]
    rw [Nat.mul_add] at e3
    have e4 : fr * (valL tt (L.take i) + tt ^ i * x) = fr * valL tt (L.take i) + tt ^ i * (x * fr) := by
      rw [Nat.mul_add]
      congr 1
      rw [Nat.mul_comm x fr]
      ac_rfl
    omega
  · intro y hy
    rcases List.mem_or_eq_of_mem_set hy with h1 | h1
    · exact h.d y h1
    · subst h1
      exact Nat.mod_lt _ (by omega)
  · have : (cy + M.getD i 0 * fr) / tt ≤ (cy + M.getD i 0 * fr) / 2 := Nat.div_le_div_left ht (by decide)
    omega
/-- The carry that is left is laid on. -/
structure Rce (tt N : Nat) (M : List Nat) (cy : Nat) : Prop where
  v : valL tt M + tt ^ M.length * cy = N
  d : ∀ x ∈ M, x < tt
  c : cy < 65536
  n : cy = 0 → M = [] ∨ tt ^ (M.length - 1) ≤ N
theorem Rce.step {tt N : Nat} {M : List Nat} {cy : Nat} (h : Rce tt N M cy) (hc : 0 < cy) (ht : 2 ≤ tt) : Rce tt N (M ++ [cy % tt]) (cy / tt) := by
  have hdm := Nat.mod_add_div cy tt
  refine ⟨?_, ?_, ?_, ?_⟩
  · rw [valL_app, List.length_append, List.length_singleton, Nat.pow_succ, Nat.mul_assoc]
    simp only [valL, Nat.mul_zero, Nat.add_zero]
    rw [Nat.add_assoc, ← Nat.mul_add, hdm]
    exact h.v
  · intro y hy
    rcases List.mem_append.1 hy with h1 | h1
    · exact h.d y h1
    · simp only [List.mem_singleton] at h1
      subst h1
      exact Nat.mod_lt _ (by omega)
  · have : cy / tt ≤ cy := Nat.div_le_self _ _
    have := h.c
    omega
  · intro _
    right
    rw [List.length_append, List.length_singleton, Nat.add_sub_cancel]
    have h1 := h.v
    have h2 : tt ^ M.length * 1 ≤ tt ^ M.length * cy := Nat.mul_le_mul_left _ hc
    omega
theorem Rce.done {fr tt : Nat} {p M : List Nat} (h : Rce tt (valB fr p) M 0) : Rcd fr tt p M := by
  have hv := h.v
  rw [Nat.mul_zero, Nat.add_zero] at hv
  exact ⟨hv, h.d, by rw [hv]; exact h.n rfl⟩
theorem Rcm.done {fr tt n : Nat} {p L M : List Nat} {cy : Nat} (hL : Rcd fr tt p L) (h : Rcm fr tt n L M L.length cy) (hf : 1 ≤ fr) : Rce tt (valB fr (p ++ [n])) M cy := by
  have hM : M.take L.length = M := List.take_of_length_le (by rw [h.l]; omega)
  have hv := h.v
  rw [hM, List.take_length, hL.v, ← h.l] at hv
  have hN : valB fr (p ++ [n]) = n + fr * valB fr p := by rw [valB_snoc, Nat.mul_comm]; omega
  refine ⟨by rw [hN]; exact hv, h.d, h.c, fun _ => ?_⟩
  rcases hL.n with h1 | h1
  · left
    have := h.l
    rw [h1] at this
    exact List.eq_nil_of_length_eq_zero this
  · right
    rw [hN, h.l]
    rw [hL.v] at h1
    have : 1 * valB fr p ≤ fr * valB fr p := Nat.mul_le_mul_right _ hf
    omega
/-- How many noughts stand at the front. -/
def nz (p : List Nat) : Nat := (p.takeWhile (· == 0)).length
theorem Rcd.nil {fr tt : Nat} {p L : List Nat} (h : Rcd fr tt p L) (ht : 2 ≤ tt) : L = [] ↔ valB fr p = 0 := by
  constructor
  · intro e
    rw [← h.v, e]
    rfl
  · intro e
    rcases h.n with h1 | h1
    · exact h1
    · exfalso
      have := Nat.pow_pos (n := L.length - 1) (show 0 < tt by omega)
      rw [h.v, e] at h1
      omega
theorem Rcd.zeros {fr tt : Nat} {p L : List Nat} {n : Nat} (h : Rcd fr tt (p ++ [n]) L) (ht : 2 ≤ tt) (hf : 0 < fr) : nz (p ++ [n]) = if L = [] then nz p + 1 else nz p := by
  unfold nz
  rw [tw_snoc hf]
  by_cases e : L = []
  · rw [if_pos e, if_pos ((h.nil ht).1 e)]
  · rw [if_neg e, if_neg (fun h0 => e ((h.nil ht).2 h0))]
theorem Rcd.conv {fr tt : Nat} {p L : List Nat} (h : Rcd fr tt p L) (ht : 2 ≤ tt) : conv fr tt p = List.replicate (nz p) 0 ++ L.reverse := by
  rw [conv_val, valL_digB ht h.d h.n, h.v]
  rfl
theorem nz_le (p : List Nat) : nz p ≤ p.length := (List.takeWhile_prefix _).length_le
end
end Go.Proofs.YtibcepokeaaoiabDoor

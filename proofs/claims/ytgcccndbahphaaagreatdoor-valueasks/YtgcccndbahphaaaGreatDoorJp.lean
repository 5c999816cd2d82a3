import Derived.Test.YtgcccndbahphaaaGreatDoorJo
import Derived.Test.YtgcccndbahphaaaGreatDoorJd
import Derived.Test.YtgcccndbahphaaaGreatDoorJn
import Derived.Test.YtgcccndbahphaaaGreatDoorJj
import Derived.Test.YtgcccndbahphaaaGreatDoorJe
import Derived.Test.YtgcccndbahphaaaGreatDoorJa
import Derived.Test.YtgcccndbahphaaaGreatDoorJh
import Derived.Test.YtgcccndbahphaaaGreatDoorJb
import Derived.Test.YtgcccndbahphaaaGreatDoorJm
namespace Go.Proofs.YtgcccndbahphaaaGreatDoor
section
open Go.RowKit Go
def RsrC (t : Tv) : Prop := ∀ (w : World) (cs : Array Value), Tin w t cs → Trk t → tmuch t ≤ 100000 → Calls Tryz.prog 21 #[.agg cs] w fun e w' => ∃ c s, e = .returned (.agg c) ∧ Tis w' (fun q => q < w.heap.size) s c ∧ SrtR t s ∧ Below w.heap.size w w'
theorem end_rs6 {wx : World} {R : Nat} {c : Array Value} {tmps : Array Value} (hn : c.size = 13) (hr : wx.heap[R]? = some (.cells c 55 (0, 0))) (hp : tmps.getD 2 undef = .pointer (some ⟨R, 0, none⟩)) : (results Tryz.f21 tmps).run Tryz.prog wx = .ok (.agg c) wx := by
  refine (results_one (p := 2) (ty := 55) rfl _ _ _).trans ?_
  rw [hp]
  have h1 := run_loadVar_row (P := Tryz.prog) wx R 55 55 c (0, 0) _ hr Tryz.underlying55 rfl (by rw [hn]; exact infoV)
  simp [asAddr, h1, Result.andThen]
/-- What a region of Sorted holds throughout. -/
def S16 (w : World) (cs : Array Value) (g : Nat) (vl : Value) (ps : List Nat) (wy : World) : Prop := Below w.heap.size w wy ∧ wy.heap[w.heap.size]? = some (.cells cs 55 (0, 0)) ∧ wy.ownsRow (g + 1) 3 1 vl ps.length (ivs ps)
set_option maxRecDepth 1000000 in
set_option maxHeartbeats 8000000 in
theorem rsorted_step (t : Tv) (ih : ∀ u ∈ t.is, RsrC u) : RsrC t := by
  intro w cs ht hk hm
  have HIH := hide ih
  have HTI := hide ht
  have HTK := hide hk
  have hme := tmuch_eq t
  have HMM := hide hm
  have HML : Hid (tmuchL t.is ≤ 100000 ∧ t.is.length ≤ 100000 ∧ t.ks.length ≤ 100000) := by
    have := tmuchL_len t.is
    exact ⟨by omega, by omega, by omega⟩
  have HSZ := hide ht.size13
  clear ih hk hm hme
  obtain ⟨vy0, vk0, vi0, rfl, hy, hkk, hvv, hb⟩ := ht.parts
  have HBD := hide hb
  have HSK := hide hkk
  obtain ⟨⟨ak, ck, rfl, _, hkf⟩, hkm, hkz⟩ := hkk
  obtain ⟨⟨ai, ci, rfl, _, hfi⟩, hvm⟩ := hvv
  have HFI := hide hfi
  have HKF := hide hkf
  have HKZ := hide hkz
  have HYB := hide hy.byte
  have HC0 : Hid ((vcs t vy0 (.slice ak t.ks.length ck) (.slice ai t.is.length ci))[0]? = some (.int .i64 t.k)) := rfl
  have HC11 : Hid ((vcs t vy0 (.slice ak t.ks.length ck) (.slice ai t.is.length ci))[11]? = some (.slice ak t.ks.length ck)) := rfl
  have HC12 : Hid ((vcs t vy0 (.slice ak t.ks.length ck) (.slice ai t.is.length ci))[12]? = some (.slice ai t.is.length ci)) := rfl
  generalize vcs t vy0 (.slice ak t.ks.length ck) (.slice ai t.is.length ci) = cs at *
  clear ht hb hy hfi hkf hkz
  have HP0 : Hid (((w.alloc (.cells cs 55)).alloc (.cells zv 55)).heap[w.heap.size]? = some (.cells cs 55 (0, 0))) := blk_alloc _ (heap_alloc_new w _)
  have HR0 : Hid (((w.alloc (.cells cs 55)).alloc (.cells zv 55)).heap[w.heap.size + 1]? = some (.cells zv 55 (0, 0))) := by
    have h := heap_alloc_new (w.alloc (.cells cs 55)) (.cells zv 55)
    have e : (w.alloc (.cells cs 55)).heap.size = w.heap.size + 1 := by simp
    rw [e] at h
    exact h
  have HB0 : Hid (Below w.heap.size w ((w.alloc (.cells cs 55)).alloc (.cells zv 55))) := (below_alloc4 w _).trans ((below_alloc4 _ _).mono (by simp))
  have HZ0 : Hid (((w.alloc (.cells cs 55)).alloc (.cells zv 55)).heap.size = w.heap.size + 2) := by show _ = _; simp
  have HV0 : Hid (∀ j u, cs[j]? = some u → ((w.alloc (.cells cs 55)).alloc (.cells zv 55)).cell? ⟨w.heap.size, 0 + j, none⟩ = some u) := fun j u hu => by rw [Nat.zero_add]; exact blk_cell HP0.out hu
  unfold zv at HP0 HB0 HZ0 HV0
  have HR0' : Hid (((w.alloc (.cells cs 55)).alloc (.cells #[.int .i64 0, .bool false, .bool false, .int .u64 0, .int .u64 0, .string ⟨#[]⟩, .slice none 0 0, .int .i64 0, .int .u64 0, .int .u64 0, .string ⟨#[]⟩, .slice none 0 0, .slice none 0 0] 55)).heap[w.heap.size + 1]? = some (.cells zv 55 (0, 0))) := HR0.out
  clear HR0
  go_enter Tryz.func21, Tryz.ntmps21
  go_upto_region 1 with fail
  generalize ((w.alloc (.cells cs 55)).alloc (.cells #[.int .i64 0, .bool false, .bool false, .int .u64 0, .int .u64 0, .string ⟨#[]⟩, .slice none 0 0, .int .i64 0, .int .u64 0, .int .u64 0, .string ⟨#[]⟩, .slice none 0 0, .slice none 0 0] 55)) = w0 at *
  go_wp2_with (refine wpList_valAt rfl rfl w.heap.size 0 cs rfl HSZ.out HV0.out ?_)
  refine (copyValue_any t w0 cs (HTI.out.move (keep_below HB0.out)) HMM.out).mono ?_
  rintro e w1 ⟨c1, rfl, hn1, hb1⟩
  have HON := hide hn1.one
  cases hn1 with
  | mk _ vy vk1 vi1 L1 hbd1 hyb1 hy1 hgy1 hk1 hgk1 hkl1 hks1 hv1 hgi1 hil1 hL1 h131 hcs1 =>
  have HI1 : Hid ((w1.alloc (.cells (vcs t vy vk1 vi1) 55)).heap[w1.heap.size]? = some (.cells (vcs t vy vk1 vi1) 55 (0, 0))) := heap_alloc_new w1 _
  have HB2 : Hid (Below w1.heap.size w1 (w1.alloc (.cells (vcs t vy vk1 vi1) 55))) := below_alloc4 w1 _
  have HBR : Hid (Below w0.heap.size w0 (w1.alloc (.cells (vcs t vy vk1 vi1) 55))) := hb1.trans (HB2.out.mono hb1.size)
  have HY2 : Hid ((w1.alloc (.cells (vcs t vy vk1 vi1) 55)).ownsRow (w.heap.size + 2) 5 1 vy t.y.length (bv t.y)) := by
    have h := (Kp.of_below (S := fun _ => False) HB2.out).owns hy1 (fun _ _ h => h)
    rw [HZ0.out] at h
    exact h
  have HYG := hide hgy1
  have HGE : Hid (w.heap.size + 2 ≤ w1.heap.size) := by have := hb1.size; have := HZ0.out; show _ ≤ _; omega
  have HAL : Hid ((vcs t vy vk1 vi1).all (·.oneCell') = true) := by
    show _ = _
    rw [Array.all_eq_true']
    intro x hx
    exact HON.out.2 x (by simpa using hx)
  have HG1 : Hid ((w1.alloc (.cells zv 55)).heap[w1.heap.size]? = some (.cells zv 55 (0, 0))) := heap_alloc_new w1 _
  have HP2 : Hid ((w1.alloc (.cells (vcs t vy vk1 vi1) 55)).heap[w.heap.size]? = some (.cells cs 55 (0, 0))) := (HBR.out.block _ (blk_lt HP0.out)).trans HP0.out
  have HR2 : Hid ((w1.alloc (.cells (vcs t vy vk1 vi1) 55)).heap[w.heap.size + 1]? = some (.cells zv 55 (0, 0))) := (HBR.out.block _ (blk_lt HR0'.out)).trans HR0'.out
  have HBW : Hid (Below w.heap.size w (w1.alloc (.cells (vcs t vy vk1 vi1) 55))) := HB0.out.trans (HBR.out.mono HB0.out.size)
  have c12 := blk_cell (j := 12) HI1.out rfl
  have f12 := blk_frozen 12 HI1.out
  have HX3 : Hid (((w1.alloc (.cells (vcs t vy vk1 vi1) 55)).setCell ⟨w1.heap.size, 12, none⟩ (.slice none 0 0)).heap[w1.heap.size]? = some (.cells (vcs t vy vk1 (.slice none 0 0)) 55 (0, 0))) := blk_set 12 _ HI1.out
  have c11 := blk_cell (j := 11) HX3.out rfl
  have f11 := blk_frozen 11 HX3.out
  have HT0 : Hid (Tus w (((w1.alloc (.cells (vcs t vy vk1 vi1) 55)).setCell ⟨w1.heap.size, 12, none⟩ (.slice none 0 0)).setCell ⟨w1.heap.size, 11, none⟩ (.slice none 0 0)) w1.heap.size cs t vy (.slice none 0 0) (.slice none 0 0) (.slice none 0 0) [] [] [] []) := by
    have hk1 : Kp (fun q => q = w1.heap.size) (w1.alloc (.cells (vcs t vy vk1 vi1) 55)) (((w1.alloc (.cells (vcs t vy vk1 vi1) 55)).setCell ⟨w1.heap.size, 12, none⟩ (.slice none 0 0)).setCell ⟨w1.heap.size, 11, none⟩ (.slice none 0 0)) := by
      have h1 : Kp (fun q => q = w1.heap.size) (w1.alloc (.cells (vcs t vy vk1 vi1) 55)) ((w1.alloc (.cells (vcs t vy vk1 vi1) 55)).setCell ⟨w1.heap.size, 12, none⟩ (.slice none 0 0)) := (Kp.refl _ _).setCell _ _ (fun _ => rfl)
      exact h1.setCell _ _ (fun _ => rfl)
    have hge := HGE.out
    refine ⟨HBW.out.trans (hk1.below HBW.out.size (fun q e => by omega)), (hk1.block _ (blk_lt HP2.out) (by omega)).trans HP2.out, (hk1.block _ (blk_lt HR2.out) (by omega)).trans HR2.out, hge, ?_, hk1.owns HY2.out (fun q hq e => by have := HYG.out q hq; omega), HYG.out, World.ownsRow_nil _ _ _ _, World.ownsRow_nil _ _ _ _, World.ownsRow_nil _ _ _ _, rfl, by simp, by simp⟩
    exact blk_set 11 _ HX3.out
  have q0 := blk_cell (j := 0) HT0.out.p HC0.out
  have q11 := blk_cell (j := 11) HT0.out.p HC11.out
  clear hbd1 hyb1 hy1 hgy1 hk1 hgk1 hkl1 hks1 hv1 hgi1 hil1 hL1 h131 hcs1 hb1 HON HI1 HB2 HBR HY2 HYG HP2 HR2 HBW HX3
  by_cases h9 : t.k = 9
  · have g9 : (t.k == 9) = true := beq_iff_eq.2 h9
    go_wp2_with (refine wpList_storeRow rfl rfl w1.heap.size zv (vcs t vy vk1 vi1) 55 rfl rfl HG1.out infoV rfl HAL.out ?_; rw [World.setRow_alloc_new]; generalize w1.alloc (.cells (vcs t vy vk1 vi1) 55) = wA at *)
    generalize (wA.setCell ⟨w1.heap.size, 12, none⟩ (.slice none 0 0)).setCell ⟨w1.heap.size, 11, none⟩ (.slice none 0 0) = w2 at *
    clear c11 c12 f11 f12 q0 q11 HG1 HAL HP0 HR0' HB0 HZ0 HV0
    generalize w1.heap.size = g at *
    refine (orderR_any t.ks w2 _ (HSK.out.move (keep_below HT0.out.b)) HML.out.2.2).mono ?_
    rintro e w3 ⟨vl, ps, rfl, hsp, hl3, hb3⟩
    have HSP := hide hsp
    have HT3 : Hid (Tus w w3 g cs t vy (.slice none 0 0) (.slice none 0 0) vl ps [] [] []) := by
      have h := HT0.out.next hb3
      have h2 := blk_lt HT0.out.x
      exact ⟨h.b, h.p, h.r, h.gg, h.x, h.y, h.yg, own_mono hl3 (by omega), h.k, h.o, h.n, h.h, h.t⟩
    have hks := (HTK.out.m h9).1
    have HPS : Hid (ps.length = t.is.length ∧ ∀ (j p : Nat), ps[j]? = some p → p < t.is.length) := ⟨by rw [hsp.len]; exact hks, fun j p hp => by have := hsp.lt p (List.mem_of_getElem? hp); omega⟩
    obtain ⟨al, cl, hvl⟩ := own_slice hl3
    subst hvl
    clear hsp hl3 hb3 HT0
    have hpb : ps.length ≤ 100000 := by have h1 := HPS.out.1; have h2 := HML.out.2.1; omega
    go_wp2_with fail
    go_loopw [5] (fun ii wx => ∃ (i : Nat) (vK vI : Value) (kk : List ByteArray) (ms : List Tv) (L : List (Array Value)), i ≤ ps.length ∧ ii = .int .i64 (i : Nat) ∧ Hid (Tus w wx g cs t vy vK vI (.slice al ps.length cl) ps kk ms L) ∧ Hid (ms.length = i ∧ kk = pickS t.ks (ps.take i)) ∧ Hid (∀ (j p : Nat) (u v : Tv), j < i → ps[j]? = some p → t.is[p]? = some u → ms[j]? = some v → SrtR u v)) (fun ii _ => ps.length - (intOf ii).toNat)
    case atStart => exact ⟨0, _, _, [], [], [], by omega, rfl, HT3, ⟨rfl, by simp [pickS]⟩, fun j p u v hj => absurd hj (by omega)⟩
    case round =>
      clear HT3
      obtain ⟨i, vK, vI, kk, ms, L, hi, rfl, HT, HN, HI⟩ := hrel
      by_cases hlt : i < ps.length
      · as_aux_lemma =>
        have g1 : (i : Int) < (ps.length : Int) := by omega
        obtain ⟨q, hq⟩ : ∃ q, ps[i]? = some q := ⟨ps[i], List.getElem?_eq_getElem hlt⟩
        have hql : q < t.is.length := HPS.out.2 i q hq
        obtain ⟨gl, hgl⟩ : ∃ gl, al = some ⟨gl, 0, none⟩ := by
          rcases HT.out.l.2 with ⟨e, h0⟩ | ⟨g', c, cur, e, _⟩
          · omega
          · injection e with e _ _
            exact ⟨g', e⟩
        subst hgl
        have HPI : Hid ((ivs ps)[i]? = some (.int .i64 (q : Nat))) := by show _ = _; simp [ivs, hq]
        obtain ⟨s, hs⟩ : ∃ s, t.ks[q]? = some s := ⟨t.ks[q], List.getElem?_eq_getElem (by omega)⟩
        obtain ⟨b2, o2, rfl, hkc⟩ := HKF.out.resolve_left (fun h => by rw [h] at hks; simp at hks; omega)
        have HCS := hide (hkc q s hs)
        have HQ := hide hq
        have HKS : Hid (kk ++ [s] = pickS t.ks (ps.take (i + 1))) := by
          show _ = _
          rw [HN.out.2, List.take_add_one, HQ.out]
          simp [pickS, List.getD, hs]
        have gq : (q : Int) < (t.ks.length : Int) := by omega
        have gq2 : (q : Int) < (t.is.length : Int) := by omega
        have HKL : Hid (kk.length ≤ 100000) := by
          have h1 := HN.out.2
          have := HML.out
          have := HPS.out.1
          show _ ≤ _
          rw [h1, pickS_len]
          simp
          omega
        clear hkc hs hq
        obtain ⟨u, hu⟩ : ∃ u, t.is[q]? = some u := ⟨t.is[q], List.getElem?_eq_getElem hql⟩
        obtain ⟨b, off, rfl, hcells⟩ := HFI.out.resolve_left (fun h => by rw [h] at hql; simp at hql)
        obtain ⟨cu, tu, hcu⟩ := hcells q u hu
        have HZU := hide tu.size13
        have HCU := hide hcu
        have HTU := hide tu
        have HUM : Hid (u ∈ t.is) := List.mem_of_getElem? hu
        have HU := hide hu
        clear hcells tu hcu hu
        have HI2 : Hid (∀ t' : Tv, SrtR u t' → ∀ (j p : Nat) (x v : Tv), j < i + 1 → ps[j]? = some p → t.is[p]? = some x → (ms ++ [t'])[j]? = some v → SrtR x v) := fun t' htr j p x v hj hp hx hv => by
          have hml := HN.out.1
          by_cases hji : j = i
          · subst hji
            rw [HQ.out] at hp
            injection hp with hp
            subst hp
            rw [HU.out] at hx
            injection hx with hx
            rw [List.getElem?_append_right (by omega), hml, Nat.sub_self] at hv
            simp at hv
            rw [← hx, ← hv]
            exact htr
          · rw [List.getElem?_append_left (by omega)] at hv
            exact HI.out j p x v (by omega) hp hx hv
        go_wp2_with fail
        go_cut [] from 23 to 35 (fun wx => ∃ v5, Hid (Tus w wx g cs t vy v5 vI (.slice (some ⟨gl, 0, none⟩) ps.length cl) ps (kk ++ [s]) ms L))
        case first => as_aux_lemma =>
          refine heldStart (S := S16 w cs g (.slice (some ⟨gl, 0, none⟩) ps.length cl) ps) (by kernel_rfl) ?_
          have HTD : Hid (Tus w wr.drew g cs t vy vK vI (.slice (some ⟨gl, 0, none⟩) ps.length cl) ps kk ms L) := HT.out.next (by refine Below.drew ?_; exact Below.refl _ _)
          have hS : S16 w cs g (.slice (some ⟨gl, 0, none⟩) ps.length cl) ps wr.drew := ⟨HTD.out.b, HTD.out.p, HTD.out.l⟩
          refine heldTake 0 _ rfl (by kernel_rfl) (by kernel_rfl) (by kernel_rfl) (fun _ _ _ h => h) rfl hS (fun wy hy => by first | (go_simp; done) | (go_simp; rfl) | rfl) ?_
          (try simp only [Act.put]); (try simp only [List.setIfInBounds_toArray, List.set_cons_zero, List.set_cons_succ])
          refine heldTake 2 _ rfl (by kernel_rfl) (by kernel_rfl) (by kernel_rfl) (fun _ _ _ h => h) rfl hS (fun wy hy => by first | (go_simp; done) | (go_simp; rfl) | rfl) ?_
          (try simp only [Act.put]); (try simp only [List.setIfInBounds_toArray, List.set_cons_zero, List.set_cons_succ])
          refine heldTake 4 _ rfl (by kernel_rfl) (by kernel_rfl) (by kernel_rfl) (fun _ _ _ h => h) rfl hS (fun wy hy => by first | (go_simp; done) | (go_simp; rfl) | rfl) ?_
          (try simp only [Act.put]); (try simp only [List.setIfInBounds_toArray, List.set_cons_zero, List.set_cons_succ])
          refine heldTake 5 _ rfl (by kernel_rfl) (by kernel_rfl) (by kernel_rfl) (fun _ _ _ h => h) rfl hS (fun wy hy => by first | (go_simp; done) | (go_simp; rfl) | rfl) ?_
          (try simp only [Act.put]); (try simp only [List.setIfInBounds_toArray, List.set_cons_zero, List.set_cons_succ])
          refine heldTake 3 _ rfl (by kernel_rfl) (by kernel_rfl) (by kernel_rfl) (fun _ _ _ h => h) rfl hS (fun wy hy => by have h0 := blk_cell (j := 11) hy.2.1 HC11.out; first | (go_simp; done) | (go_simp; rfl) | rfl) ?_
          (try simp only [Act.put]); (try simp only [List.setIfInBounds_toArray, List.set_cons_zero, List.set_cons_succ])
          refine heldTake 6 _ rfl (by kernel_rfl) (by kernel_rfl) (by kernel_rfl) (fun _ _ _ h => h) rfl hS (fun wy hy => by first | (go_simp; done) | (go_simp; rfl) | rfl) ?_
          (try simp only [Act.put]); (try simp only [List.setIfInBounds_toArray, List.set_cons_zero, List.set_cons_succ])
          refine heldTake 7 _ rfl (by kernel_rfl) (by kernel_rfl) (by kernel_rfl) (fun _ _ _ h => h) rfl hS (fun wy hy => by have h0 := (own_cell hy.2.2 HPI.out).1; first | (go_simp; done) | (go_simp; rfl) | rfl) ?_
          (try simp only [Act.put]); (try simp only [List.setIfInBounds_toArray, List.set_cons_zero, List.set_cons_succ])
          refine heldTake 8 _ rfl (by kernel_rfl) (by kernel_rfl) (by kernel_rfl) (fun _ _ _ h => h) rfl hS (fun wy hy => by first | (go_simp; done) | (go_simp; rfl) | rfl) ?_
          (try simp only [Act.put]); (try simp only [List.setIfInBounds_toArray, List.set_cons_zero, List.set_cons_succ])
          refine heldTake 9 _ rfl (by kernel_rfl) (by kernel_rfl) (by kernel_rfl) (fun _ _ _ h => h) rfl hS (fun wy hy => by have h0 := keep_below hy.1 _ _ HCS.out; first | (go_simp; done) | (go_simp; rfl) | rfl) ?_
          (try simp only [Act.put]); (try simp only [List.setIfInBounds_toArray, List.set_cons_zero, List.set_cons_succ])
          refine wpAnyH_ready (rs := [1, 10]) (by kernel_rfl) (by simp) ?_
          refine AllReadyH.cons rfl (fun K hK => ?_) (AllReadyH.cons rfl (fun K hK => ?_) AllReadyH.nil)
          · as_aux_lemma =>
            have x11 : wr.cell? ⟨g, 11, none⟩ = some vK := blk_cell (j := 11) HTD.out.x rfl
            go_simp
            refine (Shut.out hK) _ _ hS (fun hS2 => ?_)
            clear hK K hS2
            (try simp only [Act.put]); (try simp only [List.setIfInBounds_toArray, List.set_cons_zero, List.set_cons_succ])
            refine heldStep 10 rfl (by kernel_rfl) (fun K hK => ?_)
            go_simp
            have HGB : Hid ((wr.alloc (.cells #[.string s] 9)).drew.heap[wr.heap.size]? = some (.cells #[.string s] 9 (0, 0))) := heap_alloc_new wr (.cells #[.string s] 9)
            have HTZ : Hid (Tus w (wr.alloc (.cells #[.string s] 9)).drew g cs t vy vK vI (.slice (some ⟨gl, 0, none⟩) ps.length cl) ps kk ms L) := (HT.out.next (below_alloc4 wr (.cells #[.string s] 9))).next (by refine Below.drew ?_; exact Below.refl _ _)
            refine (Hid.out hK) _ _ ⟨HTZ.out.b, HTZ.out.p, HTZ.out.l⟩ (fun hS2 => ?_)
            clear hK K x11 HTD hS2
            (try simp only [Act.put]); (try simp only [List.setIfInBounds_toArray, List.set_cons_zero, List.set_cons_succ])
            refine heldStep 11 rfl (by kernel_rfl) (fun K hK => ?_)
            refine step_append_str rfl _ _ rfl (g + 1) vK kk.length kk rfl HTZ.out.k _ s rfl HGB.out (by have := HKL.out; omega) (by have := blk_lt HTZ.out.x; omega) (fun v5 w5 ho5 hg5 hq5 => ?_)
            obtain ⟨a5, c5, hv5⟩ := own_slice ho5
            subst hv5
            have HT5 : Hid (Tus w (w5.setCell ⟨g, 11, none⟩ (.slice a5 (kk.length + 1) c5)) g cs t vy (.slice a5 (kk.length + 1) c5) vI (.slice (some ⟨gl, 0, none⟩) ps.length cl) ps (kk ++ [s]) ms L) := HTZ.out.addk (by rw [List.length_append]; exact ho5) hg5 hq5
            have hne5 : ¬ vK.ownBlock = some g := fun e => by have := HTZ.out.k.lt _ e; omega
            have hk5 : Kp (fun q => vK.ownBlock = some q) _ w5 := (Kp.refl _ _).grown hg5 (fun k _ e => e)
            have hx5 : w5.heap[g]? = some (.cells (vcs t vy vK vI) 55 (0, 0)) := (hk5.block _ (blk_lt HTZ.out.x) hne5).trans HTZ.out.x
            have c11 : w5.cell? ⟨g, 11, none⟩ = some vK := blk_cell (j := 11) hx5 rfl
            have f11 : w5.frozen? ⟨g, 11, none⟩ = false := blk_frozen 11 hx5
            have hS5 : S16 w cs g (.slice (some ⟨gl, 0, none⟩) ps.length cl) ps w5 := by
              have hgg := HTZ.out.gg
              exact ⟨HTZ.out.b.trans (hk5.below HTZ.out.b.size (fun q e => by have := HTZ.out.k.lt q e; omega)), (hk5.block _ (blk_lt HTZ.out.p) (fun e => by have := HTZ.out.k.lt _ e; omega)).trans HTZ.out.p, hk5.owns HTZ.out.l (fun q h1 h2 => own_dis HTZ.out.l HTZ.out.k (by decide) q h1 h2)⟩
            refine (Hid.out hK) _ _ hS5 (fun hS6 => ?_)
            clear hK K hg5 hq5 ho5 hx5 hS5 hne5 hk5
            (try simp only [Act.put]); (try simp only [List.setIfInBounds_toArray, List.set_cons_zero, List.set_cons_succ])
            refine heldTake 12 _ rfl (by kernel_rfl) (by kernel_rfl) (by kernel_rfl) (fun _ _ _ h => h) rfl hS6 (fun wy hy => by first | (go_simp; done) | (go_simp; rfl) | rfl) ?_
            (try simp only [Act.put]); (try simp only [List.setIfInBounds_toArray, List.set_cons_zero, List.set_cons_succ])
            refine heldStep 13 rfl (by kernel_rfl) (fun K hK => ?_)
            go_simp
            refine (Hid.out hK) _ _ ⟨HT5.out.b, HT5.out.p, HT5.out.l⟩ (fun hS7 => ?_)
            clear hK K
            (try simp only [Act.put]); (try simp only [List.setIfInBounds_toArray, List.set_cons_zero, List.set_cons_succ])
            refine heldDone (by kernel_rfl) ?_
            clear hS hS6 hS7 c11 f11
            go_wp2_with fail
            go_meet
            case rel => exact ⟨_, HT5⟩
          · as_aux_lemma =>
            go_simp
            have HGB : Hid ((wr.alloc (.cells #[.string s] 9)).drew.heap[wr.heap.size]? = some (.cells #[.string s] 9 (0, 0))) := heap_alloc_new wr (.cells #[.string s] 9)
            have HTZ : Hid (Tus w (wr.alloc (.cells #[.string s] 9)).drew g cs t vy vK vI (.slice (some ⟨gl, 0, none⟩) ps.length cl) ps kk ms L) := (HT.out.next (below_alloc4 wr (.cells #[.string s] 9))).next (by refine Below.drew ?_; exact Below.refl _ _)
            have x11 : (wr.alloc (.cells #[.string s] 9)).cell? ⟨g, 11, none⟩ = some vK := blk_cell (j := 11) HTZ.out.x rfl
            refine (Shut.out hK) _ _ ⟨HTZ.out.b, HTZ.out.p, HTZ.out.l⟩ (fun hS2 => ?_)
            clear hK K hS HTD
            have hS := hS2
            clear hS2
            (try simp only [Act.put]); (try simp only [List.setIfInBounds_toArray, List.set_cons_zero, List.set_cons_succ])
            refine heldStep 1 rfl (by kernel_rfl) (fun K hK => ?_)
            go_simp
            refine (Hid.out hK) _ _ hS (fun hS2 => ?_)
            clear hK K x11 hS2
            (try simp only [Act.put]); (try simp only [List.setIfInBounds_toArray, List.set_cons_zero, List.set_cons_succ])
            refine heldStep 11 rfl (by kernel_rfl) (fun K hK => ?_)
            refine step_append_str rfl _ _ rfl (g + 1) vK kk.length kk rfl HTZ.out.k _ s rfl HGB.out (by have := HKL.out; omega) (by have := blk_lt HTZ.out.x; omega) (fun v5 w5 ho5 hg5 hq5 => ?_)
            obtain ⟨a5, c5, hv5⟩ := own_slice ho5
            subst hv5
            have HT5 : Hid (Tus w (w5.setCell ⟨g, 11, none⟩ (.slice a5 (kk.length + 1) c5)) g cs t vy (.slice a5 (kk.length + 1) c5) vI (.slice (some ⟨gl, 0, none⟩) ps.length cl) ps (kk ++ [s]) ms L) := HTZ.out.addk (by rw [List.length_append]; exact ho5) hg5 hq5
            have hne5 : ¬ vK.ownBlock = some g := fun e => by have := HTZ.out.k.lt _ e; omega
            have hk5 : Kp (fun q => vK.ownBlock = some q) _ w5 := (Kp.refl _ _).grown hg5 (fun k _ e => e)
            have hx5 : w5.heap[g]? = some (.cells (vcs t vy vK vI) 55 (0, 0)) := (hk5.block _ (blk_lt HTZ.out.x) hne5).trans HTZ.out.x
            have c11 : w5.cell? ⟨g, 11, none⟩ = some vK := blk_cell (j := 11) hx5 rfl
            have f11 : w5.frozen? ⟨g, 11, none⟩ = false := blk_frozen 11 hx5
            have hS5 : S16 w cs g (.slice (some ⟨gl, 0, none⟩) ps.length cl) ps w5 := by
              have hgg := HTZ.out.gg
              exact ⟨HTZ.out.b.trans (hk5.below HTZ.out.b.size (fun q e => by have := HTZ.out.k.lt q e; omega)), (hk5.block _ (blk_lt HTZ.out.p) (fun e => by have := HTZ.out.k.lt _ e; omega)).trans HTZ.out.p, hk5.owns HTZ.out.l (fun q h1 h2 => own_dis HTZ.out.l HTZ.out.k (by decide) q h1 h2)⟩
            refine (Hid.out hK) _ _ hS5 (fun hS6 => ?_)
            clear hK K hg5 hq5 ho5 hx5 hS5 hne5 hk5
            (try simp only [Act.put]); (try simp only [List.setIfInBounds_toArray, List.set_cons_zero, List.set_cons_succ])
            refine heldTake 12 _ rfl (by kernel_rfl) (by kernel_rfl) (by kernel_rfl) (fun _ _ _ h => h) rfl hS6 (fun wy hy => by first | (go_simp; done) | (go_simp; rfl) | rfl) ?_
            (try simp only [Act.put]); (try simp only [List.setIfInBounds_toArray, List.set_cons_zero, List.set_cons_succ])
            refine heldStep 13 rfl (by kernel_rfl) (fun K hK => ?_)
            go_simp
            refine (Hid.out hK) _ _ ⟨HT5.out.b, HT5.out.p, HT5.out.l⟩ (fun hS7 => ?_)
            clear hK K
            (try simp only [Act.put]); (try simp only [List.setIfInBounds_toArray, List.set_cons_zero, List.set_cons_succ])
            refine heldDone (by kernel_rfl) ?_
            clear hS hS6 hS7 c11 f11
            go_wp2_with fail
            go_meet
            case rel => exact ⟨_, HT5⟩
        case rest =>
          obtain ⟨v5, HTW⟩ := hcut
          obtain ⟨w4, hw4⟩ : ∃ x, x = wc := ⟨_, rfl⟩
          subst hw4
          clear HT
          have HCL : Hid (∀ wz, Tus w wz g cs t vy v5 vI (.slice (some ⟨gl, 0, none⟩) ps.length cl) ps (kk ++ [s]) ms L → Calls Tryz.prog 21 #[.agg cu] wz fun e w' => ∃ c t', e = .returned (.agg c) ∧ Tis w' (fun q => q ≤ g ∨ v5.ownBlock = some q ∨ vI.ownBlock = some q) t' c ∧ SrtR u t' ∧ Below wz.heap.size wz w') := fun wz hz => by
            refine (HIH.out u HUM.out wz cu (HTU.out.move (keep_below hz.b)) (HTK.out.i u HUM.out) (Nat.le_trans (tmuchL_mem HUM.out) HML.out.1)).mono ?_
            rintro e w' ⟨c, t', he, h1, h2, h3⟩
            refine ⟨c, t', he, h1.mono (fun q e => ?_), h2, h3⟩
            rcases e with e | e | e
            · have := blk_lt hz.x
              omega
            · exact (hz.k.lt q e).2
            · exact (hz.o.lt q e).2
          go_wp2_with fail
          refine heldStart (S := S16 w cs g (.slice (some ⟨gl, 0, none⟩) ps.length cl) ps) (by kernel_rfl) ?_
          have HTD : Hid (Tus w w4.drew g cs t vy v5 vI (.slice (some ⟨gl, 0, none⟩) ps.length cl) ps (kk ++ [s]) ms L) := HTW.out.next (by refine Below.drew ?_; exact Below.refl _ _)
          have hS : S16 w cs g (.slice (some ⟨gl, 0, none⟩) ps.length cl) ps w4.drew := ⟨HTD.out.b, HTD.out.p, HTD.out.l⟩
          refine heldTake 0 _ rfl (by kernel_rfl) (by kernel_rfl) (by kernel_rfl) (fun _ _ _ h => h) rfl hS (fun wy hy => by first | (go_simp; done) | (go_simp; rfl) | rfl) ?_
          (try simp only [Act.put]); (try simp only [List.setIfInBounds_toArray, List.set_cons_zero, List.set_cons_succ])
          refine heldTake 2 _ rfl (by kernel_rfl) (by kernel_rfl) (by kernel_rfl) (fun _ _ _ h => h) rfl hS (fun wy hy => by first | (go_simp; done) | (go_simp; rfl) | rfl) ?_
          (try simp only [Act.put]); (try simp only [List.setIfInBounds_toArray, List.set_cons_zero, List.set_cons_succ])
          refine heldTake 4 _ rfl (by kernel_rfl) (by kernel_rfl) (by kernel_rfl) (fun _ _ _ h => h) rfl hS (fun wy hy => by first | (go_simp; done) | (go_simp; rfl) | rfl) ?_
          (try simp only [Act.put]); (try simp only [List.setIfInBounds_toArray, List.set_cons_zero, List.set_cons_succ])
          refine heldTake 5 _ rfl (by kernel_rfl) (by kernel_rfl) (by kernel_rfl) (fun _ _ _ h => h) rfl hS (fun wy hy => by first | (go_simp; done) | (go_simp; rfl) | rfl) ?_
          (try simp only [Act.put]); (try simp only [List.setIfInBounds_toArray, List.set_cons_zero, List.set_cons_succ])
          refine heldTake 3 _ rfl (by kernel_rfl) (by kernel_rfl) (by kernel_rfl) (fun _ _ _ h => h) rfl hS (fun wy hy => by have h0 := blk_cell (j := 12) hy.2.1 HC12.out; first | (go_simp; done) | (go_simp; rfl) | rfl) ?_
          (try simp only [Act.put]); (try simp only [List.setIfInBounds_toArray, List.set_cons_zero, List.set_cons_succ])
          refine heldTake 6 _ rfl (by kernel_rfl) (by kernel_rfl) (by kernel_rfl) (fun _ _ _ h => h) rfl hS (fun wy hy => by first | (go_simp; done) | (go_simp; rfl) | rfl) ?_
          (try simp only [Act.put]); (try simp only [List.setIfInBounds_toArray, List.set_cons_zero, List.set_cons_succ])
          refine heldTake 7 _ rfl (by kernel_rfl) (by kernel_rfl) (by kernel_rfl) (fun _ _ _ h => h) rfl hS (fun wy hy => by have h0 := (own_cell hy.2.2 HPI.out).1; first | (go_simp; done) | (go_simp; rfl) | rfl) ?_
          (try simp only [Act.put]); (try simp only [List.setIfInBounds_toArray, List.set_cons_zero, List.set_cons_succ])
          refine heldTake 8 _ rfl (by kernel_rfl) (by kernel_rfl) (by kernel_rfl) (fun _ _ _ h => h) rfl hS (fun wy hy => by first | (go_simp; done) | (go_simp; rfl) | rfl) ?_
          (try simp only [Act.put]); (try simp only [List.setIfInBounds_toArray, List.set_cons_zero, List.set_cons_succ])
          refine heldTake 9 _ rfl (by kernel_rfl) (by kernel_rfl) (by kernel_rfl) (fun _ _ _ h => h) rfl hS (fun wy hy => exec_valAt (g := b) (off := off + q * 13) (cs := cu) rfl rfl HZU.out (fun j x hx => keep_below hy.1 _ _ (HCU.out j x hx))) ?_
          (try simp only [Act.put]); (try simp only [List.setIfInBounds_toArray, List.set_cons_zero, List.set_cons_succ])
          refine wpAnyH_ready (rs := [1, 10]) (by kernel_rfl) (by simp) ?_
          refine AllReadyH.cons rfl (fun K hK => ?_) (AllReadyH.cons rfl (fun K hK => ?_) AllReadyH.nil)
          · as_aux_lemma =>
            have x12 : w4.cell? ⟨g, 12, none⟩ = some vI := blk_cell (j := 12) HTW.out.x rfl
            go_simp
            refine (Shut.out hK) _ _ hS (fun hS2 => ?_)
            clear hK K hS2
            (try simp only [Act.put]); (try simp only [List.setIfInBounds_toArray, List.set_cons_zero, List.set_cons_succ])
            refine heldStep 10 rfl (by kernel_rfl) (fun K hK => ?_)
            go_simp
            refine (HCL.out _ HTD.out).mono ?_
            rintro e w5 ⟨c, t', rfl, hc5, htr, hb5⟩
            have HTR := hide htr
            have HT5 := hide (HTD.out.next hb5)
            have HC13 := hide hc5.tin.size13
            have HON : Hid (one13 c) := ⟨HC13.out, fun x hx => by have h := hc5.tin.all1; rw [Array.all_eq_true_iff_forall_mem] at h; exact h x (by simpa using hx)⟩
            have HTZ := hide (HT5.out.next (below_alloc4 w5 (.cells c 55)))
            have HGB := hide (heap_alloc_new w5 (.cells c 55))
            have HCZ := hide (hc5.kp (Kp.of_below (below_alloc4 w5 (.cells c 55))))
            clear htr hc5 hb5
            refine (Hid.out hK) _ _ ⟨HT5.out.b, HT5.out.p, HT5.out.l⟩ (fun hS3 => ?_)
            clear hK K x12 hS3 hS
            (try simp only [Act.put]); (try simp only [List.setIfInBounds_toArray, List.set_cons_zero, List.set_cons_succ])
            refine heldStep 11 rfl (by kernel_rfl) (fun K hK => ?_)
            refine step_val1 rfl rfl c HC13.out rfl ?_
            refine (Hid.out hK) _ _ ⟨HTZ.out.b, HTZ.out.p, HTZ.out.l⟩ (fun hS4 => ?_)
            clear hK K hS4
            (try simp only [Act.put]); (try simp only [List.setIfInBounds_toArray, List.set_cons_zero, List.set_cons_succ])
            refine heldStep 12 rfl (by kernel_rfl) (fun K hK => ?_)
            refine step_append_val rfl _ _ rfl (g + 1) vI L.length (vfl L) rfl HTZ.out.o _ c HON.out rfl HGB.out (by have h1 := HTZ.out.n; have h2 := HN.out.1; have h3 := HML.out; omega) (by have := blk_lt HTZ.out.x; omega) (fun v6 w6 ho6 hg6 hq6 => ?_)
            obtain ⟨a6, c6, hv6⟩ := own_slice ho6
            subst hv6
            have HT6 : Hid (Tus w (w6.setCell ⟨g, 12, none⟩ (.slice a6 (L.length + 1) c6)) g cs t vy v5 (.slice a6 (L.length + 1) c6) (.slice (some ⟨gl, 0, none⟩) ps.length cl) ps (kk ++ [s]) (ms ++ [t']) (L ++ [c])) := HTZ.out.addi HON.out HCZ.out ho6 hg6 hq6
            have hne6 : ¬ vI.ownBlock = some g := fun e => by have := HTZ.out.o.lt _ e; omega
            have hk6 : Kp (fun q => vI.ownBlock = some q) _ w6 := (Kp.refl _ _).grown hg6 (fun k _ e => e)
            have hx6 : w6.heap[g]? = some (.cells (vcs t vy v5 vI) 55 (0, 0)) := (hk6.block _ (blk_lt HTZ.out.x) hne6).trans HTZ.out.x
            have c12 : w6.cell? ⟨g, 12, none⟩ = some vI := blk_cell (j := 12) hx6 rfl
            have f12 : w6.frozen? ⟨g, 12, none⟩ = false := blk_frozen 12 hx6
            have hS6 : S16 w cs g (.slice (some ⟨gl, 0, none⟩) ps.length cl) ps w6 := by
              have hgg := HTZ.out.gg
              exact ⟨HTZ.out.b.trans (hk6.below HTZ.out.b.size (fun q e => by have := HTZ.out.o.lt q e; omega)), (hk6.block _ (blk_lt HTZ.out.p) (fun e => by have := HTZ.out.o.lt _ e; omega)).trans HTZ.out.p, hk6.owns HTZ.out.l (fun q h1 h2 => own_dis HTZ.out.l HTZ.out.o (by decide) q h1 h2)⟩
            refine (Hid.out hK) _ _ hS6 (fun hS7 => ?_)
            clear hK K hg6 hq6 ho6 hx6 hS6 hne6 hk6
            (try simp only [Act.put]); (try simp only [List.setIfInBounds_toArray, List.set_cons_zero, List.set_cons_succ])
            refine heldTake 13 _ rfl (by kernel_rfl) (by kernel_rfl) (by kernel_rfl) (fun _ _ _ h => h) rfl hS7 (fun wy hy => by first | (go_simp; done) | (go_simp; rfl) | rfl) ?_
            (try simp only [Act.put]); (try simp only [List.setIfInBounds_toArray, List.set_cons_zero, List.set_cons_succ])
            refine heldStep 14 rfl (by kernel_rfl) (fun K hK => ?_)
            go_simp
            refine (Hid.out hK) _ _ ⟨HT6.out.b, HT6.out.p, HT6.out.l⟩ (fun hS8 => ?_)
            clear hK K
            (try simp only [Act.put]); (try simp only [List.setIfInBounds_toArray, List.set_cons_zero, List.set_cons_succ])
            refine heldDone (by kernel_rfl) ?_
            clear hS7 hS8 c12 f12
            go_wp2_with fail
            go_roundw
            case rel => exact ⟨i + 1, _, _, _, _, _, by omega, by go_num, HT6, ⟨by have := HN.out.1; simp; omega, HKS.out⟩, HI2.out t' HTR.out⟩
            case measure => simp [intOf]; omega
          · as_aux_lemma =>
            go_simp
            refine (HCL.out _ HTD.out).mono ?_
            rintro e w5 ⟨c, t', rfl, hc5, htr, hb5⟩
            have HTR := hide htr
            have HT5 := hide (HTD.out.next hb5)
            have HC13 := hide hc5.tin.size13
            have HON : Hid (one13 c) := ⟨HC13.out, fun x hx => by have h := hc5.tin.all1; rw [Array.all_eq_true_iff_forall_mem] at h; exact h x (by simpa using hx)⟩
            have HTZ := hide (HT5.out.next (below_alloc4 w5 (.cells c 55)))
            have HGB := hide (heap_alloc_new w5 (.cells c 55))
            have HCZ := hide (hc5.kp (Kp.of_below (below_alloc4 w5 (.cells c 55))))
            clear htr hc5 hb5
            have x12 : w5.cell? ⟨g, 12, none⟩ = some vI := blk_cell (j := 12) HT5.out.x rfl
            have x13 : (w5.alloc (.cells c 55)).cell? ⟨g, 12, none⟩ = some vI := blk_cell (j := 12) HTZ.out.x rfl
            refine (Shut.out hK) _ _ ⟨HT5.out.b, HT5.out.p, HT5.out.l⟩ (fun hS3 => ?_)
            clear hK K hS
            (try simp only [Act.put]); (try simp only [List.setIfInBounds_toArray, List.set_cons_zero, List.set_cons_succ])
            refine wpAnyH_ready (rs := [1, 11]) (by kernel_rfl) (by simp) ?_
            refine AllReadyH.cons rfl (fun K hK => ?_) (AllReadyH.cons rfl (fun K hK => ?_) AllReadyH.nil)
            · as_aux_lemma =>
              go_simp
              refine (Shut.out hK) _ _ hS3 (fun hS2 => ?_)
              clear hK K hS2 x12 x13
              (try simp only [Act.put]); (try simp only [List.setIfInBounds_toArray, List.set_cons_zero, List.set_cons_succ])
              refine heldStep 11 rfl (by kernel_rfl) (fun K hK => ?_)
              refine step_val1 rfl rfl c HC13.out rfl ?_
              refine (Hid.out hK) _ _ ⟨HTZ.out.b, HTZ.out.p, HTZ.out.l⟩ (fun hS4 => ?_)
              clear hK K hS4
              (try simp only [Act.put]); (try simp only [List.setIfInBounds_toArray, List.set_cons_zero, List.set_cons_succ])
              refine heldStep 12 rfl (by kernel_rfl) (fun K hK => ?_)
              refine step_append_val rfl _ _ rfl (g + 1) vI L.length (vfl L) rfl HTZ.out.o _ c HON.out rfl HGB.out (by have h1 := HTZ.out.n; have h2 := HN.out.1; have h3 := HML.out; omega) (by have := blk_lt HTZ.out.x; omega) (fun v6 w6 ho6 hg6 hq6 => ?_)
              obtain ⟨a6, c6, hv6⟩ := own_slice ho6
              subst hv6
              have HT6 : Hid (Tus w (w6.setCell ⟨g, 12, none⟩ (.slice a6 (L.length + 1) c6)) g cs t vy v5 (.slice a6 (L.length + 1) c6) (.slice (some ⟨gl, 0, none⟩) ps.length cl) ps (kk ++ [s]) (ms ++ [t']) (L ++ [c])) := HTZ.out.addi HON.out HCZ.out ho6 hg6 hq6
              have hne6 : ¬ vI.ownBlock = some g := fun e => by have := HTZ.out.o.lt _ e; omega
              have hk6 : Kp (fun q => vI.ownBlock = some q) _ w6 := (Kp.refl _ _).grown hg6 (fun k _ e => e)
              have hx6 : w6.heap[g]? = some (.cells (vcs t vy v5 vI) 55 (0, 0)) := (hk6.block _ (blk_lt HTZ.out.x) hne6).trans HTZ.out.x
              have c12 : w6.cell? ⟨g, 12, none⟩ = some vI := blk_cell (j := 12) hx6 rfl
              have f12 : w6.frozen? ⟨g, 12, none⟩ = false := blk_frozen 12 hx6
              have hS6 : S16 w cs g (.slice (some ⟨gl, 0, none⟩) ps.length cl) ps w6 := by
                have hgg := HTZ.out.gg
                exact ⟨HTZ.out.b.trans (hk6.below HTZ.out.b.size (fun q e => by have := HTZ.out.o.lt q e; omega)), (hk6.block _ (blk_lt HTZ.out.p) (fun e => by have := HTZ.out.o.lt _ e; omega)).trans HTZ.out.p, hk6.owns HTZ.out.l (fun q h1 h2 => own_dis HTZ.out.l HTZ.out.o (by decide) q h1 h2)⟩
              refine (Hid.out hK) _ _ hS6 (fun hS7 => ?_)
              clear hK K hg6 hq6 ho6 hx6 hS6 hne6 hk6
              (try simp only [Act.put]); (try simp only [List.setIfInBounds_toArray, List.set_cons_zero, List.set_cons_succ])
              refine heldTake 13 _ rfl (by kernel_rfl) (by kernel_rfl) (by kernel_rfl) (fun _ _ _ h => h) rfl hS7 (fun wy hy => by first | (go_simp; done) | (go_simp; rfl) | rfl) ?_
              (try simp only [Act.put]); (try simp only [List.setIfInBounds_toArray, List.set_cons_zero, List.set_cons_succ])
              refine heldStep 14 rfl (by kernel_rfl) (fun K hK => ?_)
              go_simp
              refine (Hid.out hK) _ _ ⟨HT6.out.b, HT6.out.p, HT6.out.l⟩ (fun hS8 => ?_)
              clear hK K
              (try simp only [Act.put]); (try simp only [List.setIfInBounds_toArray, List.set_cons_zero, List.set_cons_succ])
              refine heldDone (by kernel_rfl) ?_
              clear hS7 hS8 c12 f12
              go_wp2_with fail
              go_roundw
              case rel => exact ⟨i + 1, _, _, _, _, _, by omega, by go_num, HT6, ⟨by have := HN.out.1; simp; omega, HKS.out⟩, HI2.out t' HTR.out⟩
              case measure => simp [intOf]; omega
            · as_aux_lemma =>
              refine step_val1 rfl rfl c HC13.out rfl ?_
              refine (Shut.out hK) _ _ ⟨HTZ.out.b, HTZ.out.p, HTZ.out.l⟩ (fun hS4 => ?_)
              clear hK K hS3
              (try simp only [Act.put]); (try simp only [List.setIfInBounds_toArray])
              refine heldStep 1 rfl (by kernel_rfl) (fun K hK => ?_)
              go_simp
              refine (Hid.out hK) _ _ hS4 (fun hS2 => ?_)
              clear hK K hS2 x12 x13 hS4
              (try simp only [Act.put]); (try simp only [List.setIfInBounds_toArray, List.set_cons_zero, List.set_cons_succ])
              refine heldStep 12 rfl (by kernel_rfl) (fun K hK => ?_)
              refine step_append_val rfl _ _ rfl (g + 1) vI L.length (vfl L) rfl HTZ.out.o _ c HON.out rfl HGB.out (by have h1 := HTZ.out.n; have h2 := HN.out.1; have h3 := HML.out; omega) (by have := blk_lt HTZ.out.x; omega) (fun v6 w6 ho6 hg6 hq6 => ?_)
              obtain ⟨a6, c6, hv6⟩ := own_slice ho6
              subst hv6
              have HT6 : Hid (Tus w (w6.setCell ⟨g, 12, none⟩ (.slice a6 (L.length + 1) c6)) g cs t vy v5 (.slice a6 (L.length + 1) c6) (.slice (some ⟨gl, 0, none⟩) ps.length cl) ps (kk ++ [s]) (ms ++ [t']) (L ++ [c])) := HTZ.out.addi HON.out HCZ.out ho6 hg6 hq6
              have hne6 : ¬ vI.ownBlock = some g := fun e => by have := HTZ.out.o.lt _ e; omega
              have hk6 : Kp (fun q => vI.ownBlock = some q) _ w6 := (Kp.refl _ _).grown hg6 (fun k _ e => e)
              have hx6 : w6.heap[g]? = some (.cells (vcs t vy v5 vI) 55 (0, 0)) := (hk6.block _ (blk_lt HTZ.out.x) hne6).trans HTZ.out.x
              have c12 : w6.cell? ⟨g, 12, none⟩ = some vI := blk_cell (j := 12) hx6 rfl
              have f12 : w6.frozen? ⟨g, 12, none⟩ = false := blk_frozen 12 hx6
              have hS6 : S16 w cs g (.slice (some ⟨gl, 0, none⟩) ps.length cl) ps w6 := by
                have hgg := HTZ.out.gg
                exact ⟨HTZ.out.b.trans (hk6.below HTZ.out.b.size (fun q e => by have := HTZ.out.o.lt q e; omega)), (hk6.block _ (blk_lt HTZ.out.p) (fun e => by have := HTZ.out.o.lt _ e; omega)).trans HTZ.out.p, hk6.owns HTZ.out.l (fun q h1 h2 => own_dis HTZ.out.l HTZ.out.o (by decide) q h1 h2)⟩
              refine (Hid.out hK) _ _ hS6 (fun hS7 => ?_)
              clear hK K hg6 hq6 ho6 hx6 hS6 hne6 hk6
              (try simp only [Act.put]); (try simp only [List.setIfInBounds_toArray, List.set_cons_zero, List.set_cons_succ])
              refine heldTake 13 _ rfl (by kernel_rfl) (by kernel_rfl) (by kernel_rfl) (fun _ _ _ h => h) rfl hS7 (fun wy hy => by first | (go_simp; done) | (go_simp; rfl) | rfl) ?_
              (try simp only [Act.put]); (try simp only [List.setIfInBounds_toArray, List.set_cons_zero, List.set_cons_succ])
              refine heldStep 14 rfl (by kernel_rfl) (fun K hK => ?_)
              go_simp
              refine (Hid.out hK) _ _ ⟨HT6.out.b, HT6.out.p, HT6.out.l⟩ (fun hS8 => ?_)
              clear hK K
              (try simp only [Act.put]); (try simp only [List.setIfInBounds_toArray, List.set_cons_zero, List.set_cons_succ])
              refine heldDone (by kernel_rfl) ?_
              clear hS7 hS8 c12 f12
              go_wp2_with fail
              go_roundw
              case rel => exact ⟨i + 1, _, _, _, _, _, by omega, by go_num, HT6, ⟨by have := HN.out.1; simp; omega, HKS.out⟩, HI2.out t' HTR.out⟩
              case measure => simp [intOf]; omega
      · have g1 : ¬ (i : Int) < (ps.length : Int) := by omega
        have hie : i = ps.length := by omega
        have hgg := HT.out.gg
        have HV1 : Hid (∀ j x, (vcs t vy vK vI)[j]? = some x → wr.cell? ⟨g, 0 + j, none⟩ = some x) := fun j x hx => by rw [Nat.zero_add]; exact blk_cell HT.out.x hx
        have HRR := hide HT.out.r
        have hkr := row_kp wr (w.heap.size + 1) (vcs t vy vK vI)
        have hbs := HT.out.b.size
        have HBZ : Hid (Below w.heap.size w (wr.setRow (w.heap.size + 1) (vcs t vy vK vI))) := HT.out.b.trans (hkr.below hbs (fun q e => by omega))
        have HEN : Hid ((wr.setRow (w.heap.size + 1) (vcs t vy vK vI)).heap[w.heap.size + 1]? = some (.cells (vcs t vy vK vI) 55 (0, 0))) := row_same HRR.out
        have HTR : Hid (SrtR t (Tv.mk t.k t.f t.g t.n t.b t.s t.y t.l kk ms)) := by
          have hn := HN.out
          rw [hie, List.take_length] at hn
          have hks2 : min t.ks.length t.is.length = t.ks.length := by omega
          refine SrtR.map t _ ps h9 ⟨rfl, rfl, rfl, rfl, rfl, rfl, rfl, rfl⟩ (by rw [hks2]; exact HSP.out) hn.2 hn.1 (fun j p u v hp hu hv => ?_)
          exact HI.out j p u v (by have := (List.getElem?_eq_some_iff.1 hp).1; omega) hp hu hv
        have HTS : Hid (Tis (wr.setRow (w.heap.size + 1) (vcs t vy vK vI)) (fun q => q < w.heap.size) (Tv.mk t.k t.f t.g t.n t.b t.s t.y t.l kk ms) (vcs t vy vK vI)) := by
          refine HT.out.tis HBD.out HYB.out hkr ?_ ?_ ?_
          · intro s hs
            rw [HN.out.2] at hs
            obtain ⟨p, hp, rfl⟩ := List.mem_map.1 hs
            by_cases hpl : p < t.ks.length
            · exact HKZ.out _ (by simp [List.getD, List.getElem?_eq_getElem hpl])
            · rw [List.getD_eq_getElem?_getD, List.getElem?_eq_none (by omega)]
              decide
          · have h1 := HN.out.2
            have h2 := HML.out
            have h3 := HPS.out.1
            rw [h1, pickS_len]
            simp
            omega
          · have h1 := HN.out.1
            have h2 := HML.out
            have h3 := HPS.out.1
            omega
        have HAL : Hid ((vcs t vy vK vI).all (·.oneCell') = true) := HTS.out.tin.all1
        clear HI hkr hbs hgg
        go_wp2_with (first
          | (refine wpList_valAt rfl rfl g 0 (vcs t vy vK vI) rfl rfl HV1.out ?_)
          | (refine wpList_storeRow rfl rfl (w.heap.size + 1) zv (vcs t vy vK vI) 55 rfl rfl HRR.out infoV rfl HAL.out ?_))
        exact bodyPost_ret (end_rs6 rfl HEN.out rfl) rfl ⟨_, rfl, _, HTS.out, HTR.out, HBZ.out⟩
  · have g9 : (t.k == 9) = false := beq_eq_false_iff_ne.2 h9
    go_wp2_with (refine wpList_storeRow rfl rfl w1.heap.size zv (vcs t vy vk1 vi1) 55 rfl rfl HG1.out infoV rfl HAL.out ?_; rw [World.setRow_alloc_new]; generalize w1.alloc (.cells (vcs t vy vk1 vi1) 55) = wA at *)
    generalize (wA.setCell ⟨w1.heap.size, 12, none⟩ (.slice none 0 0)).setCell ⟨w1.heap.size, 11, none⟩ (.slice none 0 0) = w2 at *
    clear c11 c12 f11 f12 q0 q11 HG1 HAL HP0 HR0' HB0 HZ0 HV0
    generalize w1.heap.size = g at *
    go_loopw [6] (fun ii wx => ∃ (i : Nat) (vI : Value) (ms : List Tv) (L : List (Array Value)), i ≤ t.is.length ∧ ii = .int .i64 (i : Nat) ∧ Hid (Tus w wx g cs t vy (.slice none 0 0) vI (.slice none 0 0) [] [] ms L) ∧ Hid (ms.length = i ∧ True) ∧ Hid (∀ (j : Nat) (u v : Tv), j < i → t.is[j]? = some u → ms[j]? = some v → SrtR u v)) (fun ii _ => t.is.length - (intOf ii).toNat)
    case atStart => exact ⟨0, _, [], [], by omega, rfl, HT0, ⟨rfl, trivial⟩, fun j u v hj => absurd hj (by omega)⟩
    case round =>
      clear HT0
      obtain ⟨i, vI, ms, L, hi, rfl, HT, HN, HI⟩ := hrel
      have q12 := blk_cell (j := 12) HT.out.p HC12.out
      by_cases hlt : i < t.is.length
      · as_aux_lemma =>
        have g1 : (i : Int) < (t.is.length : Int) := by omega
        obtain ⟨q, hq⟩ : ∃ q, q = i := ⟨_, rfl⟩
        subst hq
        have hql : q < t.is.length := hlt
        obtain ⟨u, hu⟩ : ∃ u, t.is[q]? = some u := ⟨t.is[q], List.getElem?_eq_getElem hql⟩
        obtain ⟨b, off, rfl, hcells⟩ := HFI.out.resolve_left (fun h => by rw [h] at hql; simp at hql)
        obtain ⟨cu, tu, hcu⟩ := hcells q u hu
        have HZU := hide tu.size13
        have HCU := hide hcu
        have HTU := hide tu
        have HUM : Hid (u ∈ t.is) := List.mem_of_getElem? hu
        have HU := hide hu
        clear hcells tu hcu hu
        have HI2 : Hid (∀ t' : Tv, SrtR u t' → ∀ (j : Nat) (x v : Tv), j < q + 1 → t.is[j]? = some x → (ms ++ [t'])[j]? = some v → SrtR x v) := fun t' htr j x v hj hx hv => by
          have hml := HN.out.1
          by_cases hji : j = q
          · subst hji
            rw [HU.out] at hx
            injection hx with hx
            rw [List.getElem?_append_right (by omega), hml, Nat.sub_self] at hv
            simp at hv
            rw [← hx, ← hv]
            exact htr
          · rw [List.getElem?_append_left (by omega)] at hv
            exact HI.out j x v (by omega) hx hv
        have HTW := HT
        clear HT
        have HCL : Hid (∀ wz, Tus w wz g cs t vy (Value.slice none 0 0) vI (Value.slice none 0 0) [] [] ms L → Calls Tryz.prog 21 #[.agg cu] wz fun e w' => ∃ c t', e = .returned (.agg c) ∧ Tis w' (fun q => q ≤ g ∨ (Value.slice none 0 0).ownBlock = some q ∨ vI.ownBlock = some q) t' c ∧ SrtR u t' ∧ Below wz.heap.size wz w') := fun wz hz => by
          refine (HIH.out u HUM.out wz cu (HTU.out.move (keep_below hz.b)) (HTK.out.i u HUM.out) (Nat.le_trans (tmuchL_mem HUM.out) HML.out.1)).mono ?_
          rintro e w' ⟨c, t', he, h1, h2, h3⟩
          refine ⟨c, t', he, h1.mono (fun q e => ?_), h2, h3⟩
          rcases e with e | e | e
          · have := blk_lt hz.x
            omega
          · exact (hz.k.lt q e).2
          · exact (hz.o.lt q e).2
        go_wp2_with fail
        clear q12
        refine heldStart (S := S16 w cs g (Value.slice none 0 0) []) (by kernel_rfl) ?_
        have HTD : Hid (Tus w wr.drew g cs t vy (Value.slice none 0 0) vI (Value.slice none 0 0) [] [] ms L) := HTW.out.next (by refine Below.drew ?_; exact Below.refl _ _)
        have hS : S16 w cs g (Value.slice none 0 0) [] wr.drew := ⟨HTD.out.b, HTD.out.p, HTD.out.l⟩
        refine heldTake 0 _ rfl (by kernel_rfl) (by kernel_rfl) (by kernel_rfl) (fun _ _ _ h => h) rfl hS (fun wy hy => by first | (go_simp; done) | (go_simp; rfl) | rfl) ?_
        (try simp only [Act.put]); (try simp only [List.setIfInBounds_toArray, List.set_cons_zero, List.set_cons_succ])
        refine heldTake 2 _ rfl (by kernel_rfl) (by kernel_rfl) (by kernel_rfl) (fun _ _ _ h => h) rfl hS (fun wy hy => by first | (go_simp; done) | (go_simp; rfl) | rfl) ?_
        (try simp only [Act.put]); (try simp only [List.setIfInBounds_toArray, List.set_cons_zero, List.set_cons_succ])
        refine heldTake 4 _ rfl (by kernel_rfl) (by kernel_rfl) (by kernel_rfl) (fun _ _ _ h => h) rfl hS (fun wy hy => by first | (go_simp; done) | (go_simp; rfl) | rfl) ?_
        (try simp only [Act.put]); (try simp only [List.setIfInBounds_toArray, List.set_cons_zero, List.set_cons_succ])
        refine heldTake 3 _ rfl (by kernel_rfl) (by kernel_rfl) (by kernel_rfl) (fun _ _ _ h => h) rfl hS (fun wy hy => by have h0 := blk_cell (j := 12) hy.2.1 HC12.out; first | (go_simp; done) | (go_simp; rfl) | rfl) ?_
        (try simp only [Act.put]); (try simp only [List.setIfInBounds_toArray, List.set_cons_zero, List.set_cons_succ])
        refine heldTake 5 _ rfl (by kernel_rfl) (by kernel_rfl) (by kernel_rfl) (fun _ _ _ h => h) rfl hS (fun wy hy => by first | (go_simp; done) | (go_simp; rfl) | rfl) ?_
        (try simp only [Act.put]); (try simp only [List.setIfInBounds_toArray, List.set_cons_zero, List.set_cons_succ])
        refine heldTake 6 _ rfl (by kernel_rfl) (by kernel_rfl) (by kernel_rfl) (fun _ _ _ h => h) rfl hS (fun wy hy => exec_valAt (g := b) (off := off + q * 13) (cs := cu) rfl rfl HZU.out (fun j x hx => keep_below hy.1 _ _ (HCU.out j x hx))) ?_
        (try simp only [Act.put]); (try simp only [List.setIfInBounds_toArray, List.set_cons_zero, List.set_cons_succ])
        refine wpAnyH_ready (rs := [1, 7]) (by kernel_rfl) (by simp) ?_
        refine AllReadyH.cons rfl (fun K hK => ?_) (AllReadyH.cons rfl (fun K hK => ?_) AllReadyH.nil)
        · as_aux_lemma =>
          have x12 : wr.cell? ⟨g, 12, none⟩ = some vI := blk_cell (j := 12) HTW.out.x rfl
          go_simp
          refine (Shut.out hK) _ _ hS (fun hS2 => ?_)
          clear hK K hS2
          (try simp only [Act.put]); (try simp only [List.setIfInBounds_toArray, List.set_cons_zero, List.set_cons_succ])
          refine heldStep 7 rfl (by kernel_rfl) (fun K hK => ?_)
          go_simp
          refine (HCL.out _ HTD.out).mono ?_
          rintro e w5 ⟨c, t', rfl, hc5, htr, hb5⟩
          have HTR := hide htr
          have HT5 := hide (HTD.out.next hb5)
          have HC13 := hide hc5.tin.size13
          have HON : Hid (one13 c) := ⟨HC13.out, fun x hx => by have h := hc5.tin.all1; rw [Array.all_eq_true_iff_forall_mem] at h; exact h x (by simpa using hx)⟩
          have HTZ := hide (HT5.out.next (below_alloc4 w5 (.cells c 55)))
          have HGB := hide (heap_alloc_new w5 (.cells c 55))
          have HCZ := hide (hc5.kp (Kp.of_below (below_alloc4 w5 (.cells c 55))))
          clear htr hc5 hb5
          refine (Hid.out hK) _ _ ⟨HT5.out.b, HT5.out.p, HT5.out.l⟩ (fun hS3 => ?_)
          clear hK K x12 hS3 hS
          (try simp only [Act.put]); (try simp only [List.setIfInBounds_toArray, List.set_cons_zero, List.set_cons_succ])
          refine heldStep 8 rfl (by kernel_rfl) (fun K hK => ?_)
          refine step_val1 rfl rfl c HC13.out rfl ?_
          refine (Hid.out hK) _ _ ⟨HTZ.out.b, HTZ.out.p, HTZ.out.l⟩ (fun hS4 => ?_)
          clear hK K hS4
          (try simp only [Act.put]); (try simp only [List.setIfInBounds_toArray, List.set_cons_zero, List.set_cons_succ])
          refine heldStep 9 rfl (by kernel_rfl) (fun K hK => ?_)
          refine step_append_val rfl _ _ rfl (g + 1) vI L.length (vfl L) rfl HTZ.out.o _ c HON.out rfl HGB.out (by have h1 := HTZ.out.n; have h2 := HN.out.1; have h3 := HML.out; omega) (by have := blk_lt HTZ.out.x; omega) (fun v6 w6 ho6 hg6 hq6 => ?_)
          obtain ⟨a6, c6, hv6⟩ := own_slice ho6
          subst hv6
          have HT6 : Hid (Tus w (w6.setCell ⟨g, 12, none⟩ (.slice a6 (L.length + 1) c6)) g cs t vy (Value.slice none 0 0) (.slice a6 (L.length + 1) c6) (Value.slice none 0 0) [] [] (ms ++ [t']) (L ++ [c])) := HTZ.out.addi HON.out HCZ.out ho6 hg6 hq6
          have hne6 : ¬ vI.ownBlock = some g := fun e => by have := HTZ.out.o.lt _ e; omega
          have hk6 : Kp (fun q => vI.ownBlock = some q) _ w6 := (Kp.refl _ _).grown hg6 (fun k _ e => e)
          have hx6 : w6.heap[g]? = some (.cells (vcs t vy (Value.slice none 0 0) vI) 55 (0, 0)) := (hk6.block _ (blk_lt HTZ.out.x) hne6).trans HTZ.out.x
          have c12 : w6.cell? ⟨g, 12, none⟩ = some vI := blk_cell (j := 12) hx6 rfl
          have f12 : w6.frozen? ⟨g, 12, none⟩ = false := blk_frozen 12 hx6
          have hS6 : S16 w cs g (Value.slice none 0 0) [] w6 := by
            have hgg := HTZ.out.gg
            exact ⟨HTZ.out.b.trans (hk6.below HTZ.out.b.size (fun q e => by have := HTZ.out.o.lt q e; omega)), (hk6.block _ (blk_lt HTZ.out.p) (fun e => by have := HTZ.out.o.lt _ e; omega)).trans HTZ.out.p, hk6.owns HTZ.out.l (fun q h1 h2 => own_dis HTZ.out.l HTZ.out.o (by decide) q h1 h2)⟩
          refine (Hid.out hK) _ _ hS6 (fun hS7 => ?_)
          clear hK K hg6 hq6 ho6 hx6 hS6 hne6 hk6
          (try simp only [Act.put]); (try simp only [List.setIfInBounds_toArray, List.set_cons_zero, List.set_cons_succ])
          refine heldTake 10 _ rfl (by kernel_rfl) (by kernel_rfl) (by kernel_rfl) (fun _ _ _ h => h) rfl hS7 (fun wy hy => by first | (go_simp; done) | (go_simp; rfl) | rfl) ?_
          (try simp only [Act.put]); (try simp only [List.setIfInBounds_toArray, List.set_cons_zero, List.set_cons_succ])
          refine heldStep 11 rfl (by kernel_rfl) (fun K hK => ?_)
          go_simp
          refine (Hid.out hK) _ _ ⟨HT6.out.b, HT6.out.p, HT6.out.l⟩ (fun hS8 => ?_)
          clear hK K
          (try simp only [Act.put]); (try simp only [List.setIfInBounds_toArray, List.set_cons_zero, List.set_cons_succ])
          refine heldDone (by kernel_rfl) ?_
          clear hS7 hS8 c12 f12
          go_wp2_with fail
          go_roundw
          case rel => exact ⟨q + 1, _, _, _, by omega, by go_num, HT6, ⟨by have := HN.out.1; simp; omega, trivial⟩, HI2.out t' HTR.out⟩
          case measure => simp [intOf]; omega
        · as_aux_lemma =>
          go_simp
          refine (HCL.out _ HTD.out).mono ?_
          rintro e w5 ⟨c, t', rfl, hc5, htr, hb5⟩
          have HTR := hide htr
          have HT5 := hide (HTD.out.next hb5)
          have HC13 := hide hc5.tin.size13
          have HON : Hid (one13 c) := ⟨HC13.out, fun x hx => by have h := hc5.tin.all1; rw [Array.all_eq_true_iff_forall_mem] at h; exact h x (by simpa using hx)⟩
          have HTZ := hide (HT5.out.next (below_alloc4 w5 (.cells c 55)))
          have HGB := hide (heap_alloc_new w5 (.cells c 55))
          have HCZ := hide (hc5.kp (Kp.of_below (below_alloc4 w5 (.cells c 55))))
          clear htr hc5 hb5
          have x12 : w5.cell? ⟨g, 12, none⟩ = some vI := blk_cell (j := 12) HT5.out.x rfl
          have x13 : (w5.alloc (.cells c 55)).cell? ⟨g, 12, none⟩ = some vI := blk_cell (j := 12) HTZ.out.x rfl
          refine (Shut.out hK) _ _ ⟨HT5.out.b, HT5.out.p, HT5.out.l⟩ (fun hS3 => ?_)
          clear hK K hS
          (try simp only [Act.put]); (try simp only [List.setIfInBounds_toArray, List.set_cons_zero, List.set_cons_succ])
          refine wpAnyH_ready (rs := [1, 8]) (by kernel_rfl) (by simp) ?_
          refine AllReadyH.cons rfl (fun K hK => ?_) (AllReadyH.cons rfl (fun K hK => ?_) AllReadyH.nil)
          · as_aux_lemma =>
            go_simp
            refine (Shut.out hK) _ _ hS3 (fun hS2 => ?_)
            clear hK K hS2 x12 x13
            (try simp only [Act.put]); (try simp only [List.setIfInBounds_toArray, List.set_cons_zero, List.set_cons_succ])
            refine heldStep 8 rfl (by kernel_rfl) (fun K hK => ?_)
            refine step_val1 rfl rfl c HC13.out rfl ?_
            refine (Hid.out hK) _ _ ⟨HTZ.out.b, HTZ.out.p, HTZ.out.l⟩ (fun hS4 => ?_)
            clear hK K hS4
            (try simp only [Act.put]); (try simp only [List.setIfInBounds_toArray, List.set_cons_zero, List.set_cons_succ])
            refine heldStep 9 rfl (by kernel_rfl) (fun K hK => ?_)
            refine step_append_val rfl _ _ rfl (g + 1) vI L.length (vfl L) rfl HTZ.out.o _ c HON.out rfl HGB.out (by have h1 := HTZ.out.n; have h2 := HN.out.1; have h3 := HML.out; omega) (by have := blk_lt HTZ.out.x; omega) (fun v6 w6 ho6 hg6 hq6 => ?_)
            obtain ⟨a6, c6, hv6⟩ := own_slice ho6
            subst hv6
            have HT6 : Hid (Tus w (w6.setCell ⟨g, 12, none⟩ (.slice a6 (L.length + 1) c6)) g cs t vy (Value.slice none 0 0) (.slice a6 (L.length + 1) c6) (Value.slice none 0 0) [] [] (ms ++ [t']) (L ++ [c])) := HTZ.out.addi HON.out HCZ.out ho6 hg6 hq6
            have hne6 : ¬ vI.ownBlock = some g := fun e => by have := HTZ.out.o.lt _ e; omega
            have hk6 : Kp (fun q => vI.ownBlock = some q) _ w6 := (Kp.refl _ _).grown hg6 (fun k _ e => e)
            have hx6 : w6.heap[g]? = some (.cells (vcs t vy (Value.slice none 0 0) vI) 55 (0, 0)) := (hk6.block _ (blk_lt HTZ.out.x) hne6).trans HTZ.out.x
            have c12 : w6.cell? ⟨g, 12, none⟩ = some vI := blk_cell (j := 12) hx6 rfl
            have f12 : w6.frozen? ⟨g, 12, none⟩ = false := blk_frozen 12 hx6
            have hS6 : S16 w cs g (Value.slice none 0 0) [] w6 := by
              have hgg := HTZ.out.gg
              exact ⟨HTZ.out.b.trans (hk6.below HTZ.out.b.size (fun q e => by have := HTZ.out.o.lt q e; omega)), (hk6.block _ (blk_lt HTZ.out.p) (fun e => by have := HTZ.out.o.lt _ e; omega)).trans HTZ.out.p, hk6.owns HTZ.out.l (fun q h1 h2 => own_dis HTZ.out.l HTZ.out.o (by decide) q h1 h2)⟩
            refine (Hid.out hK) _ _ hS6 (fun hS7 => ?_)
            clear hK K hg6 hq6 ho6 hx6 hS6 hne6 hk6
            (try simp only [Act.put]); (try simp only [List.setIfInBounds_toArray, List.set_cons_zero, List.set_cons_succ])
            refine heldTake 10 _ rfl (by kernel_rfl) (by kernel_rfl) (by kernel_rfl) (fun _ _ _ h => h) rfl hS7 (fun wy hy => by first | (go_simp; done) | (go_simp; rfl) | rfl) ?_
            (try simp only [Act.put]); (try simp only [List.setIfInBounds_toArray, List.set_cons_zero, List.set_cons_succ])
            refine heldStep 11 rfl (by kernel_rfl) (fun K hK => ?_)
            go_simp
            refine (Hid.out hK) _ _ ⟨HT6.out.b, HT6.out.p, HT6.out.l⟩ (fun hS8 => ?_)
            clear hK K
            (try simp only [Act.put]); (try simp only [List.setIfInBounds_toArray, List.set_cons_zero, List.set_cons_succ])
            refine heldDone (by kernel_rfl) ?_
            clear hS7 hS8 c12 f12
            go_wp2_with fail
            go_roundw
            case rel => exact ⟨q + 1, _, _, _, by omega, by go_num, HT6, ⟨by have := HN.out.1; simp; omega, trivial⟩, HI2.out t' HTR.out⟩
            case measure => simp [intOf]; omega
          · as_aux_lemma =>
            refine step_val1 rfl rfl c HC13.out rfl ?_
            refine (Shut.out hK) _ _ ⟨HTZ.out.b, HTZ.out.p, HTZ.out.l⟩ (fun hS4 => ?_)
            clear hK K hS3
            (try simp only [Act.put]); (try simp only [List.setIfInBounds_toArray])
            refine heldStep 1 rfl (by kernel_rfl) (fun K hK => ?_)
            go_simp
            refine (Hid.out hK) _ _ hS4 (fun hS2 => ?_)
            clear hK K hS2 x12 x13 hS4
            (try simp only [Act.put]); (try simp only [List.setIfInBounds_toArray, List.set_cons_zero, List.set_cons_succ])
            refine heldStep 9 rfl (by kernel_rfl) (fun K hK => ?_)
            refine step_append_val rfl _ _ rfl (g + 1) vI L.length (vfl L) rfl HTZ.out.o _ c HON.out rfl HGB.out (by have h1 := HTZ.out.n; have h2 := HN.out.1; have h3 := HML.out; omega) (by have := blk_lt HTZ.out.x; omega) (fun v6 w6 ho6 hg6 hq6 => ?_)
            obtain ⟨a6, c6, hv6⟩ := own_slice ho6
            subst hv6
            have HT6 : Hid (Tus w (w6.setCell ⟨g, 12, none⟩ (.slice a6 (L.length + 1) c6)) g cs t vy (Value.slice none 0 0) (.slice a6 (L.length + 1) c6) (Value.slice none 0 0) [] [] (ms ++ [t']) (L ++ [c])) := HTZ.out.addi HON.out HCZ.out ho6 hg6 hq6
            have hne6 : ¬ vI.ownBlock = some g := fun e => by have := HTZ.out.o.lt _ e; omega
            have hk6 : Kp (fun q => vI.ownBlock = some q) _ w6 := (Kp.refl _ _).grown hg6 (fun k _ e => e)
            have hx6 : w6.heap[g]? = some (.cells (vcs t vy (Value.slice none 0 0) vI) 55 (0, 0)) := (hk6.block _ (blk_lt HTZ.out.x) hne6).trans HTZ.out.x
            have c12 : w6.cell? ⟨g, 12, none⟩ = some vI := blk_cell (j := 12) hx6 rfl
            have f12 : w6.frozen? ⟨g, 12, none⟩ = false := blk_frozen 12 hx6
            have hS6 : S16 w cs g (Value.slice none 0 0) [] w6 := by
              have hgg := HTZ.out.gg
              exact ⟨HTZ.out.b.trans (hk6.below HTZ.out.b.size (fun q e => by have := HTZ.out.o.lt q e; omega)), (hk6.block _ (blk_lt HTZ.out.p) (fun e => by have := HTZ.out.o.lt _ e; omega)).trans HTZ.out.p, hk6.owns HTZ.out.l (fun q h1 h2 => own_dis HTZ.out.l HTZ.out.o (by decide) q h1 h2)⟩
            refine (Hid.out hK) _ _ hS6 (fun hS7 => ?_)
            clear hK K hg6 hq6 ho6 hx6 hS6 hne6 hk6
            (try simp only [Act.put]); (try simp only [List.setIfInBounds_toArray, List.set_cons_zero, List.set_cons_succ])
            refine heldTake 10 _ rfl (by kernel_rfl) (by kernel_rfl) (by kernel_rfl) (fun _ _ _ h => h) rfl hS7 (fun wy hy => by first | (go_simp; done) | (go_simp; rfl) | rfl) ?_
            (try simp only [Act.put]); (try simp only [List.setIfInBounds_toArray, List.set_cons_zero, List.set_cons_succ])
            refine heldStep 11 rfl (by kernel_rfl) (fun K hK => ?_)
            go_simp
            refine (Hid.out hK) _ _ ⟨HT6.out.b, HT6.out.p, HT6.out.l⟩ (fun hS8 => ?_)
            clear hK K
            (try simp only [Act.put]); (try simp only [List.setIfInBounds_toArray, List.set_cons_zero, List.set_cons_succ])
            refine heldDone (by kernel_rfl) ?_
            clear hS7 hS8 c12 f12
            go_wp2_with fail
            go_roundw
            case rel => exact ⟨q + 1, _, _, _, by omega, by go_num, HT6, ⟨by have := HN.out.1; simp; omega, trivial⟩, HI2.out t' HTR.out⟩
            case measure => simp [intOf]; omega
      · have g1 : ¬ (i : Int) < (t.is.length : Int) := by omega
        have hie : i = t.is.length := by omega
        have hgg := HT.out.gg
        have HV1 : Hid (∀ j x, (vcs t vy (.slice none 0 0) vI)[j]? = some x → wr.cell? ⟨g, 0 + j, none⟩ = some x) := fun j x hx => by rw [Nat.zero_add]; exact blk_cell HT.out.x hx
        have HRR := hide HT.out.r
        have hkr := row_kp wr (w.heap.size + 1) (vcs t vy (.slice none 0 0) vI)
        have hbs := HT.out.b.size
        have HBZ : Hid (Below w.heap.size w (wr.setRow (w.heap.size + 1) (vcs t vy (.slice none 0 0) vI))) := HT.out.b.trans (hkr.below hbs (fun q e => by omega))
        have HEN : Hid ((wr.setRow (w.heap.size + 1) (vcs t vy (.slice none 0 0) vI)).heap[w.heap.size + 1]? = some (.cells (vcs t vy (.slice none 0 0) vI) 55 (0, 0))) := row_same HRR.out
        have HTR : Hid (SrtR t (Tv.mk t.k t.f t.g t.n t.b t.s t.y t.l [] ms)) := by
          refine SrtR.rest t _ h9 ⟨rfl, rfl, rfl, rfl, rfl, rfl, rfl, rfl⟩ ?_ ?_ ?_
          · show [] = t.ks
            rw [HTK.out.e h9]
          · show ms.length = _
            rw [HN.out.1, hie]
          · intro j u v hu hv
            have hjl := (List.getElem?_eq_some_iff.1 hu).1
            exact HI.out j u v (by omega) hu hv
        have HTS : Hid (Tis (wr.setRow (w.heap.size + 1) (vcs t vy (.slice none 0 0) vI)) (fun q => q < w.heap.size) (Tv.mk t.k t.f t.g t.n t.b t.s t.y t.l [] ms) (vcs t vy (.slice none 0 0) vI)) := by
          refine HT.out.tis HBD.out HYB.out hkr (by simp) (by simp) ?_
          have h1 := HN.out.1
          have h2 := HML.out
          omega
        have HAL : Hid ((vcs t vy (.slice none 0 0) vI).all (·.oneCell') = true) := HTS.out.tin.all1
        clear HI hkr hbs hgg
        go_wp2_with (first
          | (refine wpList_valAt rfl rfl g 0 (vcs t vy (.slice none 0 0) vI) rfl rfl HV1.out ?_)
          | (refine wpList_storeRow rfl rfl (w.heap.size + 1) zv (vcs t vy (.slice none 0 0) vI) 55 rfl rfl HRR.out infoV rfl HAL.out ?_))
        exact bodyPost_ret (end_rs6 rfl HEN.out rfl) rfl ⟨_, rfl, _, HTS.out, HTR.out, HBZ.out⟩
theorem rsorted_any (t : Tv) : RsrC t := by
  have h : ∀ N, ∀ t : Tv, SizeOf.sizeOf t = N → RsrC t := by
    intro N
    induction N using Nat.strongRecOn with
    | _ N ih => exact fun t hN => rsorted_step t (fun u hu => ih _ (by rw [← hN]; exact Tv.is_lt hu) u rfl)
  exact h _ t rfl
end
section
open Go.RowKit Go
set_option maxRecDepth 1000000 in
set_option maxHeartbeats 2000000 in
theorem sorts_any (t : Tv) (w : World) (base B : Nat) (C : Array Value) (f : Fin 4 → Fs) (tt d u : Nat) (cx cv : Array Value) (h : Bkq w base B C f tt d u) (hx : Tin w t cx) (hv : Tin w t cv) (hT : Trk t) (hm : tmuch t ≤ 60000) (htt : tt + 6 * tmuch t < 68719476736) :
    Calls Tryz.prog 9 #[.agg cx, .agg cv, .pointer (some ⟨B, 0, none⟩)] w fun e w' => e = .returned (.bool true) ∧ Hid (∃ n, n ≤ 6 * tmuch t ∧ Ps w base B f tt d n w') := by
  have HB := hide h
  have HX := hide hx
  have HV := hide hv
  have HT := hide hT
  have HM := hide hm
  have HTT := hide htt
  have HSX := hide hx.size13
  have HSV := hide hv.size13
  have HKL : Hid (t.k = 9 → t.ks.length = t.is.length) := fun e => (hT.m e).1
  have HBL : Hid (∀ q, Ft4 B f q → q < w.heap.size) := fun q e => (h.lt q e).2
  have HBS : Hid (base ≤ w.heap.size) := h.sz
  have HQ := hide (Sq.start h cx cv)
  have HVX := hide HQ.out.vx
  clear h hx hv hT hm htt
  go_enter Tryz.func9, Tryz.ntmps9
  go_wp2_with (refine wpList_valAt rfl rfl w.heap.size 0 cx rfl HSX.out HVX.out ?_)
  clear HVX
  generalize (w.alloc (.cells cx 55)).alloc (.cells cv 55) = w0 at *
  have HZ0 := hide HQ.out.z
  refine (sortedO_any t w0 cx (HX.out.move (keep_below HQ.out.b)) (by have := HM.out; omega)).mono ?_
  rintro e w1 ⟨c1, s1, rfl, hr, hn, hb⟩
  have HR1 := hide hr
  have HL1 : Hid (w0.heap.size ≤ w1.heap.size) := hb.size
  replace HQ := hide ((HQ.out.next hb).next (itm_mk w1 c1).b)
  have HV1 := hide (Vn.start hn)
  have HS1 := hide hn.size
  have HA := hide hn.tin.all1
  have HG := hide (heap_alloc_new w1 (.cells zv 55))
  have HIN : Hid ((Tryz.prog.info? 55).map (·.size) = some c1.size) := by show _ = _; rw [HS1.out]; exact infoV
  have HZV : Hid (zv.size = c1.size) := by show _ = _; rw [HS1.out]; rfl
  have HVX := hide HQ.out.vx
  clear hr hn hb
  go_wp2_with (first
    | (refine wpList_storeRow rfl rfl w1.heap.size zv c1 55 rfl rfl HG.out HIN.out HZV.out HA.out ?_)
    | (refine wpList_valAt rfl rfl w.heap.size 0 cx rfl HSX.out HVX.out ?_))
  clear HG HIN HZV HA HVX
  unfold zv at HQ HV1
  generalize (w1.alloc (.cells #[.int .i64 0, .bool false, .bool false, .int .u64 0, .int .u64 0, .string ⟨#[]⟩, .slice none 0 0, .int .i64 0, .int .u64 0, .int .u64 0, .string ⟨#[]⟩, .slice none 0 0, .slice none 0 0] 55)).setRow w1.heap.size c1 = v1 at *
  have HB1 : Hid (w1.heap.size < v1.heap.size) := blk_lt HV1.out.x
  refine (sortedO_any t v1 cx (HX.out.move (keep_below HQ.out.b)) (by have := HM.out; omega)).mono ?_
  rintro e w2 ⟨c2, s2, rfl, hr, hn, hb⟩
  have HR2 := hide hr
  have HL2 : Hid (v1.heap.size ≤ w2.heap.size) := hb.size
  replace HQ := hide ((HQ.out.next hb).next (itm_mk w2 c2).b)
  replace HV1 := hide ((HV1.out.next hb).next (itm_mk w2 c2).b)
  have HV2 := hide (Vn.start hn)
  have HS2 := hide hn.size
  have HA := hide hn.tin.all1
  have HG := hide (heap_alloc_new w2 (.cells zv 55))
  have HIN : Hid ((Tryz.prog.info? 55).map (·.size) = some c2.size) := by show _ = _; rw [HS2.out]; exact infoV
  have HZV : Hid (zv.size = c2.size) := by show _ = _; rw [HS2.out]; rfl
  have HVX := hide HQ.out.vv
  clear hr hn hb
  go_wp2_with (first
    | (refine wpList_storeRow rfl rfl w2.heap.size zv c2 55 rfl rfl HG.out HIN.out HZV.out HA.out ?_)
    | (refine wpList_valAt rfl rfl (w.heap.size + 1) 0 cv rfl HSV.out HVX.out ?_))
  clear HG HIN HZV HA HVX
  unfold zv at HQ HV1 HV2
  generalize (w2.alloc (.cells #[.int .i64 0, .bool false, .bool false, .int .u64 0, .int .u64 0, .string ⟨#[]⟩, .slice none 0 0, .int .i64 0, .int .u64 0, .int .u64 0, .string ⟨#[]⟩, .slice none 0 0, .slice none 0 0] 55)).setRow w2.heap.size c2 = v2 at *
  have HB2 : Hid (w2.heap.size < v2.heap.size) := blk_lt HV2.out.x
  refine ((rsorted_any t) v2 cv (HV.out.move (keep_below HQ.out.b)) HT.out (by have := HM.out; omega)).mono ?_
  rintro e w3 ⟨c3, s3, rfl, hn, hr, hb⟩
  have HR3 := hide hr
  have HL3 : Hid (v2.heap.size ≤ w3.heap.size) := hb.size
  replace HQ := hide ((HQ.out.next hb).next (itm_mk w3 c3).b)
  replace HV1 := hide ((HV1.out.next hb).next (itm_mk w3 c3).b)
  replace HV2 := hide ((HV2.out.next hb).next (itm_mk w3 c3).b)
  have HV3 := hide (Vw.start (Wq.of_tis hn) hb.size)
  have HS3 := hide hn.tin.size13
  have HA := hide hn.tin.all1
  have HG := hide (heap_alloc_new w3 (.cells zv 55))
  have HIN : Hid ((Tryz.prog.info? 55).map (·.size) = some c3.size) := by show _ = _; rw [HS3.out]; exact infoV
  have HZV : Hid (zv.size = c3.size) := by show _ = _; rw [HS3.out]; rfl
  clear hr hn hb
  obtain rfl : s2 = s1 := (srt_one HR1.out HT.out HR2.out).symm
  obtain rfl : s3 = s2 := (srt_one HR2.out HT.out HR3.out).symm
  have HMU : Hid (tmuch s3 = tmuch t) := srt_much HR3.out HT.out
  have HC1 := hide HV1.out.cells
  have HC3 := hide HV3.out.cells
  go_wp2_with (first
    | (refine wpList_storeRow rfl rfl w3.heap.size zv c3 55 rfl rfl HG.out HIN.out HZV.out HA.out ?_)
    | (refine wpList_valAt rfl rfl w1.heap.size 0 c1 rfl HS1.out HC1.out ?_)
    | (refine wpList_valAt rfl rfl w3.heap.size 0 c3 rfl HS3.out HC3.out ?_))
  clear HG HIN HZV HA HC1 HC3
  unfold zv at HQ HV1 HV2 HV3
  generalize (w3.alloc (.cells #[.int .i64 0, .bool false, .bool false, .int .u64 0, .int .u64 0, .string ⟨#[]⟩, .slice none 0 0, .int .i64 0, .int .u64 0, .int .u64 0, .string ⟨#[]⟩, .slice none 0 0, .slice none 0 0] 55)).setRow w3.heap.size c3 = v3 at *
  have HB3 : Hid (w3.heap.size < v3.heap.size) := blk_lt HV3.out.x
  refine (eqValue_any s3 s3 true (by simp) v3 c1 c3 HV1.out.tin HV3.out.tin).mono ?_
  rintro e v4 ⟨rfl, hb⟩
  have HL4 : Hid (v3.heap.size ≤ v4.heap.size) := hb.size
  replace HQ := hide (HQ.out.next hb)
  replace HV1 := hide (HV1.out.next hb)
  replace HV2 := hide (HV2.out.next hb)
  replace HV3 := hide (HV3.out.next hb)
  have HC1 := hide HV1.out.cells
  clear hb
  go_wp2_with (refine wpList_valAt rfl rfl w1.heap.size 0 c1 rfl HS1.out HC1.out ?_)
  clear HC1
  have hz0 := HZ0.out
  have hz1 := HL1.out
  have hz2 := HB1.out
  have hz3 := HL2.out
  have hz4 := HB2.out
  have hz5 := HL3.out
  have hz6 := HBS.out
  have hz7 := HMU.out
  have hz8 := HM.out
  have hz9 := HTT.out
  have hz10 := blk_lt HV1.out.x
  have hz11 := blk_lt HV2.out.x
  have hz12 := blk_lt HV3.out.x
  refine ((bvalue_any s3) v4 base B C f tt d u (fun q => w0.heap.size ≤ q ∧ q < w1.heap.size) c1 HQ.out.bk (Nos.ots (Nos.base (Nor.nos HV1.out.n) (by omega))) (fun q e => ⟨by have h1 := e.1; have h2 := e.2; omega, fun e2 => by have h1 := e.1; have h2 := e.2; have := HBL.out q e2; omega⟩) (by omega) (by omega)).mono ?_
  rintro e v5 ⟨rfl, hP⟩
  obtain ⟨n1, hn1, C1, f1, u1, hB1, hk1, hf1⟩ := hP.out
  have HN1 := hide hn1
  have HP1 := hide hB1
  have HK1 := hide hk1
  have HF1 := hide hf1
  replace HV2 := hide (HV2.out.kp hk1 (fun q h1 h2 e => by rcases e with e | e; (have := HBL.out q e; omega); omega) (fun e => by rcases e with e | e; (have := HBL.out _ e; omega); omega))
  replace HV3 := hide (HV3.out.kp hk1 (fun q e => by rcases e with e | e; (have := HBL.out q e; omega); omega))
  have HC2 := hide HV2.out.cells
  have HC3 := hide HV3.out.cells
  have HK0 : Hid (Kp (fun q => Ft4 B f q ∨ False) w v4) := Kp.mono (S := fun _ => False) ⟨HQ.out.b.os, HQ.out.b.tape, HQ.out.b.output, HQ.out.b.size, fun k hk _ => HQ.out.b.block k hk⟩ (fun _ _ e => e.elim)
  clear hP hn1 hB1 hk1 hf1 HQ HV1
  clear hz0 hz1 hz2 hz3 hz4 hz5 hz6 hz7 hz8 hz9 hz10 hz11 hz12
  go_wp2_with (first
    | (refine wpList_valAt rfl rfl w2.heap.size 0 c2 rfl HS2.out HC2.out ?_)
    | (refine wpList_valAt rfl rfl w3.heap.size 0 c3 rfl HS3.out HC3.out ?_))
  clear HC2 HC3
  refine (eqValue_any s3 s3 true (by simp) v5 c2 c3 HV2.out.tin HV3.out.tin).mono ?_
  rintro e v6 ⟨rfl, hb⟩
  replace HV2 := hide (HV2.out.next hb)
  have HP2 := hide (HP1.out.next hb)
  have HK2 : Hid (Kp (fun q => Ft4 B f q ∨ (w0.heap.size ≤ q ∧ q < w1.heap.size)) v4 v6) := HK1.out.trans (Kp.of_below (S := fun _ => False) hb) (fun _ _ e => e.elim)
  have HC2 := hide HV2.out.cells
  clear hb HK1 HP1
  go_wp2_with (refine wpList_valAt rfl rfl w2.heap.size 0 c2 rfl HS2.out HC2.out ?_)
  clear HC2
  have hz0 := HZ0.out
  have hz1 := HL1.out
  have hz2 := HB1.out
  have hz3 := HL2.out
  have hz4 := HB2.out
  have hz5 := HL3.out
  have hz6 := HBS.out
  have hz7 := HMU.out
  have hz8 := HM.out
  have hz9 := HTT.out
  have hz11 := blk_lt HV2.out.x
  have hz12 := HN1.out
  have hz13 := HL4.out
  have hz14 := HK0.out.size
  have hz15 := HK2.out.size
  have hz16 := HB3.out
  refine ((bvalue_any s3) v6 base B C1 f1 (tt + n1) d u1 (fun q => v1.heap.size ≤ q ∧ q < w2.heap.size) c2 HP2.out (Nos.ots (Nos.base (Nor.nos HV2.out.n) (by omega))) (fun q e => ⟨by have h1 := e.1; have h2 := e.2; omega, fun e2 => by have h1 := e.1; have h2 := e.2; rcases HF1.out q e2 with e3 | e3 | e3; (have := HBL.out q e3; omega); omega; omega⟩) (by omega) (by omega)).mono ?_
  rintro e v7 ⟨rfl, hP⟩
  obtain ⟨n2, hn2, hp2⟩ := hP.out
  have HN2 := hide hn2
  have HE : Hid (Ps w base B f tt d (n1 + n2) v7) := Ps.put (HK0.out.trans HK2.out (fun k hk e => by rcases e with e | e; exact .inl e; omega)) (fun q e => by rcases HF1.out q e with e | e | e; exact .inl e; exact .inr (.inr (by omega)); exact .inr (.inr (by omega))) hp2 (fun q e => by have h1 := e.1; have h2 := e.2; omega)
  clear hP hn2 hp2
  clear hz0 hz1 hz2 hz3 hz4 hz5 hz6 hz7 hz8 hz9 hz11 hz12 hz13 hz14 hz15 hz16
  go_wp2_with fail
  go_ret
  exact ⟨rfl, _, by have := HN1.out; have := HN2.out; have := HMU.out; omega, HE.out⟩
end
section
open Go.RowKit Go

end
section
open Go.RowKit Go
theorem qstep_nelk {C : World → Prop} {ops : Array Oper} {o : Oper} {a : Act} {K : Act → Prop} {x y : Operand} {T2 : TypeId} (hgd : Region.wanted o (yielded ops a.tmps) = true) (ho : o.op = .binOp .neq 53 x y T2) (A B : Array Value) (r : Bool)
    (hx : a.eval x = .agg A) (hy : a.eval y = .agg B) (he : ∀ w, C w → (Op.equalIn 10000 53 (.agg A) (.agg B)).run Tryz.prog w = .ok r w)
    (h : K (a.put o.dst (.bool (!r)))) : if Region.wanted o (yielded ops a.tmps) = true then o.quiet Tryz.prog a C K else K (a.put o.dst undef) := by
  rw [if_pos hgd]
  refine ⟨.bool (!r), fun w hC => ?_, h⟩
  unfold Oper.quietAt
  rw [exec_nelk ho hx hy (he w hC)]
  exact ⟨rfl, rfl⟩
end
section
open Go.RowKit Go
/-- A slice of links, plainly. -/
structure LSl (w : World) (v : Value) (ls : List Lk) : Prop where
  form : ∃ a cap, v = .slice a ls.length cap ∧ (ls.length ≤ cap ∧ (a = none → cap = 0)) ∧ (ls = [] ∨ ∃ b off, a = some ⟨b, off, none⟩ ∧ ∀ i l, ls[i]? = some l → ∀ j u, (lcs l)[j]? = some u → w.cell? ⟨b, off + i * 4 + j, none⟩ = some u)
  max : ls.length ≤ 140737488351232
  bd : ∀ l ∈ ls, Lkb l
set_option maxRecDepth 1000000 in
set_option maxHeartbeats 400000 in
theorem eqLinks_any {w : World} {v u : Value} {ks ls : List Lk} (hv : LSl w v ks) (hu : LSl w u ls) :
    Calls Tryz.prog 26 #[v, u] w fun e w' => e = .returned (.bool (decide (ks = ls))) ∧ Below w.heap.size w w' := by
  generalize hR : decide (ks = ls) = R
  have HR := hide hR
  clear hR
  obtain ⟨⟨av, cv, rfl, _, hf⟩, hkm, hkb⟩ := hv
  obtain ⟨⟨au, cu, rfl, _, hg⟩, hlm, hlb⟩ := hu
  have HKB := hide hkb
  have HLB := hide hlb
  clear hkb hlb
  have HF := hide hf
  have HG := hide hg
  clear hf hg
  by_cases hl : ks.length = ls.length
  · have g0 : ((ks.length : Int) != (ls.length : Int)) = false := by rw [nat_ne]; simp [hl]
    have HL := hide hl
    clear hl
    go_enter Tryz.func26, Tryz.ntmps26
    go_wp2_with fail
    go_loopw [5] (fun ii wx => ∃ i : Nat, i ≤ ks.length ∧ ii = .int .i64 (i : Nat) ∧ Hid (∀ j, j < i → ks[j]? = ls[j]?) ∧ Hid (Below w.heap.size w wx)) (fun ii _ => ks.length - (intOf ii).toNat)
    case atStart => exact ⟨0, by omega, rfl, fun j hj => absurd hj (by omega), Below.refl _ _⟩
    case round =>
      obtain ⟨i, hi, rfl, HI, HBw⟩ := hrel
      by_cases hlt : i < ks.length
      · have g1 : (i : Int) < (ks.length : Int) := by omega
        have hlt2 : i < ls.length := by rw [← HL.out]; exact hlt
        have g2 : (i : Int) < (ls.length : Int) := by omega
        obtain ⟨s, hs⟩ : ∃ s, ks[i]? = some s := ⟨ks[i], List.getElem?_eq_getElem hlt⟩
        obtain ⟨t, ht⟩ : ∃ s, ls[i]? = some s := ⟨ls[i], List.getElem?_eq_getElem hlt2⟩
        obtain ⟨b, off, rfl, hcc⟩ := HF.out.resolve_left (fun h => by rw [h] at hlt; simp at hlt)
        obtain ⟨b2, off2, rfl, hcd⟩ := HG.out.resolve_left (fun h => by rw [h] at hlt2; simp at hlt2)
        have HQ1 : Hid (∀ wx, (∃ x : Ext wr, wx = x.w') → ∀ j x, (lcs s)[j]? = some x → wx.cell? ⟨b, off + i * 4 + j, none⟩ = some x) := by
          rintro _ ⟨y, rfl⟩ j x hx
          exact keep_below y.h _ _ (keep_below HBw.out _ _ (hcc i s hs j x hx))
        have HQ2 : Hid (∀ wx, (∃ x : Ext wr, wx = x.w') → ∀ j x, (lcs t)[j]? = some x → wx.cell? ⟨b2, off2 + i * 4 + j, none⟩ = some x) := by
          rintro _ ⟨y, rfl⟩ j x hx
          exact keep_below y.h _ _ (keep_below HBw.out _ _ (hcd i t ht j x hx))
        have HEQ : Hid (∀ wx : World, (Op.equalIn 10000 53 (.agg (lcs s)) (.agg (lcs t))).run Tryz.prog wx = .ok (decide (s = t)) wx) := fun wx => eqlk wx (HKB.out s (List.mem_of_getElem? hs)).d (HLB.out t (List.mem_of_getElem? ht)).d
        clear hcc hcd HF HG
        by_cases he : s = t
        · as_aux_lemma =>
          rw [decide_eq_true he] at HEQ
          have HI2 : Hid (∀ j, j < i + 1 → ks[j]? = ls[j]?) := fun j hj => by
            by_cases hji : j = i
            · rw [hji, hs, ht, he]
            · exact HI.out j (by omega)
          clear he hs ht HI
          go_wp2_with fail
          refine region_ext (by kernel_rfl) (by kernel_rfl) ?_
          repeat (
            refine wpQuiet_step (fun K hK => ?_)
            first
              | (refine qstep_lkAt rfl rfl b (off + i * 4) s rfl HQ1.out (hK _ ?_); clear hK K)
              | (refine qstep_lkAt rfl rfl b2 (off2 + i * 4) t rfl HQ2.out (hK _ ?_); clear hK K)
              | (refine qstep_nelk rfl rfl (lcs s) (lcs t) true rfl rfl (fun wx _ => HEQ.out wx) (hK _ ?_); clear hK K)
              | (go_simp
                 refine hK _ ?_; clear hK K))
          refine wpQuiet_nil ?_
          rintro _ ⟨tq, rfl⟩
          have HB2 : Hid (Below w.heap.size w tq.w') := HBw.out.trans (tq.h.mono HBw.out.size)
          go_wp2_with fail
          go_roundw
          case rel => exact ⟨i + 1, by omega, by go_num, HI2, HB2⟩
          case measure => simp [intOf]; omega
        · as_aux_lemma =>
          rw [decide_eq_false he] at HEQ
          have HN : Hid (ks ≠ ls) := fun h => by
            rw [h, ht] at hs
            exact he (Option.some.inj hs).symm
          clear he hs ht HI
          go_wp2_with fail
          refine region_ext (by kernel_rfl) (by kernel_rfl) ?_
          repeat (
            refine wpQuiet_step (fun K hK => ?_)
            first
              | (refine qstep_lkAt rfl rfl b (off + i * 4) s rfl HQ1.out (hK _ ?_); clear hK K)
              | (refine qstep_lkAt rfl rfl b2 (off2 + i * 4) t rfl HQ2.out (hK _ ?_); clear hK K)
              | (refine qstep_nelk rfl rfl (lcs s) (lcs t) false rfl rfl (fun wx _ => HEQ.out wx) (hK _ ?_); clear hK K)
              | (go_simp
                 refine hK _ ?_; clear hK K))
          refine wpQuiet_nil ?_
          rintro _ ⟨tq, rfl⟩
          have HB2 : Hid (Below w.heap.size w tq.w') := HBw.out.trans (tq.h.mono HBw.out.size)
          go_wp2_with fail
          go_ret
          exact ⟨by rw [← HR.out, decide_eq_false HN.out]; rfl, HB2.out⟩
      · as_aux_lemma =>
        have g1 : ¬ (i : Int) < (ks.length : Int) := by omega
        have HN : Hid (ks = ls) := List.ext_getElem? fun j => by
          by_cases hj : j < i
          · exact HI.out j hj
          · rw [List.getElem?_eq_none (by omega), List.getElem?_eq_none (by rw [← HL.out]; omega)]
        go_wp2_with fail
        go_ret
        exact ⟨by rw [← HR.out, decide_eq_true HN.out]; rfl, HBw.out⟩
  · as_aux_lemma =>
    have g0 : ((ks.length : Int) != (ls.length : Int)) = true := by rw [nat_ne]; simp [hl]
    have HN : Hid (ks ≠ ls) := fun h => hl (by rw [h])
    clear hl HF HG
    go_enter Tryz.func26, Tryz.ntmps26
    go_wp2_with fail
    go_ret
    exact ⟨by rw [← HR.out, decide_eq_false HN.out]; rfl, Below.refl _ _⟩
end
section
open Go.RowKit Go
theorem LSl.own {w : World} {B n : Nat} {v : Value} {ls : List Lk} (h : w.ownsRow B 53 4 v n (fcl ls)) (hn : n = ls.length) (hm : ls.length ≤ 140737488351232) (hb : ∀ l ∈ ls, Lkb l) : LSl w v ls := by
  subst hn
  rcases id h.2 with ⟨hv, he⟩ | ⟨g, cap, cur, hv, _, _, h1, _⟩
  · subst hv
    have e : ls = [] := List.length_eq_zero_iff.1 he
    subst e
    exact ⟨⟨none, 0, rfl, ⟨by simp, fun _ => rfl⟩, .inl rfl⟩, hm, hb⟩
  · subst hv
    refine ⟨⟨_, cap, rfl, ⟨by omega, fun h => by cases h⟩, .inr ⟨g, 0, rfl, fun i l hl j u hu => ?_⟩⟩, hm, hb⟩
    have := h.cells (g := g) rfl (i * 4 + j) u (fcl_get ls i l j u hl hu)
    have hadd : (⟨g, 0, none⟩ : Addr).add (i * 4 + j) = ⟨g, i * 4 + j, none⟩ := by unfold Addr.add; split <;> simp_all
    rw [hadd] at this
    rw [Nat.zero_add]
    exact this
theorem lnkf_bd {w : World} (t : Tv) : ∀ c, Tin w t c → ∀ l ∈ lnkf t, Lkb l := by
  have key : ∀ N, ∀ t : Tv, SizeOf.sizeOf t = N → ∀ c, Tin w t c → ∀ l ∈ lnkf t, Lkb l := by
    intro N
    induction N using Nat.strongRecOn with
    | _ N ih =>
      intro t hN c ht l hl
      obtain ⟨vy, vk, vi, rfl, _, _, hv, hb⟩ := ht.parts
      by_cases h7 : t.k = 7
      · rw [lnkf_7 h7, List.mem_singleton] at hl
        rw [hl]
        exact hb.l
      · by_cases h8 : t.k = 8 ∨ t.k = 9
        · rw [lnkf_n h7 h8] at hl
          obtain ⟨p, _, hp⟩ := List.mem_flatMap.1 hl
          by_cases hpl : p < t.is.length
          · have e := List.getElem?_eq_getElem hpl
            rw [lnx_at e] at hp
            obtain ⟨⟨a, cap, hva, _, hform⟩, _⟩ := hv
            obtain ⟨b, off, _, hc⟩ := hform.resolve_left (fun h => by rw [h] at hpl; simp at hpl)
            obtain ⟨d, hd, _⟩ := hc p _ e
            exact ih _ (by rw [← hN]; exact Tv.is_lt (List.getElem_mem hpl)) _ rfl d hd l hp
          · unfold lnx at hp
            rw [dif_neg hpl] at hp
            cases hp
        · rw [lnkf_0 h7 h8] at hl
          cases hl
  exact key _ t rfl
end
section
open Go.RowKit Go
/-- 'append(l, x...)' of links; x may be nil. -/
theorem append_lks {ops : Array Oper} {rest : List Oper} {o : Oper} {a : Act} {Q : Exit → Act → World → Prop} {w : World} (hgd : o.guard = none) (s x : Operand)
    (ho : o.op = .call { callee := .builtin .append, args := #[s, x], argTypes := #[67, 67] }) (B : Nat) (v : Value) (n : Nat) (rs : List Lk) (hs : a.eval s = v) (hown : w.ownsRow B 53 4 v n (fcl rs))
    (B2 : Nat) (u : Value) (xs : List Lk) (hx : a.eval x = u) (hu : w.ownsRow B2 53 4 u xs.length (fcl xs)) (hlen : n + xs.length < 1099511627) (hbase : B ≤ w.heap.size)
    (h : ∀ v' w', w'.ownsRow B 53 4 v' (n + xs.length) (fcl (rs ++ xs)) → w.grownBy w' v.ownBlock → (v'.ownBlock = v.ownBlock ∨ v'.ownBlock = some w.heap.size) → wpList Tryz.prog ops Q rest (a.put o.dst v') w') : wpList Tryz.prog ops Q (o :: rest) a w := by
  obtain ⟨i, hi, hz0, hz1, hz2⟩ := infoLk_ex
  rcases id hu.2 with ⟨hv, he⟩ | ⟨g, cap, cur, hv, _⟩
  · subst hv
    have e : xs = [] := List.length_eq_zero_iff.1 he
    subst e
    refine wpList_append_own_none hgd s x 67 ho B 53 i 4 Tryz.underlying67 hi v n (fcl rs) hs hown hx (h v w ?_ ⟨rfl, rfl, rfl, Nat.le_refl _, fun _ _ _ => rfl⟩ (.inl rfl))
    simpa using hown
  · subst hv
    refine wpList_append_own_at w hgd s x 67 ho B 53 i _ 4 40 Tryz.underlying67 hi hz0 hz1 hz2 rfl (by decide) v n (fcl rs) hs hown ⟨g, 0, none⟩ xs.length cap (fcl xs) hx (fcl_len xs) (fun j u hj => hu.cells (g := g) rfl j u hj) (fcl_one xs) (by unfold maxLen; omega) (by omega) hbase fun v' w' h1 h2 _ h4 => h v' w' (by rw [fcl_app]; exact h1) h2 h4
theorem step_append_lks {ops : Array Oper} {o : Oper} {a : Act} {K : Act → World → Prop} {Q : Exit → Act → World → Prop} {w : World} (hw : Region.wanted o (yielded ops a.tmps) = true) (s x : Operand)
    (ho : o.op = .call { callee := .builtin .append, args := #[s, x], argTypes := #[67, 67] }) (B : Nat) (v : Value) (n : Nat) (rs : List Lk) (hs : a.eval s = v) (hown : w.ownsRow B 53 4 v n (fcl rs))
    (B2 : Nat) (u : Value) (xs : List Lk) (hx : a.eval x = u) (hu : w.ownsRow B2 53 4 u xs.length (fcl xs)) (hlen : n + xs.length < 1099511627) (hbase : B ≤ w.heap.size)
    (h : ∀ v' w', w'.ownsRow B 53 4 v' (n + xs.length) (fcl (rs ++ xs)) → w.grownBy w' v.ownBlock → (v'.ownBlock = v.ownBlock ∨ v'.ownBlock = some w.heap.size) → K (a.put o.dst v') w') : if Region.wanted o (yielded ops a.tmps) = true then Oper.wp Tryz.prog o a w K Q else K (a.put o.dst undef) w := by
  rw [if_pos hw]
  obtain ⟨i, hi, hz0, hz1, hz2⟩ := infoLk_ex
  rcases id hu.2 with ⟨hv, he⟩ | ⟨g, cap, cur, hv, _⟩
  · subst hv
    have e : xs = [] := List.length_eq_zero_iff.1 he
    subst e
    have hrun := run_append_owned_none (P := Tryz.prog) (w := w) B 67 o.type 53 i 4 Tryz.underlying67 hi v n (fcl rs) hown
    unfold Oper.wp execOp
    simp only [ho, resolve, invoke, builtin, Sem.run_bind, Sem.run_pure, Result.andThen_ok, List.map_toArray, List.map_cons, List.map_nil, hs, hx, hrun]
    exact h v w (by simpa using hown) ⟨rfl, rfl, rfl, Nat.le_refl _, fun _ _ _ => rfl⟩ (.inl rfl)
  · subst hv
    refine wp_append_at s x 67 ho B 53 i _ 4 40 Tryz.underlying67 hi hz0 hz1 hz2 rfl (by decide) v n (fcl rs) hs hown ⟨g, 0, none⟩ xs.length cap (fcl xs) hx (fcl_len xs) (fun j u hj => hu.cells (g := g) rfl j u hj) (fcl_one xs) (by unfold maxLen; omega) (by omega) hbase fun v' w' h1 h2 h4 => h v' w' (by rw [fcl_app]; exact h1) h2 h4
/-- What the reference's Links has in hand. -/
structure Rlk (w wx : World) (cs : Array Value) (vx vl : Value) (ps : List Nat) (rs : List Lk) : Prop where
  b : Below w.heap.size w wx
  p : wx.heap[w.heap.size]? = some (.cells cs 55 (0, 0))
  o : wx.ownsRow (w.heap.size + 1) 53 4 vx rs.length (fcl rs)
  l : wx.ownsRow (w.heap.size + 1) 3 1 vl ps.length (ivs ps)
theorem Rlk.next {w wx wy : World} {cs : Array Value} {vx vl : Value} {ps : List Nat} {rs : List Lk} (h : Rlk w wx cs vx vl ps rs) (hb : Below wx.heap.size wx wy) : Rlk w wy cs vx vl ps rs := by
  have hk : Kp (fun _ => False) wx wy := Kp.of_below hb
  exact ⟨h.b.trans (hb.mono h.b.size), (hb.block _ (blk_lt h.p)).trans h.p, hk.owns h.o (fun _ _ e => e), hk.owns h.l (fun _ _ e => e)⟩
theorem Rlk.app {w wx wy : World} {cs : Array Value} {vx vy vl : Value} {ps : List Nat} {rs rs2 : List Lk} (h : Rlk w wx cs vx vl ps rs) (ho : wy.ownsRow (w.heap.size + 1) 53 4 vy rs2.length (fcl rs2)) (hg : wx.grownBy wy vx.ownBlock) : Rlk w wy cs vy vl ps rs2 := by
  have hk : Kp (fun q => vx.ownBlock = some q) wx wy := (Kp.refl _ _).grown hg (fun k _ e => e)
  exact ⟨h.b.trans (hk.below h.b.size (fun q e => by have := h.o.lt q e; omega)), (hk.block _ (blk_lt h.p) (fun e => by have := h.o.lt _ e; omega)).trans h.p, ho, hk.owns h.l (fun q h1 h2 => own_dis h.l h.o (by decide) q h1 h2)⟩
/-- What a region of Links holds throughout. -/
def S17 (w : World) (cs : Array Value) (vl : Value) (ps : List Nat) (wy : World) : Prop := Below w.heap.size w wy ∧ wy.heap[w.heap.size]? = some (.cells cs 55 (0, 0)) ∧ wy.ownsRow (w.heap.size + 1) 3 1 vl ps.length (ivs ps)
def RlkC (t : Tv) : Prop := ∀ (w : World) (cs : Array Value) (d : Nat), Tin w t cs → chkf t d = 0 → tmuch t ≤ 100000 → Calls Tryz.prog 25 #[.agg cs] w fun e w' => ∃ v, e = .returned v ∧ w'.ownsRow w.heap.size 53 4 v (lnkf t).length (fcl (lnkf t)) ∧ Below w.heap.size w w'
set_option maxRecDepth 1000000 in
set_option maxHeartbeats 4000000 in
theorem rlinks_step (t : Tv) (ih : ∀ u ∈ t.is, RlkC u) : RlkC t := by
  intro w cs d ht hc hm
  have HIH := hide ih
  have HTI := hide ht
  have HTK := hide (chk_trk hc)
  have hc0 := chkf_0 hc
  have HCI := hide hc0.2
  have htd := (onef_0 hc0.1).2.1
  have hme := tmuch_eq t
  have HLE : Hid ((lnkf t).length ≤ 100000) := Nat.le_trans (lnkf_le t) hm
  have HML : Hid (tmuchL t.is ≤ 100000 ∧ t.is.length ≤ 100000 ∧ t.ks.length ≤ 100000) := by
    have := tmuchL_len t.is
    exact ⟨by omega, by omega, by omega⟩
  clear ih hc hm hme hc0
  obtain ⟨vy0, vk0, vi0, rfl, hy, hkk, hvv, hb⟩ := ht.parts
  have HSK := hide hkk
  obtain ⟨⟨ak, ck, rfl, _, hkf⟩, hkm, hkz⟩ := hkk
  obtain ⟨⟨ai, ci, rfl, _, hfi⟩, hvm⟩ := hvv
  have HFI := hide hfi
  have HC0 : Hid ((vcs t vy0 (.slice ak t.ks.length ck) (.slice ai t.is.length ci))[0]? = some (.int .i64 t.k)) := rfl
  have HC11 : Hid ((vcs t vy0 (.slice ak t.ks.length ck) (.slice ai t.is.length ci))[11]? = some (.slice ak t.ks.length ck)) := rfl
  have HC12 : Hid ((vcs t vy0 (.slice ak t.ks.length ck) (.slice ai t.is.length ci))[12]? = some (.slice ai t.is.length ci)) := rfl
  have HLK : Hid (∀ (wx : World) (g : Nat), wx.heap[g]? = some (.cells (vcs t vy0 (.slice ak t.ks.length ck) (.slice ai t.is.length ci)) 55 (0, 0)) → ∀ j x, (lcs t.l)[j]? = some x → wx.cell? ⟨g, 7 + j, none⟩ = some x) := fun wx g h j x hx => lk_in h hx
  generalize vcs t vy0 (.slice ak t.ks.length ck) (.slice ai t.is.length ci) = cs at *
  clear ht hy hfi hkf hkz hb
  have HR0 : Hid (Rlk w (w.alloc (.cells cs 55)) cs (.slice none 0 0) (.slice none 0 0) [] []) := ⟨below_alloc4 w _, heap_alloc_new w _, World.ownsRow_nil _ _ _ _, World.ownsRow_nil _ _ _ _⟩
  have q0 := blk_cell HR0.out.p HC0.out
  by_cases h7 : t.k = 7
  · as_aux_lemma =>
    have g7 : (t.k == 7) = true := beq_iff_eq.2 h7
    have HE : Hid (lnkf t = [t.l]) := lnkf_7 h7
    have HLA := hide (HLK.out _ _ HR0.out.p)
    have HL1 := hide (heap_alloc_new (w.alloc (.cells cs 55)) (.cells (fcl [t.l]).toArray 53))
    clear h7
    go_enter Tryz.func25, Tryz.ntmps25
    go_wp2_with (first
      | (refine wpList_lkAt rfl rfl w.heap.size 7 t.l rfl HLA.out ?_)
      | (refine wpList_lks1 rfl rfl t.l rfl ?_)
      | (at_builtin; refine append_lkq rfl _ _ rfl w.heap.size _ 0 [] rfl (World.ownsRow_nil _ _ _ _) (w.alloc (.cells cs 55)).heap.size t.l rfl HL1.out ?b1 ?b2 ?_))
    case b1 => omega
    case b2 => simp; omega
    intro v2 w2 ho2 hg2 hv2
    have HO2 : Hid (w2.ownsRow w.heap.size 53 4 v2 (lnkf t).length (fcl (lnkf t))) := by
      show World.ownsRow _ _ _ _ _ _ _
      rw [HE.out]
      exact ho2
    have HB2 : Hid (Below w.heap.size w w2) := (HR0.out.next (below_alloc4 _ (.cells (fcl [t.l]).toArray 53))).b.grown hg2 (by simp; omega) (fun g hg => by cases hg)
    clear ho2 hg2 hv2
    go_wp2_with fail
    go_ret
    exact ⟨_, rfl, HO2.out, HB2.out⟩
  have g7 : (t.k == 7) = false := beq_eq_false_iff_ne.2 h7
  by_cases h9 : t.k = 9
  · have g9 : (t.k == 9) = true := beq_iff_eq.2 h9
    have q11 := blk_cell HR0.out.p HC11.out
    obtain ⟨hks, hnd, _⟩ := HTK.out.m h9
    have HPU : Hid (∀ ps, Srp t.ks t.ks.length ps → lnkf t = ps.flatMap (lnx t)) := fun ps hp => by
      rw [lnkf_n h7 (.inr h9)]
      have e : pls t = ps := srp_one hnd (by omega) (pls_srp (by omega)) (by rw [show min t.ks.length t.is.length = t.ks.length by omega]; exact hp)
      rw [e]
    have HKS := hide hks
    clear h7 hnd hks h9
    go_enter Tryz.func25, Tryz.ntmps25
    go_wp2_with fail
    clear q0 q11
    generalize w.alloc (.cells cs 55) = w2 at *
    refine (orderR_any t.ks w2 _ (HSK.out.move (keep_below HR0.out.b)) HML.out.2.2).mono ?_
    rintro e w3 ⟨vl, ps, rfl, hsp, hl3, hb3⟩
    have HE := hide (HPU.out ps hsp)
    have HR3 : Hid (Rlk w w3 cs (.slice none 0 0) vl ps []) := by
      have h := HR0.out.next hb3
      have h2 := blk_lt HR0.out.p
      exact ⟨h.b, h.p, h.o, own_mono hl3 (by omega)⟩
    have HPS : Hid (ps.length = t.is.length ∧ ∀ (j p : Nat), ps[j]? = some p → p < t.is.length) := ⟨by rw [hsp.len]; exact HKS.out, fun j p hp => by have h1 := hsp.lt p (List.mem_of_getElem? hp); have h2 := HKS.out; omega⟩
    obtain ⟨al, cl, hvl⟩ := own_slice hl3
    subst hvl
    clear hsp hl3 hb3 HR0 HPU
    have hpb : ps.length ≤ 100000 := by have h1 := HPS.out.1; have h2 := HML.out.2.1; omega
    go_wp2_with fail
    go_loopw [3, 5] (fun vv ii wx => ∃ i : Nat, i ≤ ps.length ∧ ii = .int .i64 (i : Nat) ∧ Hid (Rlk w wx cs vv (.slice al ps.length cl) ps ((ps.take i).flatMap (lnx t)))) (fun _ ii _ => ps.length - (intOf ii).toNat)
    case atStart => exact ⟨0, by omega, rfl, by simpa using HR3⟩
    case round =>
      clear HR3
      obtain ⟨i, hi, rfl, HR⟩ := hrel
      by_cases hlt : i < ps.length
      · as_aux_lemma =>
        have g1 : (i : Int) < (ps.length : Int) := by omega
        obtain ⟨q, hq⟩ : ∃ q, ps[i]? = some q := ⟨ps[i], List.getElem?_eq_getElem hlt⟩
        have hql : q < t.is.length := HPS.out.2 i q hq
        obtain ⟨gl, hgl⟩ : ∃ gl, al = some ⟨gl, 0, none⟩ := by
          rcases HR.out.l.2 with ⟨e, h0⟩ | ⟨g', c, cur, e, _⟩
          · omega
          · injection e with e _ _
            exact ⟨g', e⟩
        subst hgl
        have HPI : Hid ((ivs ps)[i]? = some (.int .i64 (q : Nat))) := by show _ = _; simp [ivs, hq]
        have gq2 : (q : Int) < (t.is.length : Int) := by omega
        obtain ⟨u, hu⟩ : ∃ u, t.is[q]? = some u := ⟨t.is[q], List.getElem?_eq_getElem hql⟩
        obtain ⟨b, off, rfl, hcells⟩ := HFI.out.resolve_left (fun h => by rw [h] at hql; simp at hql)
        obtain ⟨cu, tu, hcu⟩ := hcells q u hu
        have HZU := hide tu.size13
        have HCU := hide hcu
        have hmem := List.mem_of_getElem? hu
        have HCA : Hid (∀ wx, Below w.heap.size w wx → Calls Tryz.prog 25 #[.agg cu] wx fun e w' => ∃ v, e = .returned v ∧ w'.ownsRow wx.heap.size 53 4 v (lnkf u).length (fcl (lnkf u)) ∧ Below wx.heap.size wx w') := fun wx hb => HIH.out u hmem wx cu (d + 1) (tu.move (keep_below hb)) (HCI.out u hmem) (Nat.le_trans (tmuchL_mem hmem) HML.out.1)
        have HFL : Hid ((ps.take (i + 1)).flatMap (lnx t) = (ps.take i).flatMap (lnx t) ++ lnkf u) := by show _ = _; rw [flat_take hq, lnx_at hu]
        have HLN : Hid (((ps.take i).flatMap (lnx t)).length + (lnkf u).length ≤ 100000) := by
          have h1 := flat_le (t := t) (ps := ps) (i + 1)
          have h2 := HLE.out
          rw [HE.out] at h2
          rw [HFL.out, List.length_append] at h1
          show _ ≤ _
          omega
        clear hcells tu hcu hu hq hmem
        obtain ⟨bx, dx, hux⟩ := own_slice HR.out.o
        subst hux
        go_wp2_with fail
        refine heldStart (S := S17 w cs (.slice (some ⟨gl, 0, none⟩) ps.length cl) ps) (by kernel_rfl) ?_
        have HRD : Hid (Rlk w wr.drew cs (.slice bx ((ps.take i).flatMap (lnx t)).length dx) (.slice (some ⟨gl, 0, none⟩) ps.length cl) ps ((ps.take i).flatMap (lnx t))) := HR.out.next (by refine Below.drew ?_; exact Below.refl _ _)
        clear HR
        generalize wr.drew = w4 at *
        have hS : S17 w cs (.slice (some ⟨gl, 0, none⟩) ps.length cl) ps w4 := ⟨HRD.out.b, HRD.out.p, HRD.out.l⟩
        generalize (ps.take i).flatMap (lnx t) = rs at *
        refine heldTake 0 _ rfl (by kernel_rfl) (by kernel_rfl) (by kernel_rfl) (fun _ _ _ h => h) rfl hS (fun wy hy => by first | (go_simp; done) | (go_simp; rfl) | rfl) ?_
        (try simp only [Act.put]); (try simp only [List.setIfInBounds_toArray, List.set_cons_zero, List.set_cons_succ])
        refine heldTake 1 _ rfl (by kernel_rfl) (by kernel_rfl) (by kernel_rfl) (fun _ _ _ h => h) rfl hS (fun wy hy => by first | (go_simp; done) | (go_simp; rfl) | rfl) ?_
        (try simp only [Act.put]); (try simp only [List.setIfInBounds_toArray, List.set_cons_zero, List.set_cons_succ])
        refine heldTake 3 _ rfl (by kernel_rfl) (by kernel_rfl) (by kernel_rfl) (fun _ _ _ h => h) rfl hS (fun wy hy => by first | (go_simp; done) | (go_simp; rfl) | rfl) ?_
        (try simp only [Act.put]); (try simp only [List.setIfInBounds_toArray, List.set_cons_zero, List.set_cons_succ])
        refine heldTake 4 _ rfl (by kernel_rfl) (by kernel_rfl) (by kernel_rfl) (fun _ _ _ h => h) rfl hS (fun wy hy => by first | (go_simp; done) | (go_simp; rfl) | rfl) ?_
        (try simp only [Act.put]); (try simp only [List.setIfInBounds_toArray, List.set_cons_zero, List.set_cons_succ])
        refine heldTake 2 _ rfl (by kernel_rfl) (by kernel_rfl) (by kernel_rfl) (fun _ _ _ h => h) rfl hS (fun wy hy => by have h0 := blk_cell (j := 12) hy.2.1 HC12.out; first | (go_simp; done) | (go_simp; rfl) | rfl) ?_
        (try simp only [Act.put]); (try simp only [List.setIfInBounds_toArray, List.set_cons_zero, List.set_cons_succ])
        refine heldTake 5 _ rfl (by kernel_rfl) (by kernel_rfl) (by kernel_rfl) (fun _ _ _ h => h) rfl hS (fun wy hy => by first | (go_simp; done) | (go_simp; rfl) | rfl) ?_
        (try simp only [Act.put]); (try simp only [List.setIfInBounds_toArray, List.set_cons_zero, List.set_cons_succ])
        refine heldTake 6 _ rfl (by kernel_rfl) (by kernel_rfl) (by kernel_rfl) (fun _ _ _ h => h) rfl hS (fun wy hy => by have h0 := (own_cell hy.2.2 HPI.out).1; first | (go_simp; done) | (go_simp; rfl) | rfl) ?_
        (try simp only [Act.put]); (try simp only [List.setIfInBounds_toArray, List.set_cons_zero, List.set_cons_succ])
        refine heldTake 7 _ rfl (by kernel_rfl) (by kernel_rfl) (by kernel_rfl) (fun _ _ _ h => h) rfl hS (fun wy hy => by first | (go_simp; done) | (go_simp; rfl) | rfl) ?_
        (try simp only [Act.put]); (try simp only [List.setIfInBounds_toArray, List.set_cons_zero, List.set_cons_succ])
        refine heldTake 8 _ rfl (by kernel_rfl) (by kernel_rfl) (by kernel_rfl) (fun _ _ _ h => h) rfl hS (fun wy hy => exec_valAt (g := b) (off := off + q * 13) (cs := cu) rfl rfl HZU.out (fun j x hx => keep_below hy.1 _ _ (HCU.out j x hx))) ?_
        (try simp only [Act.put]); (try simp only [List.setIfInBounds_toArray, List.set_cons_zero, List.set_cons_succ])
        refine heldStep 9 rfl (by kernel_rfl) (fun K hK => ?_)
        go_simp
        refine (HCA.out w4 HRD.out.b).mono ?_
        rintro e w5 ⟨v5, rfl, ho5, hb5⟩
        have HR5 := hide (HRD.out.next hb5)
        have HO5 := hide ho5
        clear ho5 hb5 HRD HCA
        refine (Hid.out hK) _ _ ⟨HR5.out.b, HR5.out.p, HR5.out.l⟩ (fun hS2 => ?_)
        clear hK K hS
        have hS := hS2
        clear hS2
        (try simp only [Act.put]); (try simp only [List.setIfInBounds_toArray, List.set_cons_zero, List.set_cons_succ])
        refine heldStep 10 rfl (by kernel_rfl) (fun K hK => ?_)
        refine step_append_lks rfl _ _ rfl (w.heap.size + 1) (.slice bx rs.length dx) rs.length rs rfl HR5.out.o w4.heap.size v5 (lnkf u) rfl HO5.out (by have := HLN.out; omega) (by have := blk_lt HR5.out.p; omega) (fun v6 w6 ho6 hg6 hq6 => ?_)
        have HR6 : Hid (Rlk w w6 cs v6 (.slice (some ⟨gl, 0, none⟩) ps.length cl) ps ((ps.take (i + 1)).flatMap (lnx t))) := HR5.out.app (by rw [HFL.out, List.length_append]; exact ho6) hg6
        clear ho6 hg6 hq6 HR5 HO5
        refine (Hid.out hK) _ _ ⟨HR6.out.b, HR6.out.p, HR6.out.l⟩ (fun hS2 => ?_)
        clear hK K hS
        have hS := hS2
        clear hS2
        (try simp only [Act.put]); (try simp only [List.setIfInBounds_toArray, List.set_cons_zero, List.set_cons_succ])
        refine heldTake 11 _ rfl (by kernel_rfl) (by kernel_rfl) (by kernel_rfl) (fun _ _ _ h => h) rfl hS (fun wy hy => by first | (go_simp; done) | (go_simp; rfl) | rfl) ?_
        (try simp only [Act.put]); (try simp only [List.setIfInBounds_toArray, List.set_cons_zero, List.set_cons_succ])
        refine heldDone (by kernel_rfl) ?_
        clear hS
        go_wp2_with fail
        go_roundw
        case rel => exact ⟨i + 1, by omega, by go_num, HR6⟩
        case measure => simp [intOf]; omega
      · as_aux_lemma =>
        have g1 : ¬ (i : Int) < (ps.length : Int) := by omega
        have hie : i = ps.length := by omega
        have HRE : Hid (w.heap.size ≤ w.heap.size + 1 ∧ wr.ownsRow (w.heap.size + 1) 53 4 u3 (lnkf t).length (fcl (lnkf t))) := by
          refine ⟨by omega, ?_⟩
          have h := HR.out.o
          rw [hie, List.take_length, ← HE.out] at h
          exact h
        have HBE := hide HR.out.b
        clear HR
        go_wp2_with fail
        go_ret
        exact ⟨_, rfl, own_mono HRE.out.2 HRE.out.1, HBE.out⟩
  · have g9 : (t.k == 9) = false := beq_eq_false_iff_ne.2 h9
    have HE : Hid (lnkf t = (List.range t.is.length).flatMap (lnx t)) := by
      show _ = _
      by_cases h8 : t.k = 8
      · rw [lnkf_n h7 (.inl h8)]
        unfold pls
        rw [if_pos h8]
      · rw [lnkf_0 h7 (by omega), tidy_is htd h8 h9]
        rfl
    clear h7
    go_enter Tryz.func25, Tryz.ntmps25
    go_wp2_with fail
    clear q0
    generalize w.alloc (.cells cs 55) = w2 at *
    go_loopw [3, 6] (fun vv ii wx => ∃ i : Nat, i ≤ t.is.length ∧ ii = .int .i64 (i : Nat) ∧ Hid (Rlk w wx cs vv (.slice none 0 0) [] (((List.range t.is.length).take i).flatMap (lnx t)))) (fun _ ii _ => t.is.length - (intOf ii).toNat)
    case atStart => exact ⟨0, by omega, rfl, by simpa using HR0⟩
    case round =>
      clear HR0
      obtain ⟨i, hi, rfl, HR⟩ := hrel
      have q12 := blk_cell (j := 12) HR.out.p HC12.out
      by_cases hlt : i < t.is.length
      · as_aux_lemma =>
        have g1 : (i : Int) < (t.is.length : Int) := by omega
        obtain ⟨u, hu⟩ : ∃ u, t.is[i]? = some u := ⟨t.is[i], List.getElem?_eq_getElem hlt⟩
        obtain ⟨b, off, rfl, hcells⟩ := HFI.out.resolve_left (fun h => by rw [h] at hlt; simp at hlt)
        obtain ⟨cu, tu, hcu⟩ := hcells i u hu
        have HZU := hide tu.size13
        have HCC : Hid (∀ j x, cu[j]? = some x → wr.cell? ⟨b, off + i * 13 + j, none⟩ = some x) := fun j x hx => keep_below HR.out.b _ _ (hcu j x hx)
        have hmem := List.mem_of_getElem? hu
        have HCA : Hid (∀ wx, Below w.heap.size w wx → Calls Tryz.prog 25 #[.agg cu] wx fun e w' => ∃ v, e = .returned v ∧ w'.ownsRow wx.heap.size 53 4 v (lnkf u).length (fcl (lnkf u)) ∧ Below wx.heap.size wx w') := fun wx hb => HIH.out u hmem wx cu (d + 1) (tu.move (keep_below hb)) (HCI.out u hmem) (Nat.le_trans (tmuchL_mem hmem) HML.out.1)
        have HFL : Hid (((List.range t.is.length).take (i + 1)).flatMap (lnx t) = ((List.range t.is.length).take i).flatMap (lnx t) ++ lnkf u) := by show _ = _; rw [flat_take (List.getElem?_range hlt), lnx_at hu]
        have HLN : Hid ((((List.range t.is.length).take i).flatMap (lnx t)).length + (lnkf u).length ≤ 100000) := by
          have h1 := flat_le (t := t) (ps := List.range t.is.length) (i + 1)
          have h2 := HLE.out
          rw [HE.out] at h2
          rw [HFL.out, List.length_append] at h1
          show _ ≤ _
          omega
        clear hcells tu hcu hu hmem
        obtain ⟨bx, dx, hux⟩ := own_slice HR.out.o
        subst hux
        generalize ((List.range t.is.length).take i).flatMap (lnx t) = rs at *
        go_wp2_with (refine wpList_valAt rfl rfl b (off + i * 13) cu rfl HZU.out HCC.out ?_)
        refine (HCA.out wr HR.out.b).mono ?_
        rintro e w5 ⟨v5, rfl, ho5, hb5⟩
        have HR5 := hide (HR.out.next hb5)
        have HO5 := hide ho5
        clear ho5 hb5 HR HCA HCC q12
        go_wp2_with (at_builtin; refine append_lks rfl _ _ rfl (w.heap.size + 1) (.slice bx rs.length dx) rs.length rs rfl HR5.out.o wr.heap.size v5 (lnkf u) rfl HO5.out ?b1 ?b2 ?_)
        case b1 => have := HLN.out; omega
        case b2 => have := blk_lt HR5.out.p; omega
        intro v6 w6 ho6 hg6 hq6
        have HR6 : Hid (Rlk w w6 cs v6 (.slice none 0 0) [] (((List.range t.is.length).take (i + 1)).flatMap (lnx t))) := HR5.out.app (by rw [HFL.out, List.length_append]; exact ho6) hg6
        clear ho6 hg6 hq6 HR5 HO5
        go_wp2_with fail
        go_roundw
        case rel => exact ⟨i + 1, by omega, by go_num, HR6⟩
        case measure => simp [intOf]; omega
      · as_aux_lemma =>
        have g1 : ¬ (i : Int) < (t.is.length : Int) := by omega
        have hie : i = t.is.length := by omega
        have HRE : Hid (w.heap.size ≤ w.heap.size + 1 ∧ wr.ownsRow (w.heap.size + 1) 53 4 u3 (lnkf t).length (fcl (lnkf t))) := by
          refine ⟨by omega, ?_⟩
          have h := HR.out.o
          rw [hie, List.take_of_length_le (by simp), ← HE.out] at h
          exact h
        have HBE := hide HR.out.b
        clear HR
        go_wp2_with fail
        go_ret
        exact ⟨_, rfl, own_mono HRE.out.2 HRE.out.1, HBE.out⟩
theorem rlinks_any (t : Tv) : RlkC t := by
  have h : ∀ N, ∀ t : Tv, SizeOf.sizeOf t = N → RlkC t := by
    intro N
    induction N using Nat.strongRecOn with
    | _ N ih => exact fun t hN => rlinks_step t (fun u hu => ih _ (by rw [← hN]; exact Tv.is_lt hu) u rfl)
  exact h _ t rfl
end
section
open Go.RowKit Go
set_option maxRecDepth 1000000 in
set_option maxHeartbeats 2000000 in
theorem asks_links (t : Tv) (w : World) (base B : Nat) (C : Array Value) (f : Fin 4 → Fs) (tt d u : Nat) (cx cv : Array Value) (h : Bkq w base B C f tt d u) (hx : Tin w t cx) (hv : Tin w t cv) (hT : chkf t 0 = 0) (hm : tmuch t ≤ 60000) (htt : tt + 2 < 68719476736) :
    Calls Tryz.prog 10 #[.agg cx, .agg cv, .pointer (some ⟨B, 0, none⟩)] w fun e w' => e = .returned (.bool true) ∧ Hid (Ps w base B f tt d 2 w') := by
  have HX := hide hx
  have HV := hide hv
  have HT := hide hT
  have HM := hide hm
  have HTT := hide htt
  have HSX := hide hx.size13
  have HSV := hide hv.size13
  have HBL : Hid (∀ q, Ft4 B f q → q < w.heap.size) := fun q e => (h.lt q e).2
  have HBS : Hid (base ≤ w.heap.size) := h.sz
  have HLE : Hid ((lnkf t).length ≤ 60000) := by have := lnkf_le t; show _ ≤ _; omega
  have HLB : Hid (∀ l ∈ lnkf t, Lkb l) := lnkf_bd t cx hx
  have HQ := hide (Sq.start h cx cv)
  have HVX := hide HQ.out.vx
  clear h hx hv hT hm htt
  go_enter Tryz.func10, Tryz.ntmps10
  go_wp2_with (refine wpList_valAt rfl rfl w.heap.size 0 cx rfl HSX.out HVX.out ?_)
  clear HVX
  generalize (w.alloc (.cells cx 55)).alloc (.cells cv 55) = w0 at *
  have HZ0 := hide HQ.out.z
  refine (links6_any t w0 cx (HX.out.move (keep_below HQ.out.b)) (by have := HM.out; omega)).mono ?_
  rintro e w1 ⟨v1, rfl, ho, hb⟩
  have HO1 := hide ho
  have HL1 := hide hb.size
  replace HQ := hide (HQ.out.next hb)
  have HVX := hide HQ.out.vx
  have HI1 : Hid (∀ q, v1.ownBlock = some q → w0.heap.size ≤ q ∧ q < w1.heap.size) := fun q e => ho.lt q e
  clear ho hb
  go_wp2_with (refine wpList_valAt rfl rfl w.heap.size 0 cx rfl HSX.out HVX.out ?_)
  clear HVX
  refine (links6_any t w1 cx (HX.out.move (keep_below HQ.out.b)) (by have := HM.out; omega)).mono ?_
  rintro e w2 ⟨v2, rfl, ho, hb⟩
  have HO2 := hide ho
  replace HO1 : Hid (w2.ownsRow w0.heap.size 53 4 v1 (lnkf t).length (fcl (lnkf t))) := (Kp.of_below (S := fun _ => False) hb).owns HO1.out (fun _ _ e => e)
  have HL2 := hide hb.size
  replace HQ := hide (HQ.out.next hb)
  have HVX := hide HQ.out.vv
  have HI2 : Hid (∀ q, v2.ownBlock = some q → w1.heap.size ≤ q ∧ q < w2.heap.size) := fun q e => ho.lt q e
  clear ho hb
  go_wp2_with (refine wpList_valAt rfl rfl (w.heap.size + 1) 0 cv rfl HSV.out HVX.out ?_)
  clear HVX
  refine ((rlinks_any t) w2 cv 0 (HV.out.move (keep_below HQ.out.b)) HT.out (by have := HM.out; omega)).mono ?_
  rintro e w3 ⟨v3, rfl, ho, hb⟩
  have HO3 := hide ho
  replace HO1 : Hid (w3.ownsRow w0.heap.size 53 4 v1 (lnkf t).length (fcl (lnkf t))) := (Kp.of_below (S := fun _ => False) hb).owns HO1.out (fun _ _ e => e)
  replace HO2 : Hid (w3.ownsRow w1.heap.size 53 4 v2 (lnkf t).length (fcl (lnkf t))) := (Kp.of_below (S := fun _ => False) hb).owns HO2.out (fun _ _ e => e)
  have HL3 := hide hb.size
  replace HQ := hide (HQ.out.next hb)
  have HI3 : Hid (∀ q, v3.ownBlock = some q → w2.heap.size ≤ q ∧ q < w3.heap.size) := fun q e => ho.lt q e
  clear ho hb
  go_wp2_with fail
  refine (eqLinks_any (LSl.own HO1.out rfl (by have := HLE.out; omega) HLB.out) (LSl.own HO3.out rfl (by have := HLE.out; omega) HLB.out)).mono ?_
  rintro e w4 ⟨he, hb⟩
  rw [decide_eq_true (rfl : lnkf t = lnkf t)] at he
  subst he
  replace HO1 : Hid (w4.ownsRow w0.heap.size 53 4 v1 (lnkf t).length (fcl (lnkf t))) := (Kp.of_below (S := fun _ => False) hb).owns HO1.out (fun _ _ e => e)
  replace HO2 : Hid (w4.ownsRow w1.heap.size 53 4 v2 (lnkf t).length (fcl (lnkf t))) := (Kp.of_below (S := fun _ => False) hb).owns HO2.out (fun _ _ e => e)
  replace HO3 : Hid (w4.ownsRow w2.heap.size 53 4 v3 (lnkf t).length (fcl (lnkf t))) := (Kp.of_below (S := fun _ => False) hb).owns HO3.out (fun _ _ e => e)
  have HL4 := hide hb.size
  replace HQ := hide (HQ.out.next hb)
  clear hb
  go_wp2_with fail
  have hz0 := HZ0.out
  have hz1 := HL1.out
  have hz2 := HL2.out
  have hz3 := HL3.out
  have hz4 := HL4.out
  have hz5 := HBS.out
  refine (bkLinks_any HQ.out.bk v1 _ _ (own_mono HO1.out (by omega)) (by have := HLE.out; omega) (fun q e e2 => by have := HI1.out q e; have := HBL.out q e2; omega) (by have := HTT.out; omega)).mono ?_
  rintro e w5 ⟨rfl, hP⟩
  obtain ⟨C1, f1, u1, hB1, hk1, hf1⟩ := hP.out
  have HP1 := hide hB1
  have HK1 := hide hk1
  have HF1 := hide hf1
  replace HO2 : Hid (w5.ownsRow w1.heap.size 53 4 v2 (lnkf t).length (fcl (lnkf t))) := hk1.owns HO2.out (fun q e e2 => by
    have h1 := HI2.out q e
    rcases e2 with e2 | e2
    · have := HBL.out q e2
      omega
    · have := HI1.out q e2
      omega)
  replace HO3 : Hid (w5.ownsRow w2.heap.size 53 4 v3 (lnkf t).length (fcl (lnkf t))) := hk1.owns HO3.out (fun q e e2 => by
    have h1 := HI3.out q e
    rcases e2 with e2 | e2
    · have := HBL.out q e2
      omega
    · have := HI1.out q e2
      omega)
  have HK0 : Hid (Kp (fun q => Ft4 B f q ∨ False) w w4) := Kp.mono (S := fun _ => False) ⟨HQ.out.b.os, HQ.out.b.tape, HQ.out.b.output, HQ.out.b.size, fun k hk _ => HQ.out.b.block k hk⟩ (fun _ _ e => e.elim)
  clear hP hB1 hk1 hf1 HQ HO1 hz0 hz1 hz2 hz3 hz4 hz5
  go_wp2_with fail
  refine (eqLinks_any (LSl.own HO2.out rfl (by have := HLE.out; omega) HLB.out) (LSl.own HO3.out rfl (by have := HLE.out; omega) HLB.out)).mono ?_
  rintro e w6 ⟨he, hb⟩
  rw [decide_eq_true (rfl : lnkf t = lnkf t)] at he
  subst he
  replace HO2 : Hid (w6.ownsRow w1.heap.size 53 4 v2 (lnkf t).length (fcl (lnkf t))) := (Kp.of_below (S := fun _ => False) hb).owns HO2.out (fun _ _ e => e)
  have HP2 := hide (HP1.out.next hb)
  have HK2 : Hid (Kp (fun q => Ft4 B f q ∨ v1.ownBlock = some q) w4 w6) := HK1.out.trans (Kp.of_below (S := fun _ => False) hb) (fun _ _ e => e.elim)
  clear hb HK1 HP1
  go_wp2_with fail
  have hz0 := HZ0.out
  have hz1 := HL1.out
  have hz2 := HL2.out
  have hz3 := HL3.out
  have hz4 := HL4.out
  have hz5 := HBS.out
  refine (bkLinks_any HP2.out v2 _ _ (own_mono HO2.out (by omega)) (by have := HLE.out; omega) (fun q e e2 => by
    have h1 := HI2.out q e
    rcases HF1.out q e2 with e3 | e3 | e3
    · have := HBL.out q e3
      omega
    · have := HI1.out q e3
      omega
    · omega) (by have := HTT.out; omega)).mono ?_
  rintro e w7 ⟨rfl, hP⟩
  have HE : Hid (Ps w base B f tt d (1 + 1) w7) := Ps.put (HK0.out.trans HK2.out (fun k hk e => by
    rcases e with e | e
    · exact .inl e
    · have := HI1.out k e
      omega)) (fun q e => by
    rcases HF1.out q e with e | e | e
    · exact .inl e
    · have := HI1.out q e
      exact .inr (.inr (by omega))
    · have := HK0.out.size
      exact .inr (.inr (by omega))) hP.out (fun q e => by
    have := HI2.out q e
    omega)
  clear hP hz0 hz1 hz2 hz3 hz4 hz5
  go_wp2_with fail
  go_ret
  exact ⟨rfl, HE.out⟩
end
section
open Go.RowKit Go
/-- A zero value, with blocks of its own. -/
theorem nor_zero (w : World) (lo hi : Nat) : Nor w lo hi zt zv :=
  Nos.mk _ zt (.slice none 0 0) (.slice none 0 0) (.slice none 0 0) [] (fun _ _ => False) ⟨by show 0 < _; decide, by show 0 < _; decide, by show (0 : Nat) ≤ _; decide, by show (0 : Nat) ≤ _; decide, lkb0, by show (0 : Nat) ≤ _; decide⟩ (fun x hx => by cases hx) (World.ownsRow_nil _ _ _ _) (World.ownsRow_nil _ _ _ _) (by show (0 : Nat) ≤ _; decide) (fun s hs => by cases hs) (World.ownsRow_nil _ _ _ _) (by show (0 : Nat) ≤ _; decide) rfl (fun c hc => by cases hc)
    (fun q e => by cases e) (fun q e => by cases e) (fun q e => by cases e) (fun i hi => by exact absurd hi (Nat.not_lt_zero i)) (fun i j hij hj => by exact absurd hj (Nat.not_lt_zero j)) (fun i u c h => by simp [zt, Tv.is] at h)
/-- What Find tells: whether it is there, and what. -/
def FdV (t : Tv) (key : ByteArray) (b : Bool) (u : Tv) : Prop :=
  (b = true ∧ ∃ i : Nat, t.k = 9 ∧ t.ks[i]? = some key ∧ (∀ j s, j < i → t.ks[j]? = some s → s ≠ key) ∧ t.is[i]? = some u) ∨ (b = false ∧ u = zt ∧ (t.k ≠ 9 ∨ key ∉ t.ks))
theorem FdV.one {t : Tv} {key : ByteArray} {b b' : Bool} {u u' : Tv} (h : FdV t key b u) (h' : FdV t key b' u') : b' = b ∧ u' = u := by
  rcases h with ⟨hb, i, hk, hi, hf, hu⟩ | ⟨hb, hu, hn⟩ <;> rcases h' with ⟨hb', i', hk', hi', hf', hu'⟩ | ⟨hb', hu', hn'⟩
  · have e : i = i' := by
      rcases Nat.lt_trichotomy i i' with h | h | h
      · exact absurd rfl (hf' i key h hi)
      · exact h
      · exact absurd rfl (hf i' key h hi')
    subst e
    rw [hu] at hu'
    injection hu' with e
    exact ⟨hb'.trans hb.symm, e.symm⟩
  · exact (hn'.elim (fun h => h hk) (fun h => h (List.mem_of_getElem? hi))).elim
  · exact (hn.elim (fun h => h hk') (fun h => h (List.mem_of_getElem? hi'))).elim
  · exact ⟨hb'.trans hb.symm, hu'.trans hu.symm⟩
theorem FdV.much {t : Tv} {key : ByteArray} {b : Bool} {u : Tv} (h : FdV t key b u) : tmuch u ≤ tmuch t := by
  have e := tmuch_eq t
  rcases h with ⟨hb, i, hk, hi, hf, hu⟩ | ⟨hb, rfl, hn⟩
  · have := tmuchL_mem (List.mem_of_getElem? hu)
    omega
  · have h1 : tmuch zt = 1 := by decide +kernel
    omega
/-- The landed Find. -/
theorem find6V_any (t : Tv) (key : ByteArray) (w : World) (cs : Array Value) (ht : Tin w t cs) (hkl : t.k = 9 → t.ks.length = t.is.length) (hm : tmuch t ≤ 100000) : Calls Tryz.prog 28 #[.agg cs, .string key] w fun e w' => ∃ b u c, e = .returned (.tuple #[.agg c, .bool b]) ∧ FdV t key b u ∧ Nor w' w.heap.size w'.heap.size u c ∧ Below w.heap.size w w' := by
  refine (find6O_any t key w cs ht hm).mono ?_
  rintro e w' ⟨⟨r, hr, h⟩, hb⟩
  rcases h with ⟨i, u, c, h1, h9, hu, he, hn⟩ | ⟨h1, he⟩
  · refine ⟨true, u, c, he, .inl ⟨rfl, i, h9, ?_⟩, hn, hb⟩
    rcases hr with ⟨h2, _⟩ | ⟨j, h2, h3, h4⟩
    · omega
    · have e : j = i := by omega
      subst e
      exact ⟨h3, h4, hu⟩
  · refine ⟨false, zt, zv, he, .inr ⟨rfl, rfl, ?_⟩, nor_zero _ _ _, hb⟩
    by_cases h9 : t.k = 9
    · rcases hr with ⟨h2, h3⟩ | ⟨j, h2, h3, h4⟩
      · exact .inr h3
      · have hj := (List.getElem?_eq_some_iff.1 h3).1
        have hl := hkl h9
        rcases h1 with h1 | h1 | h1
        · exact .inl h1
        · omega
        · omega
    · exact .inl h9
/-- The reference's answer. -/
def Fdr (t : Tv) (key : ByteArray) (w : World) (e : Ending) (w' : World) : Prop := ∃ b u c, e = .returned (.tuple #[.agg c, .bool b]) ∧ FdV t key b u ∧ Ntv w' w.heap.size w'.heap.size u c ∧ Below w.heap.size w w'
theorem Fdr.mk {t : Tv} {key : ByteArray} {w w' : World} {e : Ending} (b : Bool) (u : Tv) (c : Array Value) (he : e = .returned (.tuple #[.agg c, .bool b])) (h1 : FdV t key b u) (h2 : Ntv w' w.heap.size w'.heap.size u c) (h3 : Below w.heap.size w w') : Fdr t key w e w' := ⟨b, u, c, he, h1, h2, h3⟩
theorem end_rfd {wx : World} {R : Nat} {c : Array Value} {x : Value} {tmps : Array Value} (hn : c.size = 13) (hr : wx.heap[R]? = some (.cells c 55 (0, 0))) (hp : tmps.getD 4 undef = .pointer (some ⟨R, 0, none⟩)) (hx : tmps.getD 5 undef = x) : (results Tryz.f29 tmps).run Tryz.prog wx = .ok (.tuple #[.agg c, x]) wx :=
  end_c2 (fn := Tryz.f29) (p := 4) (q := 5) rfl Tryz.underlying55 infoV hn hr hp hx
set_option maxRecDepth 1000000 in
set_option maxHeartbeats 1000000 in
/-- The reference's Find. -/
theorem rfind_any (t : Tv) (key : ByteArray) (w : World) (cs : Array Value) (ht : Tin w t cs) (hkl : t.k = 9 → t.ks.length = t.is.length) (hm : tmuch t ≤ 100000) : Calls Tryz.prog 29 #[.agg cs, .string key] w fun e w' => Fdr t key w e w' := by
  have hlen : t.is.length ≤ 100000 := by have := tmuch_eq t; have := tmuchL_len t.is; omega
  have HML : Hid (tmuchL t.is ≤ 100000) := by have := tmuch_eq t; show _ ≤ _; omega
  obtain ⟨vy, vk, vi, rfl, hy, hk, hv, hb⟩ := ht.parts
  obtain ⟨⟨ak, ck, rfl, _, hkf⟩, hkm, _⟩ := hk
  obtain ⟨⟨a, cap, rfl, _, hform⟩, hmax⟩ := hv
  have HF := hide hform
  have HKF := hide hkf
  have HKL := hide hkl
  have HC0 : Hid ((vcs t vy (.slice ak t.ks.length ck) (.slice a t.is.length cap))[0]? = some (.int .i64 t.k)) := rfl
  have HC11 : Hid ((vcs t vy (.slice ak t.ks.length ck) (.slice a t.is.length cap))[11]? = some (.slice ak t.ks.length ck)) := rfl
  have HC12 : Hid ((vcs t vy (.slice ak t.ks.length ck) (.slice a t.is.length cap))[12]? = some (.slice a t.is.length cap)) := rfl
  generalize vcs t vy (.slice ak t.ks.length ck) (.slice a t.is.length cap) = cs at *
  clear ht hm hy hb hform hkf hkl
  have HW0 := hide (Rm.start w cs)
  have HIZ : Hid ((Tryz.prog.info? 55).map (·.size) = some zv.size) := infoV
  have HAZ : Hid (zv.all (·.oneCell') = true) := by show _ = _; simp [zv, Value.oneCell']
  have q0 := blk_cell (j := 0) HW0.out.p HC0.out
  have HR4 := hide HW0.out.r
  unfold zv at q0 HR4 HW0
  by_cases hk9 : t.k = 9
  · have g0 : (t.k == 9) = true := by simp [hk9]
    have HK9 := hide hk9
    clear hk9
    go_enter Tryz.func29, Tryz.ntmps29
    go_wp2_with fail
    generalize (w.alloc (.cells cs 55)).alloc (.cells #[.int .i64 0, .bool false, .bool false, .int .u64 0, .int .u64 0, .string ⟨#[]⟩, .slice none 0 0, .int .i64 0, .int .u64 0, .int .u64 0, .string ⟨#[]⟩, .slice none 0 0, .slice none 0 0] 55) = w2 at *
    clear q0 HR4
    go_loopw [6] (fun ii wx => ∃ i : Nat, i ≤ t.ks.length ∧ ii = .int .i64 (i : Nat) ∧ Hid (Rm w wx cs) ∧ Hid (∀ j s, j < i → t.ks[j]? = some s → s ≠ key)) (fun ii _ => t.ks.length - (intOf ii).toNat)
    case atStart => exact ⟨0, by omega, rfl, HW0, fun j s hj => absurd hj (by omega)⟩
    case round =>
      rename World => wa
      obtain ⟨i, hi, rfl, HWa, HI⟩ := hrel
      have q11 := blk_cell (j := 11) HWa.out.p HC11.out
      by_cases hlt : i < t.ks.length
      · have g1 : (i : Int) < (t.ks.length : Int) := by omega
        obtain ⟨s, hs⟩ : ∃ s, t.ks[i]? = some s := ⟨t.ks[i], List.getElem?_eq_getElem hlt⟩
        obtain ⟨bk, ok, rfl, hcc⟩ := HKF.out.resolve_left (fun h => by rw [h] at hlt; simp at hlt)
        have c1 := keep_below HWa.out.b _ _ (hcc i s hs)
        clear hcc HKF
        by_cases he : s = key
        · as_aux_lemma =>
          have hne : (s.toList == key.toList) = true := by rw [he]; simp
          have hli : i < t.is.length := by have := HKL.out HK9.out; omega
          have g3 : (i : Int) < (t.is.length : Int) := by omega
          obtain ⟨u, hu⟩ : ∃ u, t.is[i]? = some u := ⟨t.is[i], List.getElem?_eq_getElem hli⟩
          obtain ⟨b, off, rfl, hcells⟩ := HF.out.resolve_left (fun h => by rw [h] at hli; simp at hli)
          obtain ⟨cu, hcu, hcc⟩ := hcells i u hu
          have q12 := blk_cell (j := 12) HWa.out.p HC12.out
          have hkb : ∀ p x, w.cell? p = some x → wa.cell? p = some x := keep_below HWa.out.b
          have HCC : Hid (∀ j x, cu[j]? = some x → wa.cell? ⟨b, off + i * 13 + j, none⟩ = some x) := fun j x hx => hkb _ _ (hcc j x hx)
          have HSZ := hide hcu.size13
          have HCA := hide (copyValue_any u wa cu (hcu.move hkb) (by have h1 := tmuchL_mem (List.mem_of_getElem? hu); have h2 := HML.out; omega))
          have HFD : Hid (FdV t key true u) := Or.inl ⟨rfl, i, HK9.out, by rw [hs, he], HI.out, hu⟩
          clear hu hcells hcu hcc hkb he hs HI
          go_wp2_with (refine wpList_valAt rfl rfl b (off + i * 13) cu rfl HSZ.out HCC.out ?_)
          refine HCA.out.mono ?_
          rintro e w4 ⟨c, rfl, hnt, hb4⟩
          have HW4 := hide (HWa.out.next hb4)
          have HZ4 : Hid (w.heap.size + 2 ≤ wa.heap.size) := HWa.out.z
          have HNT := hide hnt
          have HA1 := hide hnt.tin.all1
          have HS1 := hide hnt.size
          have HIN : Hid ((Tryz.prog.info? 55).map (·.size) = some c.size) := by show _ = _; rw [HS1.out]; exact infoV
          have HZV : Hid (zv.size = c.size) := by show _ = _; rw [HS1.out]; rfl
          have HR5 := hide HW4.out.r
          clear hnt hb4 HCA HCC q11 q12 c1
          go_wp2_with (refine wpList_storeRow rfl rfl (w.heap.size + 1) zv c 55 rfl rfl HR5.out HIN.out HZV.out HA1.out ?_)
          have hkr := row_kp w4 (w.heap.size + 1) c
          have hz4 := HZ4.out
          exact bodyPost_ret (end_rfd HS1.out (row_same HR5.out) rfl rfl) rfl (Fdr.mk true _ c rfl HFD.out ((HNT.out.kp hkr (fun q h1 h2 e => by omega)).mono (by omega) hkr.size) (HW4.out.b.trans (hkr.below HW4.out.b.size (fun q e => by omega))))
        · as_aux_lemma =>
          have hne := str_beq_no he
          have HI2 : Hid (∀ j s, j < i + 1 → t.ks[j]? = some s → s ≠ key) := fun j s' hj h1 => by
            by_cases hji : j = i
            · subst hji
              rw [hs] at h1
              injection h1 with h1
              rw [← h1]
              exact he
            · exact HI.out j s' (by omega) h1
          clear he hs HI
          go_wp2_with fail
          go_roundw
          case rel => exact ⟨i + 1, by omega, by go_num, HWa, HI2⟩
          case measure => simp [intOf]; omega
      · as_aux_lemma =>
        have g1 : ¬ (i : Int) < (t.ks.length : Int) := by omega
        have HFD : Hid (FdV t key false zt) := Or.inr ⟨rfl, rfl, .inr (fun h => by
          obtain ⟨j, hj⟩ := List.mem_iff_getElem?.1 h
          have := (List.getElem?_eq_some_iff.1 hj).1
          exact HI.out j _ (by omega) hj rfl)⟩
        have HR4 := hide HWa.out.r
        go_wp2_with (refine wpList_storeRow rfl rfl (w.heap.size + 1) zv zv 55 rfl rfl HR4.out HIZ.out rfl HAZ.out ?_)
        have hkr := row_kp wa (w.heap.size + 1) zv
        exact bodyPost_ret (end_rfd rfl (row_same HR4.out) rfl rfl) rfl (Fdr.mk false zt zv rfl HFD.out (nor_zero _ _ _).ntv (HWa.out.b.trans (hkr.below HWa.out.b.size (fun q e => by omega))))
  · as_aux_lemma =>
    have HFD : Hid (FdV t key false zt) := Or.inr ⟨rfl, rfl, .inl hk9⟩
    have g0 : (t.k == 9) = false := by simp [hk9]
    go_enter Tryz.func29, Tryz.ntmps29
    go_wp2_with (refine wpList_storeRow rfl rfl (w.heap.size + 1) zv zv 55 rfl rfl HR4.out HIZ.out rfl HAZ.out ?_)
    have hkr := row_kp ((w.alloc (.cells cs 55)).alloc (.cells zv 55)) (w.heap.size + 1) zv
    have HW1 := Rm.start w cs
    exact bodyPost_ret (end_rfd rfl (row_same HW1.r) rfl rfl) rfl (Fdr.mk false zt zv rfl HFD.out (nor_zero _ _ _).ntv (HW1.b.trans (hkr.below HW1.b.size (fun q e => by omega))))
end
end Go.Proofs.YtgcccndbahphaaaGreatDoor

import Derived.Test.YtibcepokeaaoiabDoorKua
namespace Go.Proofs.YtibcepokeaaoiabDoor
section
open Go.RowKit Go
theorem Tis.parts {w : World} {S : Nat → Prop} {t : Tv} {c : Array Value} (h : Tis w S t c) : ∃ vy vk a cap, c = vcs t vy vk (.slice a t.is.length cap) ∧ Tbd t ∧ BSl w vy t.y ∧ (t.y ≠ [] → ∀ q, vy.ownBlock = some q → ¬ S q) ∧ SSl w vk t.ks ∧ t.is.length ≤ 140737488351232 ∧ (t.is = [] ∨ ∃ b off, a = some ⟨b, off, none⟩ ∧ ∀ i u, t.is[i]? = some u → ∃ d, Tis w S u d ∧ ∀ j x, d[j]? = some x → w.cell? ⟨b, off + i * 13 + j, none⟩ = some x) := by
  cases h with
  | mk _ vy vk vi hb hy hys hk hks cs a cap hv hc hm hi ha =>
    subst hv
    refine ⟨vy, vk, a, cap, rfl, hb, hy, hys, hk, hm, ?_⟩
    rcases ha with ha | ⟨b, off, e, hs, ha⟩
    · exact .inl ha
    · exact .inr ⟨b, off, e, fun i u hu => ⟨cs i, hi i u hu, fun j x hx => ha i (List.getElem?_eq_some_iff.1 hu).1 j x hx⟩⟩
theorem end_tu {wx : World} {R : Nat} {c : Array Value} {tmps : Array Value} (hn : c.size = 13) (hr : wx.heap[R]? = some (.cells c 29 (0, 0))) (hp : tmps.getD 4 undef = .pointer (some ⟨R, 0, none⟩)) : (results Tryd.f9 tmps).run Tryd.prog wx = .ok (.agg c) wx := by
  refine (results_one (p := 4) (ty := 29) rfl _ _ _).trans ?_
  rw [hp]
  have h1 := run_loadVar_row (P := Tryd.prog) wx R 29 29 c (0, 0) _ hr Tryd.underlying29 rfl (by rw [hn]; exact infoV)
  simp [asAddr, h1, Result.andThen]
/-- What a region of turned holds throughout. -/
def S13 (w : World) (cs : Array Value) (wy : World) : Prop := Below w.heap.size w wy ∧ wy.heap[w.heap.size]? = some (.cells cs 29 (0, 0))
set_option maxRecDepth 1000000 in
set_option maxHeartbeats 8000000 in
theorem turned_step (n : Nat) (hn : n ≤ 1000) (t : Tv) (ih : ∀ u ∈ t.is, TurC n u) : TurC n t := by
  intro w S cs ht hS hk hm
  have HIH := hide ih
  have HTI := hide ht.tin
  have HSS := hide hS
  have HTK := hide hk
  have hme := tmuch_eq t
  have HML : Hid (tmuchL t.is ≤ 100000 ∧ t.is.length ≤ 100000 ∧ t.ks.length ≤ 100000) := by
    have := tmuchL_len t.is
    exact ⟨by omega, by omega, by omega⟩
  have HSZ := hide ht.tin.size13
  have HA1 := hide ht.tin.all1
  clear ih hS hk hm hme
  obtain ⟨vy, vk, ai, ci, rfl, hb, hy, hys, hkk, hmi, hfi⟩ := ht.parts
  have HBD := hide hb
  have HBY := hide hy
  have HYS := hide hys
  have HFI := hide hfi
  obtain ⟨⟨ak, ck, rfl, _, hkf⟩, hkm, hkz⟩ := hkk
  have HKF := hide hkf
  have HKZ := hide hkz
  have HC0 : Hid ((vcs t vy (.slice ak t.ks.length ck) (.slice ai t.is.length ci))[0]? = some (.int .i64 t.k)) := rfl
  have HC11 : Hid ((vcs t vy (.slice ak t.ks.length ck) (.slice ai t.is.length ci))[11]? = some (.slice ak t.ks.length ck)) := rfl
  have HC12 : Hid ((vcs t vy (.slice ak t.ks.length ck) (.slice ai t.is.length ci))[12]? = some (.slice ai t.is.length ci)) := rfl
  have HX2 : Hid (((vcs t vy (.slice ak t.ks.length ck) (.slice ai t.is.length ci)).setIfInBounds 12 (.slice none 0 0)).setIfInBounds 11 (.slice none 0 0) = vcs t vy (.slice none 0 0) (.slice none 0 0)) := rfl
  generalize vcs t vy (.slice ak t.ks.length ck) (.slice ai t.is.length ci) = cs at *
  clear ht hb hy hys hfi hkf hkz
  have i0 := itm_mk ((w.alloc (.cells cs 29)).alloc (.cells zv 29)) cs
  have es : ((w.alloc (.cells cs 29)).alloc (.cells zv 29)).heap.size = w.heap.size + 1 + 1 := by simp
  rw [es] at i0
  have HP0 : Hid (((w.alloc (.cells cs 29)).alloc (.cells zv 29)).heap[w.heap.size]? = some (.cells cs 29 (0, 0))) := blk_alloc _ (heap_alloc_new w _)
  have HR0 : Hid (((w.alloc (.cells cs 29)).alloc (.cells zv 29)).heap[w.heap.size + 1]? = some (.cells zv 29 (0, 0))) := by
    have h := heap_alloc_new (w.alloc (.cells cs 29)) (.cells zv 29)
    have e : (w.alloc (.cells cs 29)).heap.size = w.heap.size + 1 := by simp
    rw [e] at h
    exact h
  have HB0 : Hid (Below w.heap.size w ((w.alloc (.cells cs 29)).alloc (.cells zv 29))) := (below_alloc4 w _).trans ((below_alloc4 _ _).mono (by simp))
  have HG0 : Hid ((((w.alloc (.cells cs 29)).alloc (.cells zv 29)).alloc (.cells zv 29)).heap[w.heap.size + 1 + 1]? = some (.cells zv 29 (0, 0))) := by
    have h := heap_alloc_new ((w.alloc (.cells cs 29)).alloc (.cells zv 29)) (.cells zv 29)
    rw [es] at h
    exact h
  have HV0 : Hid (∀ j u, cs[j]? = some u → ((w.alloc (.cells cs 29)).alloc (.cells zv 29)).cell? ⟨w.heap.size, 0 + j, none⟩ = some u) := fun j u hu => by rw [Nat.zero_add]; exact blk_cell HP0.out hu
  have HIN : Hid ((Tryd.prog.info? 29).map (·.size) = some cs.size) := by show _ = _; rw [HSZ.out]; exact infoV
  have HZV : Hid (zv.size = cs.size) := by show _ = _; rw [HSZ.out]; rfl
  have HI0 := hide i0
  have hz0 : ((w.alloc (.cells cs 29)).alloc (.cells zv 29)).heap.size = w.heap.size + 2 := es
  have HX0 : Hid (Below w.heap.size w ((((w.alloc (.cells cs 29)).alloc (.cells zv 29)).alloc (.cells zv 29)).setRow (w.heap.size + 1 + 1) cs) ∧ ((((w.alloc (.cells cs 29)).alloc (.cells zv 29)).alloc (.cells zv 29)).setRow (w.heap.size + 1 + 1) cs).heap[w.heap.size]? = some (.cells cs 29 (0, 0)) ∧ ((((w.alloc (.cells cs 29)).alloc (.cells zv 29)).alloc (.cells zv 29)).setRow (w.heap.size + 1 + 1) cs).heap[w.heap.size + 1]? = some (.cells zv 29 (0, 0)) ∧ ((((w.alloc (.cells cs 29)).alloc (.cells zv 29)).alloc (.cells zv 29)).setRow (w.heap.size + 1 + 1) cs).heap[w.heap.size + 1 + 1]? = some (.cells cs 29 (0, 0))) := by
    have ib := itm_mk ((w.alloc (.cells cs 29)).alloc (.cells zv 29)) cs
    have hbb := ib.b
    have hrr := ib.r
    rw [es] at hbb hrr
    have hs := HB0.out.size
    refine ⟨HB0.out.trans (hbb.mono (by omega)), (hbb.block _ (by omega)).trans HP0.out, (hbb.block _ (by omega)).trans HR0.out, hrr⟩
  clear i0 HI0 hz0
  go_enter Tryd.func9, Tryd.ntmps9
  go_upto_region 2 with (first
    | (refine wpList_valAt rfl rfl w.heap.size 0 cs rfl HSZ.out HV0.out ?_)
    | (refine wpList_storeRow rfl rfl (w.heap.size + 1 + 1) zv cs 29 rfl rfl HG0.out HIN.out HZV.out HA1.out ?_))
  clear HP0 HR0 HB0 HG0 HV0 HIN HZV HA1 es
  have HZE : Hid (zv = #[.int .i64 0, .bool false, .bool false, .int .u64 0, .int .u64 0, .string ⟨#[]⟩, .slice none 0 0, .int .i64 0, .int .u64 0, .int .u64 0, .string ⟨#[]⟩, .slice none 0 0, .slice none 0 0]) := rfl
  unfold zv at HX0
  generalize (((w.alloc (.cells cs 29)).alloc (.cells #[.int .i64 0, .bool false, .bool false, .int .u64 0, .int .u64 0, .string ⟨#[]⟩, .slice none 0 0, .int .i64 0, .int .u64 0, .int .u64 0, .string ⟨#[]⟩, .slice none 0 0, .slice none 0 0] 29)).alloc (.cells #[.int .i64 0, .bool false, .bool false, .int .u64 0, .int .u64 0, .string ⟨#[]⟩, .slice none 0 0, .int .i64 0, .int .u64 0, .int .u64 0, .string ⟨#[]⟩, .slice none 0 0, .slice none 0 0] 29)).setRow (w.heap.size + 1 + 1) cs = w1 at *
  have HX1 : Hid (w1.heap[w.heap.size + 1 + 1]? = some (.cells cs 29 (0, 0))) := HX0.out.2.2.2
  have c12 := blk_cell (j := 12) HX1.out HC12.out
  have f12 := blk_frozen 12 HX1.out
  have HX3 : Hid ((w1.setCell ⟨w.heap.size + 1 + 1, 12, none⟩ (.slice none 0 0)).heap[w.heap.size + 1 + 1]? = some (.cells (cs.setIfInBounds 12 (.slice none 0 0)) 29 (0, 0))) := blk_set 12 _ HX1.out
  have HCZ : Hid ((cs.setIfInBounds 12 (.slice none 0 0))[11]? = some (.slice ak t.ks.length ck)) := by show _ = _; rw [Array.getElem?_setIfInBounds_ne (by decide)]; exact HC11.out
  have c11 := blk_cell (j := 11) HX3.out HCZ.out
  have f11 := blk_frozen 11 HX3.out
  have HT0 : Hid (Tur w ((w1.setCell ⟨w.heap.size + 1 + 1, 12, none⟩ (.slice none 0 0)).setCell ⟨w.heap.size + 1 + 1, 11, none⟩ (.slice none 0 0)) S cs t vy (.slice none 0 0) (.slice none 0 0) [] [] []) := by
    have hk1 : Kp (fun q => q = w.heap.size + 1 + 1) w1 ((w1.setCell ⟨w.heap.size + 1 + 1, 12, none⟩ (.slice none 0 0)).setCell ⟨w.heap.size + 1 + 1, 11, none⟩ (.slice none 0 0)) := by
      have h1 : Kp (fun q => q = w.heap.size + 1 + 1) w1 (w1.setCell ⟨w.heap.size + 1 + 1, 12, none⟩ (.slice none 0 0)) := (Kp.refl _ _).setCell _ _ (fun _ => rfl)
      exact h1.setCell _ _ (fun _ => rfl)
    have hs := HX0.out.1.size
    refine ⟨HX0.out.1.trans (hk1.below hs (fun q e => by omega)), (hk1.block _ (blk_lt HX0.out.2.1) (by omega)).trans HX0.out.2.1, (hk1.block _ (blk_lt HX0.out.2.2.1) (by omega)).trans HX0.out.2.2.1, ?_, World.ownsRow_nil _ _ _ _, World.ownsRow_nil _ _ _ _, fun q h => by simp [Value.ownBlock] at h, rfl, by simp, by simp⟩
    rw [← HX2.out]
    exact blk_set 11 _ HX3.out
  have q12 := blk_cell (j := 12) HT0.out.p HC12.out
  go_wp2_with fail
  generalize (w1.setCell ⟨w.heap.size + 1 + 1, 12, none⟩ (.slice none 0 0)).setCell ⟨w.heap.size + 1 + 1, 11, none⟩ (.slice none 0 0) = w2 at *
  clear c11 c12 f11 f12 HX0 HX1 HX3 HCZ q12
  obtain ⟨pl, hpl⟩ : ∃ pl : Nat → Nat, pl = fun j => if t.k = 9 then trk n t.is.length j else j := ⟨_, rfl⟩
  have HPL := hide hpl
  clear hpl
  go_loopw [7] (fun ii wx => ∃ (i : Nat) (vK vI : Value) (kk : List ByteArray) (ms : List Tv) (L : List (Array Value)), i ≤ t.is.length ∧ ii = .int .i64 (i : Nat) ∧ Hid (Tur w wx S cs t vy vK vI kk ms L) ∧ Hid (ms.length = i ∧ kk = if t.k = 9 then pickS t.ks ((List.range i).map pl) else []) ∧ Hid (∀ (j : Nat) (u v : Tv), j < i → t.is[pl j]? = some u → ms[j]? = some v → Trn u v)) (fun ii _ => t.is.length - (intOf ii).toNat)
  case atStart => exact ⟨0, _, _, [], [], [], by omega, rfl, HT0, ⟨rfl, by simp [pickS]⟩, fun j u v hj => absurd hj (by omega)⟩
  case round =>
    clear HT0
    obtain ⟨i, vK, vI, kk, ms, L, hi, rfl, HT, HN, HI⟩ := hrel
    have q0 := blk_cell (j := 0) HT.out.p HC0.out
    by_cases hlt : i < t.is.length
    · have g1 : (i : Int) < (t.is.length : Int) := by omega
      by_cases h9 : t.k = 9
      · have g9 : (t.k == 9) = true := beq_iff_eq.2 h9
        obtain ⟨q, hq⟩ : ∃ q, q = pl i := ⟨_, rfl⟩
        have hqv : q = trk n t.is.length i := by rw [hq, HPL.out]; simp only [if_pos h9]
        have hql : q < t.is.length := by rw [hqv]; exact trk_lt _ _ _ hlt
        have HQP := hide hq
        have hks := (HTK.out.m h9).1
        obtain ⟨s, hs⟩ : ∃ s, t.ks[q]? = some s := ⟨t.ks[q], List.getElem?_eq_getElem (by omega)⟩
        obtain ⟨b2, o2, rfl, hkc⟩ := HKF.out.resolve_left (fun h => by rw [h] at hks; simp at hks; omega)
        have HCS := hide (hkc q s hs)
        have HKS : Hid (kk ++ [s] = pickS t.ks ((List.range (i + 1)).map pl)) := by
          have h1 := HN.out.2
          rw [if_pos h9] at h1
          show _ = _
          rw [h1, List.range_succ, List.map_append]
          simp [pickS, ← HQP.out, List.getD, hs]
        have hwr : IntKind.i64.wrap ((i : Int) + (n : Int)) = (i : Int) + (n : Int) := by rw [IntKind.wrap_i64]; omega
        have htm : ((i : Int) + (n : Int)).tmod (t.is.length : Int) = (((i + n) % t.is.length : Nat) : Int) := rfl
        have hne : ¬ t.is.length = 0 := by omega
        have htd : (n : Int).tmod 2 = ((n % 2 : Nat) : Int) := rfl
        have gq : (q : Int) < (t.ks.length : Int) := by omega
        have gq2 : (q : Int) < (t.is.length : Int) := by omega
        have hml : (i + n) % t.is.length < t.is.length := Nat.mod_lt _ (by omega)
        have HKL : Hid (kk.length ≤ 100000) := by
          have h1 := HN.out.2
          rw [if_pos h9] at h1
          have := HML.out
          show _ ≤ _
          rw [h1, pickS_len]
          simp
          omega
        clear hkc hs
        obtain ⟨u, hu⟩ : ∃ u, t.is[q]? = some u := ⟨t.is[q], List.getElem?_eq_getElem hql⟩
        obtain ⟨b, off, rfl, hcells⟩ := HFI.out.resolve_left (fun h => by rw [h] at hql; simp at hql)
        obtain ⟨cu, tu, hcu⟩ := hcells q u hu
        have HZU := hide tu.tin.size13
        have HCU := hide hcu
        have HTU := hide tu
        have HUM : Hid (u ∈ t.is) := List.mem_of_getElem? hu
        have HU := hide hu
        have HI2 : Hid (∀ t' : Tv, Trn u t' → ∀ (j : Nat) (x v : Tv), j < i + 1 → t.is[pl j]? = some x → (ms ++ [t'])[j]? = some v → Trn x v) := fun t' htr j x v hj hx hv => by
          have hml := HN.out.1
          by_cases hji : j = i
          · subst hji
            rw [← HQP.out, HU.out] at hx
            injection hx with hx
            rw [List.getElem?_append_right (by omega), hml, Nat.sub_self] at hv
            simp at hv
            rw [← hx, ← hv]
            exact htr
          · rw [List.getElem?_append_left (by omega)] at hv
            exact HI.out j x v (by omega) hx hv
        clear hcells tu hcu hu
        by_cases ho : n % 2 = 1
        · as_aux_lemma =>
          have eq1 : (((n % 2 : Nat) : Int) == 1) = true := by rw [ho]; rfl
          have hqq : q = t.is.length - 1 - (i + n) % t.is.length := by rw [hqv]; unfold trk; rw [if_pos ho]
          generalize n % 2 = par at *
          generalize (i + n) % t.is.length = k0 at *
          have w1' : IntKind.i64.wrap ((t.is.length : Int) - 1) = (t.is.length : Int) - 1 := by rw [IntKind.wrap_i64]; omega
          have w2' : IntKind.i64.wrap ((t.is.length : Int) - 1 - (k0 : Int)) = (q : Int) := by rw [IntKind.wrap_i64]; omega
          have w3' : ((t.is.length : Int) - 1 - (k0 : Int)) = (q : Int) := by omega
          clear hqq hqv hq ho
          go_wp2_with fail
          go_cut [] from 36 to 45 (fun wx => ∃ v5, Hid (Tur w wx S cs t vy v5 vI (kk ++ [s]) ms L))
          case first => as_aux_lemma =>
            refine heldStart (S := S13 w cs) (by kernel_rfl) ?_
            have HTD : Hid (Tur w wr.drew S cs t vy vK vI kk ms L) := HT.out.next (by refine Below.drew ?_; exact Below.refl _ _)
            have hS : S13 w cs wr.drew := ⟨HTD.out.b, HTD.out.p⟩
            refine heldTake 0 _ rfl (by kernel_rfl) (by kernel_rfl) (by kernel_rfl) (fun _ _ _ h => h) rfl hS (fun wy hy => by first | (go_simp; done) | (go_simp; rfl) | rfl) ?_
            (try simp only [Act.put]); (try simp only [List.setIfInBounds_toArray, List.set_cons_zero, List.set_cons_succ])
            refine heldTake 2 _ rfl (by kernel_rfl) (by kernel_rfl) (by kernel_rfl) (fun _ _ _ h => h) rfl hS (fun wy hy => by first | (go_simp; done) | (go_simp; rfl) | rfl) ?_
            (try simp only [Act.put]); (try simp only [List.setIfInBounds_toArray, List.set_cons_zero, List.set_cons_succ])
            refine heldTake 4 _ rfl (by kernel_rfl) (by kernel_rfl) (by kernel_rfl) (fun _ _ _ h => h) rfl hS (fun wy hy => by first | (go_simp; done) | (go_simp; rfl) | rfl) ?_
            (try simp only [Act.put]); (try simp only [List.setIfInBounds_toArray, List.set_cons_zero, List.set_cons_succ])
            refine heldTake 3 _ rfl (by kernel_rfl) (by kernel_rfl) (by kernel_rfl) (fun _ _ _ h => h) rfl hS (fun wy hy => by have h0 := blk_cell (j := 11) hy.2 HC11.out; first | (go_simp; done) | (go_simp; rfl) | rfl) ?_
            (try simp only [Act.put]); (try simp only [List.setIfInBounds_toArray, List.set_cons_zero, List.set_cons_succ])
            refine heldTake 5 _ rfl (by kernel_rfl) (by kernel_rfl) (by kernel_rfl) (fun _ _ _ h => h) rfl hS (fun wy hy => by first | (go_simp; done) | (go_simp; rfl) | rfl) ?_
            (try simp only [Act.put]); (try simp only [List.setIfInBounds_toArray, List.set_cons_zero, List.set_cons_succ])
            refine heldTake 6 _ rfl (by kernel_rfl) (by kernel_rfl) (by kernel_rfl) (fun _ _ _ h => h) rfl hS (fun wy hy => by have h0 := keep_below hy.1 _ _ HCS.out; first | (go_simp; done) | (go_simp; rfl) | rfl) ?_
            (try simp only [Act.put]); (try simp only [List.setIfInBounds_toArray, List.set_cons_zero, List.set_cons_succ])
            refine wpAnyH_ready (rs := [1, 7]) (by kernel_rfl) (by simp) ?_
            refine AllReadyH.cons rfl (fun K hK => ?_) (AllReadyH.cons rfl (fun K hK => ?_) AllReadyH.nil)
            · as_aux_lemma =>
              have x11 : wr.cell? ⟨w.heap.size + 1 + 1, 11, none⟩ = some vK := blk_cell (j := 11) HTD.out.x rfl
              go_simp
              refine (Shut.out hK) _ _ hS (fun hS2 => ?_)
              clear hK K hS2
              (try simp only [Act.put]); (try simp only [List.setIfInBounds_toArray, List.set_cons_zero, List.set_cons_succ])
              refine heldStep 7 rfl (by kernel_rfl) (fun K hK => ?_)
              go_simp
              have HGB : Hid ((wr.alloc (.cells #[.string s] 9)).drew.heap[wr.heap.size]? = some (.cells #[.string s] 9 (0, 0))) := heap_alloc_new wr (.cells #[.string s] 9)
              have HTZ : Hid (Tur w (wr.alloc (.cells #[.string s] 9)).drew S cs t vy vK vI kk ms L) := (HT.out.next (below_alloc4 wr (.cells #[.string s] 9))).next (by refine Below.drew ?_; exact Below.refl _ _)
              refine (Hid.out hK) _ _ ⟨HTZ.out.b, HTZ.out.p⟩ (fun hS2 => ?_)
              clear hK K x11 HTD hS2
              (try simp only [Act.put]); (try simp only [List.setIfInBounds_toArray, List.set_cons_zero, List.set_cons_succ])
              refine heldStep 8 rfl (by kernel_rfl) (fun K hK => ?_)
              refine step_append_str rfl _ _ rfl (w.heap.size + 3) vK kk.length kk rfl HTZ.out.k _ s rfl HGB.out (by have := HKL.out; omega) (by have := blk_lt HTZ.out.x; omega) (fun v5 w5 ho5 hg5 hq5 => ?_)
              obtain ⟨a5, c5, hv5⟩ := own_slice ho5
              subst hv5
              have HT5 : Hid (Tur w (w5.setCell ⟨w.heap.size + 1 + 1, 11, none⟩ (.slice a5 (kk.length + 1) c5)) S cs t vy (.slice a5 (kk.length + 1) c5) vI (kk ++ [s]) ms L) := HTZ.out.addk (by rw [List.length_append]; exact ho5) hg5 hq5
              have hne5 : ¬ vK.ownBlock = some (w.heap.size + 2) := fun e => by have := HTZ.out.k.lt _ e; omega
              have hx5 : w5.heap[w.heap.size + 2]? = some (.cells (vcs t vy vK vI) 29 (0, 0)) := (((Kp.refl (fun q => vK.ownBlock = some q) _).grown hg5 (fun k _ e => e)).block _ (blk_lt HTZ.out.x) hne5).trans HTZ.out.x
              have c11 : w5.cell? ⟨w.heap.size + 1 + 1, 11, none⟩ = some vK := blk_cell (j := 11) hx5 rfl
              have f11 : w5.frozen? ⟨w.heap.size + 1 + 1, 11, none⟩ = false := blk_frozen 11 hx5
              have hS5 : S13 w cs w5 := by
                have hk5 : Kp (fun q => vK.ownBlock = some q) _ w5 := (Kp.refl _ _).grown hg5 (fun k _ e => e)
                exact ⟨HTZ.out.b.trans (hk5.below HTZ.out.b.size (fun q e => by have := HTZ.out.k.lt q e; omega)), (hk5.block _ (blk_lt HTZ.out.p) (fun e => by have := HTZ.out.k.lt _ e; omega)).trans HTZ.out.p⟩
              refine (Hid.out hK) _ _ hS5 (fun hS6 => ?_)
              clear hK K hg5 hq5 ho5 hx5 hS5 hne5
              (try simp only [Act.put]); (try simp only [List.setIfInBounds_toArray, List.set_cons_zero, List.set_cons_succ])
              refine heldTake 9 _ rfl (by kernel_rfl) (by kernel_rfl) (by kernel_rfl) (fun _ _ _ h => h) rfl hS6 (fun wy hy => by first | (go_simp; done) | (go_simp; rfl) | rfl) ?_
              (try simp only [Act.put]); (try simp only [List.setIfInBounds_toArray, List.set_cons_zero, List.set_cons_succ])
              refine heldStep 10 rfl (by kernel_rfl) (fun K hK => ?_)
              go_simp
              refine (Hid.out hK) _ _ ⟨HT5.out.b, HT5.out.p⟩ (fun hS7 => ?_)
              clear hK K
              (try simp only [Act.put]); (try simp only [List.setIfInBounds_toArray, List.set_cons_zero, List.set_cons_succ])
              refine heldDone (by kernel_rfl) ?_
              clear hS hS6 hS7 c11 f11
              go_wp2_with fail
              go_meet
              case rel => exact ⟨_, HT5⟩
            · as_aux_lemma =>
              go_simp
              have HGB : Hid ((wr.alloc (.cells #[.string s] 9)).drew.heap[wr.heap.size]? = some (.cells #[.string s] 9 (0, 0))) := heap_alloc_new wr (.cells #[.string s] 9)
              have HTZ : Hid (Tur w (wr.alloc (.cells #[.string s] 9)).drew S cs t vy vK vI kk ms L) := (HT.out.next (below_alloc4 wr (.cells #[.string s] 9))).next (by refine Below.drew ?_; exact Below.refl _ _)
              have x11 : (wr.alloc (.cells #[.string s] 9)).cell? ⟨w.heap.size + 1 + 1, 11, none⟩ = some vK := blk_cell (j := 11) HTZ.out.x rfl
              refine (Shut.out hK) _ _ ⟨HTZ.out.b, HTZ.out.p⟩ (fun hS2 => ?_)
              clear hK K hS HTD
              have hS := hS2
              clear hS2
              (try simp only [Act.put]); (try simp only [List.setIfInBounds_toArray, List.set_cons_zero, List.set_cons_succ])
              refine heldStep 1 rfl (by kernel_rfl) (fun K hK => ?_)
              go_simp
              refine (Hid.out hK) _ _ hS (fun hS2 => ?_)
              clear hK K x11 hS2
              (try simp only [Act.put]); (try simp only [List.setIfInBounds_toArray, List.set_cons_zero, List.set_cons_succ])
              refine heldStep 8 rfl (by kernel_rfl) (fun K hK => ?_)
              refine step_append_str rfl _ _ rfl (w.heap.size + 3) vK kk.length kk rfl HTZ.out.k _ s rfl HGB.out (by have := HKL.out; omega) (by have := blk_lt HTZ.out.x; omega) (fun v5 w5 ho5 hg5 hq5 => ?_)
              obtain ⟨a5, c5, hv5⟩ := own_slice ho5
              subst hv5
              have HT5 : Hid (Tur w (w5.setCell ⟨w.heap.size + 1 + 1, 11, none⟩ (.slice a5 (kk.length + 1) c5)) S cs t vy (.slice a5 (kk.length + 1) c5) vI (kk ++ [s]) ms L) := HTZ.out.addk (by rw [List.length_append]; exact ho5) hg5 hq5
              have hne5 : ¬ vK.ownBlock = some (w.heap.size + 2) := fun e => by have := HTZ.out.k.lt _ e; omega
              have hx5 : w5.heap[w.heap.size + 2]? = some (.cells (vcs t vy vK vI) 29 (0, 0)) := (((Kp.refl (fun q => vK.ownBlock = some q) _).grown hg5 (fun k _ e => e)).block _ (blk_lt HTZ.out.x) hne5).trans HTZ.out.x
              have c11 : w5.cell? ⟨w.heap.size + 1 + 1, 11, none⟩ = some vK := blk_cell (j := 11) hx5 rfl
              have f11 : w5.frozen? ⟨w.heap.size + 1 + 1, 11, none⟩ = false := blk_frozen 11 hx5
              have hS5 : S13 w cs w5 := by
                have hk5 : Kp (fun q => vK.ownBlock = some q) _ w5 := (Kp.refl _ _).grown hg5 (fun k _ e => e)
                exact ⟨HTZ.out.b.trans (hk5.below HTZ.out.b.size (fun q e => by have := HTZ.out.k.lt q e; omega)), (hk5.block _ (blk_lt HTZ.out.p) (fun e => by have := HTZ.out.k.lt _ e; omega)).trans HTZ.out.p⟩
              refine (Hid.out hK) _ _ hS5 (fun hS6 => ?_)
              clear hK K hg5 hq5 ho5 hx5 hS5 hne5
              (try simp only [Act.put]); (try simp only [List.setIfInBounds_toArray, List.set_cons_zero, List.set_cons_succ])
              refine heldTake 9 _ rfl (by kernel_rfl) (by kernel_rfl) (by kernel_rfl) (fun _ _ _ h => h) rfl hS6 (fun wy hy => by first | (go_simp; done) | (go_simp; rfl) | rfl) ?_
              (try simp only [Act.put]); (try simp only [List.setIfInBounds_toArray, List.set_cons_zero, List.set_cons_succ])
              refine heldStep 10 rfl (by kernel_rfl) (fun K hK => ?_)
              go_simp
              refine (Hid.out hK) _ _ ⟨HT5.out.b, HT5.out.p⟩ (fun hS7 => ?_)
              clear hK K
              (try simp only [Act.put]); (try simp only [List.setIfInBounds_toArray, List.set_cons_zero, List.set_cons_succ])
              refine heldDone (by kernel_rfl) ?_
              clear hS hS6 hS7 c11 f11
              go_wp2_with fail
              go_meet
              case rel => exact ⟨_, HT5⟩
          case rest =>
            obtain ⟨v5, HTW⟩ := hcut
            obtain ⟨w3, hw3⟩ : ∃ x, x = wc := ⟨_, rfl⟩
            subst hw3
            have HK2 : Hid (kk ++ [s] = if t.k = 9 then pickS t.ks ((List.range (i + 1)).map pl) else []) := by show _ = _; rw [if_pos h9]; exact HKS.out
            clear HT
            have HCL : Hid (∀ wz, Tur w wz S cs t vy v5 vI (kk ++ [s]) ms L → Calls Tryd.prog 9 #[.agg cu, .int .i64 (n : Nat)] wz fun e w' => ∃ c t', e = .returned (.agg c) ∧ Tis w' (fun q => S q ∨ (w.heap.size ≤ q ∧ q ≤ w.heap.size + 2) ∨ v5.ownBlock = some q ∨ vI.ownBlock = some q) t' c ∧ Trn u t' ∧ Below wz.heap.size wz w') := fun wz hz => by
              have h1 := hz.b.size
              refine HIH.out u HUM.out wz _ cu ((HTU.out.widen.kp (Kp.of_below hz.b)).mono (fun q e => ?_)) (fun q e => ?_) (HTK.out.i u HUM.out) (Nat.le_trans (tmuchL_mem HUM.out) HML.out.1)
              · rcases e with e | e | e | e
                · exact .inl e
                · exact .inr (by omega)
                · exact .inr (by have := hz.k.lt q e; omega)
                · exact .inr (by have := hz.o.lt q e; omega)
              · rcases e with e | e | e | e
                · have := HSS.out q e
                  omega
                · have := blk_lt hz.x
                  omega
                · exact (hz.k.lt q e).2
                · exact (hz.o.lt q e).2
            go_wp2_with fail
            refine heldStart (S := S13 w cs) (by kernel_rfl) ?_
            have HTD : Hid (Tur w w3.drew S cs t vy v5 vI (kk ++ [s]) ms L) := HTW.out.next (by refine Below.drew ?_; exact Below.refl _ _)
            have hS : S13 w cs w3.drew := ⟨HTD.out.b, HTD.out.p⟩
            refine heldTake 0 _ rfl (by kernel_rfl) (by kernel_rfl) (by kernel_rfl) (fun _ _ _ h => h) rfl hS (fun wy hy => by first | (go_simp; done) | (go_simp; rfl) | rfl) ?_
            (try simp only [Act.put]); (try simp only [List.setIfInBounds_toArray, List.set_cons_zero, List.set_cons_succ])
            refine heldTake 2 _ rfl (by kernel_rfl) (by kernel_rfl) (by kernel_rfl) (fun _ _ _ h => h) rfl hS (fun wy hy => by first | (go_simp; done) | (go_simp; rfl) | rfl) ?_
            (try simp only [Act.put]); (try simp only [List.setIfInBounds_toArray, List.set_cons_zero, List.set_cons_succ])
            refine heldTake 4 _ rfl (by kernel_rfl) (by kernel_rfl) (by kernel_rfl) (fun _ _ _ h => h) rfl hS (fun wy hy => by first | (go_simp; done) | (go_simp; rfl) | rfl) ?_
            (try simp only [Act.put]); (try simp only [List.setIfInBounds_toArray, List.set_cons_zero, List.set_cons_succ])
            refine heldTake 7 _ rfl (by kernel_rfl) (by kernel_rfl) (by kernel_rfl) (fun _ _ _ h => h) rfl hS (fun wy hy => by first | (go_simp; done) | (go_simp; rfl) | rfl) ?_
            (try simp only [Act.put]); (try simp only [List.setIfInBounds_toArray, List.set_cons_zero, List.set_cons_succ])
            refine heldTake 3 _ rfl (by kernel_rfl) (by kernel_rfl) (by kernel_rfl) (fun _ _ _ h => h) rfl hS (fun wy hy => by have h0 := blk_cell (j := 12) hy.2 HC12.out; first | (go_simp; done) | (go_simp; rfl) | rfl) ?_
            (try simp only [Act.put]); (try simp only [List.setIfInBounds_toArray, List.set_cons_zero, List.set_cons_succ])
            refine heldTake 5 _ rfl (by kernel_rfl) (by kernel_rfl) (by kernel_rfl) (fun _ _ _ h => h) rfl hS (fun wy hy => by first | (go_simp; done) | (go_simp; rfl) | rfl) ?_
            (try simp only [Act.put]); (try simp only [List.setIfInBounds_toArray, List.set_cons_zero, List.set_cons_succ])
            refine heldTake 6 _ rfl (by kernel_rfl) (by kernel_rfl) (by kernel_rfl) (fun _ _ _ h => h) rfl hS (fun wy hy => exec_valAt (g := b) (off := off + q * 13) (cs := cu) rfl rfl HZU.out (fun j x hx => keep_below hy.1 _ _ (HCU.out j x hx))) ?_
            (try simp only [Act.put]); (try simp only [List.setIfInBounds_toArray, List.set_cons_zero, List.set_cons_succ])
            refine wpAnyH_ready (rs := [1, 8]) (by kernel_rfl) (by simp) ?_
            refine AllReadyH.cons rfl (fun K hK => ?_) (AllReadyH.cons rfl (fun K hK => ?_) AllReadyH.nil)
            · as_aux_lemma =>
              have x12 : w3.cell? ⟨w.heap.size + 1 + 1, 12, none⟩ = some vI := blk_cell (j := 12) HTW.out.x rfl
              go_simp
              refine (Shut.out hK) _ _ hS (fun hS2 => ?_)
              clear hK K hS2
              (try simp only [Act.put]); (try simp only [List.setIfInBounds_toArray, List.set_cons_zero, List.set_cons_succ])
              refine heldStep 8 rfl (by kernel_rfl) (fun K hK => ?_)
              go_simp
              refine (HCL.out _ HTD.out).mono ?_
              rintro e w5 ⟨c, t', rfl, hc5, htr, hb5⟩
              have HTR := hide htr
              have HT5 := hide (HTD.out.next hb5)
              have HC13 := hide hc5.tin.size13
              have HON : Hid (one13 c) := ⟨HC13.out, fun x hx => by have h := hc5.tin.all1; rw [Array.all_eq_true_iff_forall_mem] at h; exact h x (by simpa using hx)⟩
              have HTZ := hide (HT5.out.next (below_alloc4 w5 (.cells c 29)))
              have HGB := hide (heap_alloc_new w5 (.cells c 29))
              have HCZ := hide (hc5.kp (Kp.of_below (below_alloc4 w5 (.cells c 29))))
              clear htr hc5 hb5
              refine (Hid.out hK) _ _ ⟨HT5.out.b, HT5.out.p⟩ (fun hS3 => ?_)
              clear hK K x12 hS3 hS
              (try simp only [Act.put]); (try simp only [List.setIfInBounds_toArray, List.set_cons_zero, List.set_cons_succ])
              refine heldStep 9 rfl (by kernel_rfl) (fun K hK => ?_)
              refine step_val1 rfl rfl c HC13.out rfl ?_
              refine (Hid.out hK) _ _ ⟨HTZ.out.b, HTZ.out.p⟩ (fun hS4 => ?_)
              clear hK K hS4
              (try simp only [Act.put]); (try simp only [List.setIfInBounds_toArray, List.set_cons_zero, List.set_cons_succ])
              refine heldStep 10 rfl (by kernel_rfl) (fun K hK => ?_)
              refine step_append_val rfl _ _ rfl (w.heap.size + 3) vI L.length (vfl L) rfl HTZ.out.o _ c HON.out rfl HGB.out (by have h1 := HTZ.out.n; have h2 := HN.out.1; have h3 := HML.out; omega) (by have := blk_lt HTZ.out.x; omega) (fun v6 w6 ho6 hg6 hq6 => ?_)
              obtain ⟨a6, c6, hv6⟩ := own_slice ho6
              subst hv6
              have HT6 : Hid (Tur w (w6.setCell ⟨w.heap.size + 1 + 1, 12, none⟩ (.slice a6 (L.length + 1) c6)) S cs t vy v5 (.slice a6 (L.length + 1) c6) (kk ++ [s]) (ms ++ [t']) (L ++ [c])) := HTZ.out.addi HON.out HCZ.out ho6 hg6 hq6
              have hne6 : ¬ vI.ownBlock = some (w.heap.size + 2) := fun e => by have := HTZ.out.o.lt _ e; omega
              have hk6 : Kp (fun q => vI.ownBlock = some q) _ w6 := (Kp.refl _ _).grown hg6 (fun k _ e => e)
              have hx6 : w6.heap[w.heap.size + 2]? = some (.cells (vcs t vy v5 vI) 29 (0, 0)) := (hk6.block _ (blk_lt HTZ.out.x) hne6).trans HTZ.out.x
              have c12 : w6.cell? ⟨w.heap.size + 1 + 1, 12, none⟩ = some vI := blk_cell (j := 12) hx6 rfl
              have f12 : w6.frozen? ⟨w.heap.size + 1 + 1, 12, none⟩ = false := blk_frozen 12 hx6
              have hS6 : S13 w cs w6 := ⟨HTZ.out.b.trans (hk6.below HTZ.out.b.size (fun q e => by have := HTZ.out.o.lt q e; omega)), (hk6.block _ (blk_lt HTZ.out.p) (fun e => by have := HTZ.out.o.lt _ e; omega)).trans HTZ.out.p⟩
              refine (Hid.out hK) _ _ hS6 (fun hS7 => ?_)
              clear hK K hg6 hq6 ho6 hx6 hS6 hne6 hk6
              (try simp only [Act.put]); (try simp only [List.setIfInBounds_toArray, List.set_cons_zero, List.set_cons_succ])
              refine heldTake 11 _ rfl (by kernel_rfl) (by kernel_rfl) (by kernel_rfl) (fun _ _ _ h => h) rfl hS7 (fun wy hy => by first | (go_simp; done) | (go_simp; rfl) | rfl) ?_
              (try simp only [Act.put]); (try simp only [List.setIfInBounds_toArray, List.set_cons_zero, List.set_cons_succ])
              refine heldStep 12 rfl (by kernel_rfl) (fun K hK => ?_)
              go_simp
              refine (Hid.out hK) _ _ ⟨HT6.out.b, HT6.out.p⟩ (fun hS8 => ?_)
              clear hK K
              (try simp only [Act.put]); (try simp only [List.setIfInBounds_toArray, List.set_cons_zero, List.set_cons_succ])
              refine heldDone (by kernel_rfl) ?_
              clear hS7 hS8 c12 f12
              go_wp2_with fail
              go_roundw
              case rel => exact ⟨i + 1, _, _, _, _, _, by omega, by go_num, HT6, ⟨by have := HN.out.1; simp; omega, HK2.out⟩, HI2.out t' HTR.out⟩
              case measure => simp [intOf]; omega
            · as_aux_lemma =>
              go_simp
              refine (HCL.out _ HTD.out).mono ?_
              rintro e w5 ⟨c, t', rfl, hc5, htr, hb5⟩
              have HTR := hide htr
              have HT5 := hide (HTD.out.next hb5)
              have HC13 := hide hc5.tin.size13
              have HON : Hid (one13 c) := ⟨HC13.out, fun x hx => by have h := hc5.tin.all1; rw [Array.all_eq_true_iff_forall_mem] at h; exact h x (by simpa using hx)⟩
              have HTZ := hide (HT5.out.next (below_alloc4 w5 (.cells c 29)))
              have HGB := hide (heap_alloc_new w5 (.cells c 29))
              have HCZ := hide (hc5.kp (Kp.of_below (below_alloc4 w5 (.cells c 29))))
              clear htr hc5 hb5
              have x12 : w5.cell? ⟨w.heap.size + 1 + 1, 12, none⟩ = some vI := blk_cell (j := 12) HT5.out.x rfl
              have x13 : (w5.alloc (.cells c 29)).cell? ⟨w.heap.size + 1 + 1, 12, none⟩ = some vI := blk_cell (j := 12) HTZ.out.x rfl
              refine (Shut.out hK) _ _ ⟨HT5.out.b, HT5.out.p⟩ (fun hS3 => ?_)
              clear hK K hS
              (try simp only [Act.put]); (try simp only [List.setIfInBounds_toArray, List.set_cons_zero, List.set_cons_succ])
              refine wpAnyH_ready (rs := [1, 9]) (by kernel_rfl) (by simp) ?_
              refine AllReadyH.cons rfl (fun K hK => ?_) (AllReadyH.cons rfl (fun K hK => ?_) AllReadyH.nil)
              · as_aux_lemma =>
                go_simp
                refine (Shut.out hK) _ _ hS3 (fun hS2 => ?_)
                clear hK K hS2 x12 x13
                (try simp only [Act.put]); (try simp only [List.setIfInBounds_toArray, List.set_cons_zero, List.set_cons_succ])
                refine heldStep 9 rfl (by kernel_rfl) (fun K hK => ?_)
                refine step_val1 rfl rfl c HC13.out rfl ?_
                refine (Hid.out hK) _ _ ⟨HTZ.out.b, HTZ.out.p⟩ (fun hS4 => ?_)
                clear hK K hS4
                (try simp only [Act.put]); (try simp only [List.setIfInBounds_toArray, List.set_cons_zero, List.set_cons_succ])
                refine heldStep 10 rfl (by kernel_rfl) (fun K hK => ?_)
                refine step_append_val rfl _ _ rfl (w.heap.size + 3) vI L.length (vfl L) rfl HTZ.out.o _ c HON.out rfl HGB.out (by have h1 := HTZ.out.n; have h2 := HN.out.1; have h3 := HML.out; omega) (by have := blk_lt HTZ.out.x; omega) (fun v6 w6 ho6 hg6 hq6 => ?_)
                obtain ⟨a6, c6, hv6⟩ := own_slice ho6
                subst hv6
                have HT6 : Hid (Tur w (w6.setCell ⟨w.heap.size + 1 + 1, 12, none⟩ (.slice a6 (L.length + 1) c6)) S cs t vy v5 (.slice a6 (L.length + 1) c6) (kk ++ [s]) (ms ++ [t']) (L ++ [c])) := HTZ.out.addi HON.out HCZ.out ho6 hg6 hq6
                have hne6 : ¬ vI.ownBlock = some (w.heap.size + 2) := fun e => by have := HTZ.out.o.lt _ e; omega
                have hk6 : Kp (fun q => vI.ownBlock = some q) _ w6 := (Kp.refl _ _).grown hg6 (fun k _ e => e)
                have hx6 : w6.heap[w.heap.size + 2]? = some (.cells (vcs t vy v5 vI) 29 (0, 0)) := (hk6.block _ (blk_lt HTZ.out.x) hne6).trans HTZ.out.x
                have c12 : w6.cell? ⟨w.heap.size + 1 + 1, 12, none⟩ = some vI := blk_cell (j := 12) hx6 rfl
                have f12 : w6.frozen? ⟨w.heap.size + 1 + 1, 12, none⟩ = false := blk_frozen 12 hx6
                have hS6 : S13 w cs w6 := ⟨HTZ.out.b.trans (hk6.below HTZ.out.b.size (fun q e => by have := HTZ.out.o.lt q e; omega)), (hk6.block _ (blk_lt HTZ.out.p) (fun e => by have := HTZ.out.o.lt _ e; omega)).trans HTZ.out.p⟩
                refine (Hid.out hK) _ _ hS6 (fun hS7 => ?_)
                clear hK K hg6 hq6 ho6 hx6 hS6 hne6 hk6
                (try simp only [Act.put]); (try simp only [List.setIfInBounds_toArray, List.set_cons_zero, List.set_cons_succ])
                refine heldTake 11 _ rfl (by kernel_rfl) (by kernel_rfl) (by kernel_rfl) (fun _ _ _ h => h) rfl hS7 (fun wy hy => by first | (go_simp; done) | (go_simp; rfl) | rfl) ?_
                (try simp only [Act.put]); (try simp only [List.setIfInBounds_toArray, List.set_cons_zero, List.set_cons_succ])
                refine heldStep 12 rfl (by kernel_rfl) (fun K hK => ?_)
                go_simp
                refine (Hid.out hK) _ _ ⟨HT6.out.b, HT6.out.p⟩ (fun hS8 => ?_)
                clear hK K
                (try simp only [Act.put]); (try simp only [List.setIfInBounds_toArray, List.set_cons_zero, List.set_cons_succ])
                refine heldDone (by kernel_rfl) ?_
                clear hS7 hS8 c12 f12
                go_wp2_with fail
                go_roundw
                case rel => exact ⟨i + 1, _, _, _, _, _, by omega, by go_num, HT6, ⟨by have := HN.out.1; simp; omega, HK2.out⟩, HI2.out t' HTR.out⟩
                case measure => simp [intOf]; omega
              · as_aux_lemma =>
                refine step_val1 rfl rfl c HC13.out rfl ?_
                refine (Shut.out hK) _ _ ⟨HTZ.out.b, HTZ.out.p⟩ (fun hS4 => ?_)
                clear hK K hS3
                (try simp only [Act.put]); (try simp only [List.setIfInBounds_toArray])
                refine heldStep 1 rfl (by kernel_rfl) (fun K hK => ?_)
                go_simp
                refine (Hid.out hK) _ _ hS4 (fun hS2 => ?_)
                clear hK K hS2 x12 x13 hS4
                (try simp only [Act.put]); (try simp only [List.setIfInBounds_toArray, List.set_cons_zero, List.set_cons_succ])
                refine heldStep 10 rfl (by kernel_rfl) (fun K hK => ?_)
                refine step_append_val rfl _ _ rfl (w.heap.size + 3) vI L.length (vfl L) rfl HTZ.out.o _ c HON.out rfl HGB.out (by have h1 := HTZ.out.n; have h2 := HN.out.1; have h3 := HML.out; omega) (by have := blk_lt HTZ.out.x; omega) (fun v6 w6 ho6 hg6 hq6 => ?_)
                obtain ⟨a6, c6, hv6⟩ := own_slice ho6
                subst hv6
                have HT6 : Hid (Tur w (w6.setCell ⟨w.heap.size + 1 + 1, 12, none⟩ (.slice a6 (L.length + 1) c6)) S cs t vy v5 (.slice a6 (L.length + 1) c6) (kk ++ [s]) (ms ++ [t']) (L ++ [c])) := HTZ.out.addi HON.out HCZ.out ho6 hg6 hq6
                have hne6 : ¬ vI.ownBlock = some (w.heap.size + 2) := fun e => by have := HTZ.out.o.lt _ e; omega
                have hk6 : Kp (fun q => vI.ownBlock = some q) _ w6 := (Kp.refl _ _).grown hg6 (fun k _ e => e)
                have hx6 : w6.heap[w.heap.size + 2]? = some (.cells (vcs t vy v5 vI) 29 (0, 0)) := (hk6.block _ (blk_lt HTZ.out.x) hne6).trans HTZ.out.x
                have c12 : w6.cell? ⟨w.heap.size + 1 + 1, 12, none⟩ = some vI := blk_cell (j := 12) hx6 rfl
                have f12 : w6.frozen? ⟨w.heap.size + 1 + 1, 12, none⟩ = false := blk_frozen 12 hx6
                have hS6 : S13 w cs w6 := ⟨HTZ.out.b.trans (hk6.below HTZ.out.b.size (fun q e => by have := HTZ.out.o.lt q e; omega)), (hk6.block _ (blk_lt HTZ.out.p) (fun e => by have := HTZ.out.o.lt _ e; omega)).trans HTZ.out.p⟩
                refine (Hid.out hK) _ _ hS6 (fun hS7 => ?_)
                clear hK K hg6 hq6 ho6 hx6 hS6 hne6 hk6
                (try simp only [Act.put]); (try simp only [List.setIfInBounds_toArray, List.set_cons_zero, List.set_cons_succ])
                refine heldTake 11 _ rfl (by kernel_rfl) (by kernel_rfl) (by kernel_rfl) (fun _ _ _ h => h) rfl hS7 (fun wy hy => by first | (go_simp; done) | (go_simp; rfl) | rfl) ?_
                (try simp only [Act.put]); (try simp only [List.setIfInBounds_toArray, List.set_cons_zero, List.set_cons_succ])
                refine heldStep 12 rfl (by kernel_rfl) (fun K hK => ?_)
                go_simp
                refine (Hid.out hK) _ _ ⟨HT6.out.b, HT6.out.p⟩ (fun hS8 => ?_)
                clear hK K
                (try simp only [Act.put]); (try simp only [List.setIfInBounds_toArray, List.set_cons_zero, List.set_cons_succ])
                refine heldDone (by kernel_rfl) ?_
                clear hS7 hS8 c12 f12
                go_wp2_with fail
                go_roundw
                case rel => exact ⟨i + 1, _, _, _, _, _, by omega, by go_num, HT6, ⟨by have := HN.out.1; simp; omega, HK2.out⟩, HI2.out t' HTR.out⟩
                case measure => simp [intOf]; omega
        · as_aux_lemma =>
          have eq1 : (((n % 2 : Nat) : Int) == 1) = false := beq_eq_false_iff_ne.2 (by omega)
          have hqq : (i + n) % t.is.length = q := by rw [hqv]; unfold trk; rw [if_neg ho]
          rw [hqq] at htm
          generalize n % 2 = par at *
          clear hqq hqv hq ho hml
          go_wp2_with fail
          go_cut [] from 36 to 45 (fun wx => ∃ v5, Hid (Tur w wx S cs t vy v5 vI (kk ++ [s]) ms L))
          case first => as_aux_lemma =>
            refine heldStart (S := S13 w cs) (by kernel_rfl) ?_
            have HTD : Hid (Tur w wr.drew S cs t vy vK vI kk ms L) := HT.out.next (by refine Below.drew ?_; exact Below.refl _ _)
            have hS : S13 w cs wr.drew := ⟨HTD.out.b, HTD.out.p⟩
            refine heldTake 0 _ rfl (by kernel_rfl) (by kernel_rfl) (by kernel_rfl) (fun _ _ _ h => h) rfl hS (fun wy hy => by first | (go_simp; done) | (go_simp; rfl) | rfl) ?_
            (try simp only [Act.put]); (try simp only [List.setIfInBounds_toArray, List.set_cons_zero, List.set_cons_succ])
            refine heldTake 2 _ rfl (by kernel_rfl) (by kernel_rfl) (by kernel_rfl) (fun _ _ _ h => h) rfl hS (fun wy hy => by first | (go_simp; done) | (go_simp; rfl) | rfl) ?_
            (try simp only [Act.put]); (try simp only [List.setIfInBounds_toArray, List.set_cons_zero, List.set_cons_succ])
            refine heldTake 4 _ rfl (by kernel_rfl) (by kernel_rfl) (by kernel_rfl) (fun _ _ _ h => h) rfl hS (fun wy hy => by first | (go_simp; done) | (go_simp; rfl) | rfl) ?_
            (try simp only [Act.put]); (try simp only [List.setIfInBounds_toArray, List.set_cons_zero, List.set_cons_succ])
            refine heldTake 3 _ rfl (by kernel_rfl) (by kernel_rfl) (by kernel_rfl) (fun _ _ _ h => h) rfl hS (fun wy hy => by have h0 := blk_cell (j := 11) hy.2 HC11.out; first | (go_simp; done) | (go_simp; rfl) | rfl) ?_
            (try simp only [Act.put]); (try simp only [List.setIfInBounds_toArray, List.set_cons_zero, List.set_cons_succ])
            refine heldTake 5 _ rfl (by kernel_rfl) (by kernel_rfl) (by kernel_rfl) (fun _ _ _ h => h) rfl hS (fun wy hy => by first | (go_simp; done) | (go_simp; rfl) | rfl) ?_
            (try simp only [Act.put]); (try simp only [List.setIfInBounds_toArray, List.set_cons_zero, List.set_cons_succ])
            refine heldTake 6 _ rfl (by kernel_rfl) (by kernel_rfl) (by kernel_rfl) (fun _ _ _ h => h) rfl hS (fun wy hy => by have h0 := keep_below hy.1 _ _ HCS.out; first | (go_simp; done) | (go_simp; rfl) | rfl) ?_
            (try simp only [Act.put]); (try simp only [List.setIfInBounds_toArray, List.set_cons_zero, List.set_cons_succ])
            refine wpAnyH_ready (rs := [1, 7]) (by kernel_rfl) (by simp) ?_
            refine AllReadyH.cons rfl (fun K hK => ?_) (AllReadyH.cons rfl (fun K hK => ?_) AllReadyH.nil)
            · as_aux_lemma =>
              have x11 : wr.cell? ⟨w.heap.size + 1 + 1, 11, none⟩ = some vK := blk_cell (j := 11) HTD.out.x rfl
              go_simp
              refine (Shut.out hK) _ _ hS (fun hS2 => ?_)
              clear hK K hS2
              (try simp only [Act.put]); (try simp only [List.setIfInBounds_toArray, List.set_cons_zero, List.set_cons_succ])
              refine heldStep 7 rfl (by kernel_rfl) (fun K hK => ?_)
              go_simp
              have HGB : Hid ((wr.alloc (.cells #[.string s] 9)).drew.heap[wr.heap.size]? = some (.cells #[.string s] 9 (0, 0))) := heap_alloc_new wr (.cells #[.string s] 9)
              have HTZ : Hid (Tur w (wr.alloc (.cells #[.string s] 9)).drew S cs t vy vK vI kk ms L) := (HT.out.next (below_alloc4 wr (.cells #[.string s] 9))).next (by refine Below.drew ?_; exact Below.refl _ _)
              refine (Hid.out hK) _ _ ⟨HTZ.out.b, HTZ.out.p⟩ (fun hS2 => ?_)
              clear hK K x11 HTD hS2
              (try simp only [Act.put]); (try simp only [List.setIfInBounds_toArray, List.set_cons_zero, List.set_cons_succ])
              refine heldStep 8 rfl (by kernel_rfl) (fun K hK => ?_)
              refine step_append_str rfl _ _ rfl (w.heap.size + 3) vK kk.length kk rfl HTZ.out.k _ s rfl HGB.out (by have := HKL.out; omega) (by have := blk_lt HTZ.out.x; omega) (fun v5 w5 ho5 hg5 hq5 => ?_)
              obtain ⟨a5, c5, hv5⟩ := own_slice ho5
              subst hv5
              have HT5 : Hid (Tur w (w5.setCell ⟨w.heap.size + 1 + 1, 11, none⟩ (.slice a5 (kk.length + 1) c5)) S cs t vy (.slice a5 (kk.length + 1) c5) vI (kk ++ [s]) ms L) := HTZ.out.addk (by rw [List.length_append]; exact ho5) hg5 hq5
              have hne5 : ¬ vK.ownBlock = some (w.heap.size + 2) := fun e => by have := HTZ.out.k.lt _ e; omega
              have hx5 : w5.heap[w.heap.size + 2]? = some (.cells (vcs t vy vK vI) 29 (0, 0)) := (((Kp.refl (fun q => vK.ownBlock = some q) _).grown hg5 (fun k _ e => e)).block _ (blk_lt HTZ.out.x) hne5).trans HTZ.out.x
              have c11 : w5.cell? ⟨w.heap.size + 1 + 1, 11, none⟩ = some vK := blk_cell (j := 11) hx5 rfl
              have f11 : w5.frozen? ⟨w.heap.size + 1 + 1, 11, none⟩ = false := blk_frozen 11 hx5
              have hS5 : S13 w cs w5 := by
                have hk5 : Kp (fun q => vK.ownBlock = some q) _ w5 := (Kp.refl _ _).grown hg5 (fun k _ e => e)
                exact ⟨HTZ.out.b.trans (hk5.below HTZ.out.b.size (fun q e => by have := HTZ.out.k.lt q e; omega)), (hk5.block _ (blk_lt HTZ.out.p) (fun e => by have := HTZ.out.k.lt _ e; omega)).trans HTZ.out.p⟩
              refine (Hid.out hK) _ _ hS5 (fun hS6 => ?_)
              clear hK K hg5 hq5 ho5 hx5 hS5 hne5
              (try simp only [Act.put]); (try simp only [List.setIfInBounds_toArray, List.set_cons_zero, List.set_cons_succ])
              refine heldTake 9 _ rfl (by kernel_rfl) (by kernel_rfl) (by kernel_rfl) (fun _ _ _ h => h) rfl hS6 (fun wy hy => by first | (go_simp; done) | (go_simp; rfl) | rfl) ?_
              (try simp only [Act.put]); (try simp only [List.setIfInBounds_toArray, List.set_cons_zero, List.set_cons_succ])
              refine heldStep 10 rfl (by kernel_rfl) (fun K hK => ?_)
              go_simp
              refine (Hid.out hK) _ _ ⟨HT5.out.b, HT5.out.p⟩ (fun hS7 => ?_)
              clear hK K
              (try simp only [Act.put]); (try simp only [List.setIfInBounds_toArray, List.set_cons_zero, List.set_cons_succ])
              refine heldDone (by kernel_rfl) ?_
              clear hS hS6 hS7 c11 f11
              go_wp2_with fail
              go_meet
              case rel => exact ⟨_, HT5⟩
            · as_aux_lemma =>
              go_simp
              have HGB : Hid ((wr.alloc (.cells #[.string s] 9)).drew.heap[wr.heap.size]? = some (.cells #[.string s] 9 (0, 0))) := heap_alloc_new wr (.cells #[.string s] 9)
              have HTZ : Hid (Tur w (wr.alloc (.cells #[.string s] 9)).drew S cs t vy vK vI kk ms L) := (HT.out.next (below_alloc4 wr (.cells #[.string s] 9))).next (by refine Below.drew ?_; exact Below.refl _ _)
              have x11 : (wr.alloc (.cells #[.string s] 9)).cell? ⟨w.heap.size + 1 + 1, 11, none⟩ = some vK := blk_cell (j := 11) HTZ.out.x rfl
              refine (Shut.out hK) _ _ ⟨HTZ.out.b, HTZ.out.p⟩ (fun hS2 => ?_)
              clear hK K hS HTD
              have hS := hS2
              clear hS2
              (try simp only [Act.put]); (try simp only [List.setIfInBounds_toArray, List.set_cons_zero, List.set_cons_succ])
              refine heldStep 1 rfl (by kernel_rfl) (fun K hK => ?_)
              go_simp
              refine (Hid.out hK) _ _ hS (fun hS2 => ?_)
              clear hK K x11 hS2
              (try simp only [Act.put]); (try simp only [List.setIfInBounds_toArray, List.set_cons_zero, List.set_cons_succ])
              refine heldStep 8 rfl (by kernel_rfl) (fun K hK => ?_)
              refine step_append_str rfl _ _ rfl (w.heap.size + 3) vK kk.length kk rfl HTZ.out.k _ s rfl HGB.out (by have := HKL.out; omega) (by have := blk_lt HTZ.out.x; omega) (fun v5 w5 ho5 hg5 hq5 => ?_)
              obtain ⟨a5, c5, hv5⟩ := own_slice ho5
              subst hv5
              have HT5 : Hid (Tur w (w5.setCell ⟨w.heap.size + 1 + 1, 11, none⟩ (.slice a5 (kk.length + 1) c5)) S cs t vy (.slice a5 (kk.length + 1) c5) vI (kk ++ [s]) ms L) := HTZ.out.addk (by rw [List.length_append]; exact ho5) hg5 hq5
              have hne5 : ¬ vK.ownBlock = some (w.heap.size + 2) := fun e => by have := HTZ.out.k.lt _ e; omega
              have hx5 : w5.heap[w.heap.size + 2]? = some (.cells (vcs t vy vK vI) 29 (0, 0)) := (((Kp.refl (fun q => vK.ownBlock = some q) _).grown hg5 (fun k _ e => e)).block _ (blk_lt HTZ.out.x) hne5).trans HTZ.out.x
              have c11 : w5.cell? ⟨w.heap.size + 1 + 1, 11, none⟩ = some vK := blk_cell (j := 11) hx5 rfl
              have f11 : w5.frozen? ⟨w.heap.size + 1 + 1, 11, none⟩ = false := blk_frozen 11 hx5
              have hS5 : S13 w cs w5 := by
                have hk5 : Kp (fun q => vK.ownBlock = some q) _ w5 := (Kp.refl _ _).grown hg5 (fun k _ e => e)
                exact ⟨HTZ.out.b.trans (hk5.below HTZ.out.b.size (fun q e => by have := HTZ.out.k.lt q e; omega)), (hk5.block _ (blk_lt HTZ.out.p) (fun e => by have := HTZ.out.k.lt _ e; omega)).trans HTZ.out.p⟩
              refine (Hid.out hK) _ _ hS5 (fun hS6 => ?_)
              clear hK K hg5 hq5 ho5 hx5 hS5 hne5
              (try simp only [Act.put]); (try simp only [List.setIfInBounds_toArray, List.set_cons_zero, List.set_cons_succ])
              refine heldTake 9 _ rfl (by kernel_rfl) (by kernel_rfl) (by kernel_rfl) (fun _ _ _ h => h) rfl hS6 (fun wy hy => by first | (go_simp; done) | (go_simp; rfl) | rfl) ?_
              (try simp only [Act.put]); (try simp only [List.setIfInBounds_toArray, List.set_cons_zero, List.set_cons_succ])
              refine heldStep 10 rfl (by kernel_rfl) (fun K hK => ?_)
              go_simp
              refine (Hid.out hK) _ _ ⟨HT5.out.b, HT5.out.p⟩ (fun hS7 => ?_)
              clear hK K
              (try simp only [Act.put]); (try simp only [List.setIfInBounds_toArray, List.set_cons_zero, List.set_cons_succ])
              refine heldDone (by kernel_rfl) ?_
              clear hS hS6 hS7 c11 f11
              go_wp2_with fail
              go_meet
              case rel => exact ⟨_, HT5⟩
          case rest =>
            obtain ⟨v5, HTW⟩ := hcut
            obtain ⟨w3, hw3⟩ : ∃ x, x = wc := ⟨_, rfl⟩
            subst hw3
            have HK2 : Hid (kk ++ [s] = if t.k = 9 then pickS t.ks ((List.range (i + 1)).map pl) else []) := by show _ = _; rw [if_pos h9]; exact HKS.out
            clear HT
            have HCL : Hid (∀ wz, Tur w wz S cs t vy v5 vI (kk ++ [s]) ms L → Calls Tryd.prog 9 #[.agg cu, .int .i64 (n : Nat)] wz fun e w' => ∃ c t', e = .returned (.agg c) ∧ Tis w' (fun q => S q ∨ (w.heap.size ≤ q ∧ q ≤ w.heap.size + 2) ∨ v5.ownBlock = some q ∨ vI.ownBlock = some q) t' c ∧ Trn u t' ∧ Below wz.heap.size wz w') := fun wz hz => by
              have h1 := hz.b.size
              refine HIH.out u HUM.out wz _ cu ((HTU.out.widen.kp (Kp.of_below hz.b)).mono (fun q e => ?_)) (fun q e => ?_) (HTK.out.i u HUM.out) (Nat.le_trans (tmuchL_mem HUM.out) HML.out.1)
              · rcases e with e | e | e | e
                · exact .inl e
                · exact .inr (by omega)
                · exact .inr (by have := hz.k.lt q e; omega)
                · exact .inr (by have := hz.o.lt q e; omega)
              · rcases e with e | e | e | e
                · have := HSS.out q e
                  omega
                · have := blk_lt hz.x
                  omega
                · exact (hz.k.lt q e).2
                · exact (hz.o.lt q e).2
            go_wp2_with fail
            refine heldStart (S := S13 w cs) (by kernel_rfl) ?_
            have HTD : Hid (Tur w w3.drew S cs t vy v5 vI (kk ++ [s]) ms L) := HTW.out.next (by refine Below.drew ?_; exact Below.refl _ _)
            have hS : S13 w cs w3.drew := ⟨HTD.out.b, HTD.out.p⟩
            refine heldTake 0 _ rfl (by kernel_rfl) (by kernel_rfl) (by kernel_rfl) (fun _ _ _ h => h) rfl hS (fun wy hy => by first | (go_simp; done) | (go_simp; rfl) | rfl) ?_
            (try simp only [Act.put]); (try simp only [List.setIfInBounds_toArray, List.set_cons_zero, List.set_cons_succ])
            refine heldTake 2 _ rfl (by kernel_rfl) (by kernel_rfl) (by kernel_rfl) (fun _ _ _ h => h) rfl hS (fun wy hy => by first | (go_simp; done) | (go_simp; rfl) | rfl) ?_
            (try simp only [Act.put]); (try simp only [List.setIfInBounds_toArray, List.set_cons_zero, List.set_cons_succ])
            refine heldTake 4 _ rfl (by kernel_rfl) (by kernel_rfl) (by kernel_rfl) (fun _ _ _ h => h) rfl hS (fun wy hy => by first | (go_simp; done) | (go_simp; rfl) | rfl) ?_
            (try simp only [Act.put]); (try simp only [List.setIfInBounds_toArray, List.set_cons_zero, List.set_cons_succ])
            refine heldTake 7 _ rfl (by kernel_rfl) (by kernel_rfl) (by kernel_rfl) (fun _ _ _ h => h) rfl hS (fun wy hy => by first | (go_simp; done) | (go_simp; rfl) | rfl) ?_
            (try simp only [Act.put]); (try simp only [List.setIfInBounds_toArray, List.set_cons_zero, List.set_cons_succ])
            refine heldTake 3 _ rfl (by kernel_rfl) (by kernel_rfl) (by kernel_rfl) (fun _ _ _ h => h) rfl hS (fun wy hy => by have h0 := blk_cell (j := 12) hy.2 HC12.out; first | (go_simp; done) | (go_simp; rfl) | rfl) ?_
            (try simp only [Act.put]); (try simp only [List.setIfInBounds_toArray, List.set_cons_zero, List.set_cons_succ])
            refine heldTake 5 _ rfl (by kernel_rfl) (by kernel_rfl) (by kernel_rfl) (fun _ _ _ h => h) rfl hS (fun wy hy => by first | (go_simp; done) | (go_simp; rfl) | rfl) ?_
            (try simp only [Act.put]); (try simp only [List.setIfInBounds_toArray, List.set_cons_zero, List.set_cons_succ])
            refine heldTake 6 _ rfl (by kernel_rfl) (by kernel_rfl) (by kernel_rfl) (fun _ _ _ h => h) rfl hS (fun wy hy => exec_valAt (g := b) (off := off + q * 13) (cs := cu) rfl rfl HZU.out (fun j x hx => keep_below hy.1 _ _ (HCU.out j x hx))) ?_
            (try simp only [Act.put]); (try simp only [List.setIfInBounds_toArray, List.set_cons_zero, List.set_cons_succ])
            refine wpAnyH_ready (rs := [1, 8]) (by kernel_rfl) (by simp) ?_
            refine AllReadyH.cons rfl (fun K hK => ?_) (AllReadyH.cons rfl (fun K hK => ?_) AllReadyH.nil)
            · as_aux_lemma =>
              have x12 : w3.cell? ⟨w.heap.size + 1 + 1, 12, none⟩ = some vI := blk_cell (j := 12) HTW.out.x rfl
              go_simp
              refine (Shut.out hK) _ _ hS (fun hS2 => ?_)
              clear hK K hS2
              (try simp only [Act.put]); (try simp only [List.setIfInBounds_toArray, List.set_cons_zero, List.set_cons_succ])
              refine heldStep 8 rfl (by kernel_rfl) (fun K hK => ?_)
              go_simp
              refine (HCL.out _ HTD.out).mono ?_
              rintro e w5 ⟨c, t', rfl, hc5, htr, hb5⟩
              have HTR := hide htr
              have HT5 := hide (HTD.out.next hb5)
              have HC13 := hide hc5.tin.size13
              have HON : Hid (one13 c) := ⟨HC13.out, fun x hx => by have h := hc5.tin.all1; rw [Array.all_eq_true_iff_forall_mem] at h; exact h x (by simpa using hx)⟩
              have HTZ := hide (HT5.out.next (below_alloc4 w5 (.cells c 29)))
              have HGB := hide (heap_alloc_new w5 (.cells c 29))
              have HCZ := hide (hc5.kp (Kp.of_below (below_alloc4 w5 (.cells c 29))))
              clear htr hc5 hb5
              refine (Hid.out hK) _ _ ⟨HT5.out.b, HT5.out.p⟩ (fun hS3 => ?_)
              clear hK K x12 hS3 hS
              (try simp only [Act.put]); (try simp only [List.setIfInBounds_toArray, List.set_cons_zero, List.set_cons_succ])
              refine heldStep 9 rfl (by kernel_rfl) (fun K hK => ?_)
              refine step_val1 rfl rfl c HC13.out rfl ?_
              refine (Hid.out hK) _ _ ⟨HTZ.out.b, HTZ.out.p⟩ (fun hS4 => ?_)
              clear hK K hS4
              (try simp only [Act.put]); (try simp only [List.setIfInBounds_toArray, List.set_cons_zero, List.set_cons_succ])
              refine heldStep 10 rfl (by kernel_rfl) (fun K hK => ?_)
              refine step_append_val rfl _ _ rfl (w.heap.size + 3) vI L.length (vfl L) rfl HTZ.out.o _ c HON.out rfl HGB.out (by have h1 := HTZ.out.n; have h2 := HN.out.1; have h3 := HML.out; omega) (by have := blk_lt HTZ.out.x; omega) (fun v6 w6 ho6 hg6 hq6 => ?_)
              obtain ⟨a6, c6, hv6⟩ := own_slice ho6
              subst hv6
              have HT6 : Hid (Tur w (w6.setCell ⟨w.heap.size + 1 + 1, 12, none⟩ (.slice a6 (L.length + 1) c6)) S cs t vy v5 (.slice a6 (L.length + 1) c6) (kk ++ [s]) (ms ++ [t']) (L ++ [c])) := HTZ.out.addi HON.out HCZ.out ho6 hg6 hq6
              have hne6 : ¬ vI.ownBlock = some (w.heap.size + 2) := fun e => by have := HTZ.out.o.lt _ e; omega
              have hk6 : Kp (fun q => vI.ownBlock = some q) _ w6 := (Kp.refl _ _).grown hg6 (fun k _ e => e)
              have hx6 : w6.heap[w.heap.size + 2]? = some (.cells (vcs t vy v5 vI) 29 (0, 0)) := (hk6.block _ (blk_lt HTZ.out.x) hne6).trans HTZ.out.x
              have c12 : w6.cell? ⟨w.heap.size + 1 + 1, 12, none⟩ = some vI := blk_cell (j := 12) hx6 rfl
              have f12 : w6.frozen? ⟨w.heap.size + 1 + 1, 12, none⟩ = false := blk_frozen 12 hx6
              have hS6 : S13 w cs w6 := ⟨HTZ.out.b.trans (hk6.below HTZ.out.b.size (fun q e => by have := HTZ.out.o.lt q e; omega)), (hk6.block _ (blk_lt HTZ.out.p) (fun e => by have := HTZ.out.o.lt _ e; omega)).trans HTZ.out.p⟩
              refine (Hid.out hK) _ _ hS6 (fun hS7 => ?_)
              clear hK K hg6 hq6 ho6 hx6 hS6 hne6 hk6
              (try simp only [Act.put]); (try simp only [List.setIfInBounds_toArray, List.set_cons_zero, List.set_cons_succ])
              refine heldTake 11 _ rfl (by kernel_rfl) (by kernel_rfl) (by kernel_rfl) (fun _ _ _ h => h) rfl hS7 (fun wy hy => by first | (go_simp; done) | (go_simp; rfl) | rfl) ?_
              (try simp only [Act.put]); (try simp only [List.setIfInBounds_toArray, List.set_cons_zero, List.set_cons_succ])
              refine heldStep 12 rfl (by kernel_rfl) (fun K hK => ?_)
              go_simp
              refine (Hid.out hK) _ _ ⟨HT6.out.b, HT6.out.p⟩ (fun hS8 => ?_)
              clear hK K
              (try simp only [Act.put]); (try simp only [List.setIfInBounds_toArray, List.set_cons_zero, List.set_cons_succ])
              refine heldDone (by kernel_rfl) ?_
              clear hS7 hS8 c12 f12
              go_wp2_with fail
              go_roundw
              case rel => exact ⟨i + 1, _, _, _, _, _, by omega, by go_num, HT6, ⟨by have := HN.out.1; simp; omega, HK2.out⟩, HI2.out t' HTR.out⟩
              case measure => simp [intOf]; omega
            · as_aux_lemma =>
              go_simp
              refine (HCL.out _ HTD.out).mono ?_
              rintro e w5 ⟨c, t', rfl, hc5, htr, hb5⟩
              have HTR := hide htr
              have HT5 := hide (HTD.out.next hb5)
              have HC13 := hide hc5.tin.size13
              have HON : Hid (one13 c) := ⟨HC13.out, fun x hx => by have h := hc5.tin.all1; rw [Array.all_eq_true_iff_forall_mem] at h; exact h x (by simpa using hx)⟩
              have HTZ := hide (HT5.out.next (below_alloc4 w5 (.cells c 29)))
              have HGB := hide (heap_alloc_new w5 (.cells c 29))
              have HCZ := hide (hc5.kp (Kp.of_below (below_alloc4 w5 (.cells c 29))))
              clear htr hc5 hb5
              have x12 : w5.cell? ⟨w.heap.size + 1 + 1, 12, none⟩ = some vI := blk_cell (j := 12) HT5.out.x rfl
              have x13 : (w5.alloc (.cells c 29)).cell? ⟨w.heap.size + 1 + 1, 12, none⟩ = some vI := blk_cell (j := 12) HTZ.out.x rfl
              refine (Shut.out hK) _ _ ⟨HT5.out.b, HT5.out.p⟩ (fun hS3 => ?_)
              clear hK K hS
              (try simp only [Act.put]); (try simp only [List.setIfInBounds_toArray, List.set_cons_zero, List.set_cons_succ])
              refine wpAnyH_ready (rs := [1, 9]) (by kernel_rfl) (by simp) ?_
              refine AllReadyH.cons rfl (fun K hK => ?_) (AllReadyH.cons rfl (fun K hK => ?_) AllReadyH.nil)
              · as_aux_lemma =>
                go_simp
                refine (Shut.out hK) _ _ hS3 (fun hS2 => ?_)
                clear hK K hS2 x12 x13
                (try simp only [Act.put]); (try simp only [List.setIfInBounds_toArray, List.set_cons_zero, List.set_cons_succ])
                refine heldStep 9 rfl (by kernel_rfl) (fun K hK => ?_)
                refine step_val1 rfl rfl c HC13.out rfl ?_
                refine (Hid.out hK) _ _ ⟨HTZ.out.b, HTZ.out.p⟩ (fun hS4 => ?_)
                clear hK K hS4
                (try simp only [Act.put]); (try simp only [List.setIfInBounds_toArray, List.set_cons_zero, List.set_cons_succ])
                refine heldStep 10 rfl (by kernel_rfl) (fun K hK => ?_)
                refine step_append_val rfl _ _ rfl (w.heap.size + 3) vI L.length (vfl L) rfl HTZ.out.o _ c HON.out rfl HGB.out (by have h1 := HTZ.out.n; have h2 := HN.out.1; have h3 := HML.out; omega) (by have := blk_lt HTZ.out.x; omega) (fun v6 w6 ho6 hg6 hq6 => ?_)
                obtain ⟨a6, c6, hv6⟩ := own_slice ho6
                subst hv6
                have HT6 : Hid (Tur w (w6.setCell ⟨w.heap.size + 1 + 1, 12, none⟩ (.slice a6 (L.length + 1) c6)) S cs t vy v5 (.slice a6 (L.length + 1) c6) (kk ++ [s]) (ms ++ [t']) (L ++ [c])) := HTZ.out.addi HON.out HCZ.out ho6 hg6 hq6
                have hne6 : ¬ vI.ownBlock = some (w.heap.size + 2) := fun e => by have := HTZ.out.o.lt _ e; omega
                have hk6 : Kp (fun q => vI.ownBlock = some q) _ w6 := (Kp.refl _ _).grown hg6 (fun k _ e => e)
                have hx6 : w6.heap[w.heap.size + 2]? = some (.cells (vcs t vy v5 vI) 29 (0, 0)) := (hk6.block _ (blk_lt HTZ.out.x) hne6).trans HTZ.out.x
                have c12 : w6.cell? ⟨w.heap.size + 1 + 1, 12, none⟩ = some vI := blk_cell (j := 12) hx6 rfl
                have f12 : w6.frozen? ⟨w.heap.size + 1 + 1, 12, none⟩ = false := blk_frozen 12 hx6
                have hS6 : S13 w cs w6 := ⟨HTZ.out.b.trans (hk6.below HTZ.out.b.size (fun q e => by have := HTZ.out.o.lt q e; omega)), (hk6.block _ (blk_lt HTZ.out.p) (fun e => by have := HTZ.out.o.lt _ e; omega)).trans HTZ.out.p⟩
                refine (Hid.out hK) _ _ hS6 (fun hS7 => ?_)
                clear hK K hg6 hq6 ho6 hx6 hS6 hne6 hk6
                (try simp only [Act.put]); (try simp only [List.setIfInBounds_toArray, List.set_cons_zero, List.set_cons_succ])
                refine heldTake 11 _ rfl (by kernel_rfl) (by kernel_rfl) (by kernel_rfl) (fun _ _ _ h => h) rfl hS7 (fun wy hy => by first | (go_simp; done) | (go_simp; rfl) | rfl) ?_
                (try simp only [Act.put]); (try simp only [List.setIfInBounds_toArray, List.set_cons_zero, List.set_cons_succ])
                refine heldStep 12 rfl (by kernel_rfl) (fun K hK => ?_)
                go_simp
                refine (Hid.out hK) _ _ ⟨HT6.out.b, HT6.out.p⟩ (fun hS8 => ?_)
                clear hK K
                (try simp only [Act.put]); (try simp only [List.setIfInBounds_toArray, List.set_cons_zero, List.set_cons_succ])
                refine heldDone (by kernel_rfl) ?_
                clear hS7 hS8 c12 f12
                go_wp2_with fail
                go_roundw
                case rel => exact ⟨i + 1, _, _, _, _, _, by omega, by go_num, HT6, ⟨by have := HN.out.1; simp; omega, HK2.out⟩, HI2.out t' HTR.out⟩
                case measure => simp [intOf]; omega
              · as_aux_lemma =>
                refine step_val1 rfl rfl c HC13.out rfl ?_
                refine (Shut.out hK) _ _ ⟨HTZ.out.b, HTZ.out.p⟩ (fun hS4 => ?_)
                clear hK K hS3
                (try simp only [Act.put]); (try simp only [List.setIfInBounds_toArray])
                refine heldStep 1 rfl (by kernel_rfl) (fun K hK => ?_)
                go_simp
                refine (Hid.out hK) _ _ hS4 (fun hS2 => ?_)
                clear hK K hS2 x12 x13 hS4
                (try simp only [Act.put]); (try simp only [List.setIfInBounds_toArray, List.set_cons_zero, List.set_cons_succ])
                refine heldStep 10 rfl (by kernel_rfl) (fun K hK => ?_)
                refine step_append_val rfl _ _ rfl (w.heap.size + 3) vI L.length (vfl L) rfl HTZ.out.o _ c HON.out rfl HGB.out (by have h1 := HTZ.out.n; have h2 := HN.out.1; have h3 := HML.out; omega) (by have := blk_lt HTZ.out.x; omega) (fun v6 w6 ho6 hg6 hq6 => ?_)
                obtain ⟨a6, c6, hv6⟩ := own_slice ho6
                subst hv6
                have HT6 : Hid (Tur w (w6.setCell ⟨w.heap.size + 1 + 1, 12, none⟩ (.slice a6 (L.length + 1) c6)) S cs t vy v5 (.slice a6 (L.length + 1) c6) (kk ++ [s]) (ms ++ [t']) (L ++ [c])) := HTZ.out.addi HON.out HCZ.out ho6 hg6 hq6
                have hne6 : ¬ vI.ownBlock = some (w.heap.size + 2) := fun e => by have := HTZ.out.o.lt _ e; omega
                have hk6 : Kp (fun q => vI.ownBlock = some q) _ w6 := (Kp.refl _ _).grown hg6 (fun k _ e => e)
                have hx6 : w6.heap[w.heap.size + 2]? = some (.cells (vcs t vy v5 vI) 29 (0, 0)) := (hk6.block _ (blk_lt HTZ.out.x) hne6).trans HTZ.out.x
                have c12 : w6.cell? ⟨w.heap.size + 1 + 1, 12, none⟩ = some vI := blk_cell (j := 12) hx6 rfl
                have f12 : w6.frozen? ⟨w.heap.size + 1 + 1, 12, none⟩ = false := blk_frozen 12 hx6
                have hS6 : S13 w cs w6 := ⟨HTZ.out.b.trans (hk6.below HTZ.out.b.size (fun q e => by have := HTZ.out.o.lt q e; omega)), (hk6.block _ (blk_lt HTZ.out.p) (fun e => by have := HTZ.out.o.lt _ e; omega)).trans HTZ.out.p⟩
                refine (Hid.out hK) _ _ hS6 (fun hS7 => ?_)
                clear hK K hg6 hq6 ho6 hx6 hS6 hne6 hk6
                (try simp only [Act.put]); (try simp only [List.setIfInBounds_toArray, List.set_cons_zero, List.set_cons_succ])
                refine heldTake 11 _ rfl (by kernel_rfl) (by kernel_rfl) (by kernel_rfl) (fun _ _ _ h => h) rfl hS7 (fun wy hy => by first | (go_simp; done) | (go_simp; rfl) | rfl) ?_
                (try simp only [Act.put]); (try simp only [List.setIfInBounds_toArray, List.set_cons_zero, List.set_cons_succ])
                refine heldStep 12 rfl (by kernel_rfl) (fun K hK => ?_)
                go_simp
                refine (Hid.out hK) _ _ ⟨HT6.out.b, HT6.out.p⟩ (fun hS8 => ?_)
                clear hK K
                (try simp only [Act.put]); (try simp only [List.setIfInBounds_toArray, List.set_cons_zero, List.set_cons_succ])
                refine heldDone (by kernel_rfl) ?_
                clear hS7 hS8 c12 f12
                go_wp2_with fail
                go_roundw
                case rel => exact ⟨i + 1, _, _, _, _, _, by omega, by go_num, HT6, ⟨by have := HN.out.1; simp; omega, HK2.out⟩, HI2.out t' HTR.out⟩
                case measure => simp [intOf]; omega
      · as_aux_lemma =>
        have g9 : (t.k == 9) = false := beq_eq_false_iff_ne.2 h9
        obtain ⟨q, hq⟩ : ∃ q, q = pl i := ⟨_, rfl⟩
        have hqv : i = q := by rw [hq, HPL.out]; simp only [if_neg h9]
        have hql : q < t.is.length := by omega
        have HQP := hide hq
        obtain ⟨u, hu⟩ : ∃ u, t.is[q]? = some u := ⟨t.is[q], List.getElem?_eq_getElem hql⟩
        obtain ⟨b, off, rfl, hcells⟩ := HFI.out.resolve_left (fun h => by rw [h] at hql; simp at hql)
        obtain ⟨cu, tu, hcu⟩ := hcells q u hu
        have HZU := hide tu.tin.size13
        have HCU := hide hcu
        have HTU := hide tu
        have HUM : Hid (u ∈ t.is) := List.mem_of_getElem? hu
        have HU := hide hu
        have HI2 : Hid (∀ t' : Tv, Trn u t' → ∀ (j : Nat) (x v : Tv), j < i + 1 → t.is[pl j]? = some x → (ms ++ [t'])[j]? = some v → Trn x v) := fun t' htr j x v hj hx hv => by
          have hml := HN.out.1
          by_cases hji : j = i
          · subst hji
            rw [← HQP.out, HU.out] at hx
            injection hx with hx
            rw [List.getElem?_append_right (by omega), hml, Nat.sub_self] at hv
            simp at hv
            rw [← hx, ← hv]
            exact htr
          · rw [List.getElem?_append_left (by omega)] at hv
            exact HI.out j x v (by omega) hx hv
        clear hcells tu hcu hu
        have gq2 : (q : Int) < (t.is.length : Int) := by omega
        have HK2 : Hid (kk = if t.k = 9 then pickS t.ks ((List.range (i + 1)).map pl) else []) := by
          have h1 := HN.out.2
          rw [if_neg h9] at h1
          show _ = _
          rw [if_neg h9]
          exact h1
        have HTW := HT
        have HCL : Hid (∀ wz, Tur w wz S cs t vy vK vI kk ms L → Calls Tryd.prog 9 #[.agg cu, .int .i64 (n : Nat)] wz fun e w' => ∃ c t', e = .returned (.agg c) ∧ Tis w' (fun q => S q ∨ (w.heap.size ≤ q ∧ q ≤ w.heap.size + 2) ∨ vK.ownBlock = some q ∨ vI.ownBlock = some q) t' c ∧ Trn u t' ∧ Below wz.heap.size wz w') := fun wz hz => by
          have h1 := hz.b.size
          refine HIH.out u HUM.out wz _ cu ((HTU.out.widen.kp (Kp.of_below hz.b)).mono (fun q e => ?_)) (fun q e => ?_) (HTK.out.i u HUM.out) (Nat.le_trans (tmuchL_mem HUM.out) HML.out.1)
          · rcases e with e | e | e | e
            · exact .inl e
            · exact .inr (by omega)
            · exact .inr (by have := hz.k.lt q e; omega)
            · exact .inr (by have := hz.o.lt q e; omega)
          · rcases e with e | e | e | e
            · have := HSS.out q e
              omega
            · have := blk_lt hz.x
              omega
            · exact (hz.k.lt q e).2
            · exact (hz.o.lt q e).2
        clear hq HT
        subst hqv
        go_wp2_with fail
        refine heldStart (S := S13 w cs) (by kernel_rfl) ?_
        have HTD : Hid (Tur w wr.drew S cs t vy vK vI kk ms L) := HTW.out.next (by refine Below.drew ?_; exact Below.refl _ _)
        have hS : S13 w cs wr.drew := ⟨HTD.out.b, HTD.out.p⟩
        refine heldTake 0 _ rfl (by kernel_rfl) (by kernel_rfl) (by kernel_rfl) (fun _ _ _ h => h) rfl hS (fun wy hy => by first | (go_simp; done) | (go_simp; rfl) | rfl) ?_
        (try simp only [Act.put]); (try simp only [List.setIfInBounds_toArray, List.set_cons_zero, List.set_cons_succ])
        refine heldTake 2 _ rfl (by kernel_rfl) (by kernel_rfl) (by kernel_rfl) (fun _ _ _ h => h) rfl hS (fun wy hy => by first | (go_simp; done) | (go_simp; rfl) | rfl) ?_
        (try simp only [Act.put]); (try simp only [List.setIfInBounds_toArray, List.set_cons_zero, List.set_cons_succ])
        refine heldTake 4 _ rfl (by kernel_rfl) (by kernel_rfl) (by kernel_rfl) (fun _ _ _ h => h) rfl hS (fun wy hy => by first | (go_simp; done) | (go_simp; rfl) | rfl) ?_
        (try simp only [Act.put]); (try simp only [List.setIfInBounds_toArray, List.set_cons_zero, List.set_cons_succ])
        refine heldTake 7 _ rfl (by kernel_rfl) (by kernel_rfl) (by kernel_rfl) (fun _ _ _ h => h) rfl hS (fun wy hy => by first | (go_simp; done) | (go_simp; rfl) | rfl) ?_
        (try simp only [Act.put]); (try simp only [List.setIfInBounds_toArray, List.set_cons_zero, List.set_cons_succ])
        refine heldTake 3 _ rfl (by kernel_rfl) (by kernel_rfl) (by kernel_rfl) (fun _ _ _ h => h) rfl hS (fun wy hy => by have h0 := blk_cell (j := 12) hy.2 HC12.out; first | (go_simp; done) | (go_simp; rfl) | rfl) ?_
        (try simp only [Act.put]); (try simp only [List.setIfInBounds_toArray, List.set_cons_zero, List.set_cons_succ])
        refine heldTake 5 _ rfl (by kernel_rfl) (by kernel_rfl) (by kernel_rfl) (fun _ _ _ h => h) rfl hS (fun wy hy => by first | (go_simp; done) | (go_simp; rfl) | rfl) ?_
        (try simp only [Act.put]); (try simp only [List.setIfInBounds_toArray, List.set_cons_zero, List.set_cons_succ])
        refine heldTake 6 _ rfl (by kernel_rfl) (by kernel_rfl) (by kernel_rfl) (fun _ _ _ h => h) rfl hS (fun wy hy => exec_valAt (g := b) (off := off + i * 13) (cs := cu) rfl rfl HZU.out (fun j x hx => keep_below hy.1 _ _ (HCU.out j x hx))) ?_
        (try simp only [Act.put]); (try simp only [List.setIfInBounds_toArray, List.set_cons_zero, List.set_cons_succ])
        refine wpAnyH_ready (rs := [1, 8]) (by kernel_rfl) (by simp) ?_
        refine AllReadyH.cons rfl (fun K hK => ?_) (AllReadyH.cons rfl (fun K hK => ?_) AllReadyH.nil)
        · as_aux_lemma =>
          have x12 : wr.cell? ⟨w.heap.size + 1 + 1, 12, none⟩ = some vI := blk_cell (j := 12) HTW.out.x rfl
          go_simp
          refine (Shut.out hK) _ _ hS (fun hS2 => ?_)
          clear hK K hS2
          (try simp only [Act.put]); (try simp only [List.setIfInBounds_toArray, List.set_cons_zero, List.set_cons_succ])
          refine heldStep 8 rfl (by kernel_rfl) (fun K hK => ?_)
          go_simp
          refine (HCL.out _ HTD.out).mono ?_
          rintro e w5 ⟨c, t', rfl, hc5, htr, hb5⟩
          have HTR := hide htr
          have HT5 := hide (HTD.out.next hb5)
          have HC13 := hide hc5.tin.size13
          have HON : Hid (one13 c) := ⟨HC13.out, fun x hx => by have h := hc5.tin.all1; rw [Array.all_eq_true_iff_forall_mem] at h; exact h x (by simpa using hx)⟩
          have HTZ := hide (HT5.out.next (below_alloc4 w5 (.cells c 29)))
          have HGB := hide (heap_alloc_new w5 (.cells c 29))
          have HCZ := hide (hc5.kp (Kp.of_below (below_alloc4 w5 (.cells c 29))))
          clear htr hc5 hb5
          refine (Hid.out hK) _ _ ⟨HT5.out.b, HT5.out.p⟩ (fun hS3 => ?_)
          clear hK K x12 hS3 hS
          (try simp only [Act.put]); (try simp only [List.setIfInBounds_toArray, List.set_cons_zero, List.set_cons_succ])
          refine heldStep 9 rfl (by kernel_rfl) (fun K hK => ?_)
          refine step_val1 rfl rfl c HC13.out rfl ?_
          refine (Hid.out hK) _ _ ⟨HTZ.out.b, HTZ.out.p⟩ (fun hS4 => ?_)
          clear hK K hS4
          (try simp only [Act.put]); (try simp only [List.setIfInBounds_toArray, List.set_cons_zero, List.set_cons_succ])
          refine heldStep 10 rfl (by kernel_rfl) (fun K hK => ?_)
          refine step_append_val rfl _ _ rfl (w.heap.size + 3) vI L.length (vfl L) rfl HTZ.out.o _ c HON.out rfl HGB.out (by have h1 := HTZ.out.n; have h2 := HN.out.1; have h3 := HML.out; omega) (by have := blk_lt HTZ.out.x; omega) (fun v6 w6 ho6 hg6 hq6 => ?_)
          obtain ⟨a6, c6, hv6⟩ := own_slice ho6
          subst hv6
          have HT6 : Hid (Tur w (w6.setCell ⟨w.heap.size + 1 + 1, 12, none⟩ (.slice a6 (L.length + 1) c6)) S cs t vy vK (.slice a6 (L.length + 1) c6) kk (ms ++ [t']) (L ++ [c])) := HTZ.out.addi HON.out HCZ.out ho6 hg6 hq6
          have hne6 : ¬ vI.ownBlock = some (w.heap.size + 2) := fun e => by have := HTZ.out.o.lt _ e; omega
          have hk6 : Kp (fun q => vI.ownBlock = some q) _ w6 := (Kp.refl _ _).grown hg6 (fun k _ e => e)
          have hx6 : w6.heap[w.heap.size + 2]? = some (.cells (vcs t vy vK vI) 29 (0, 0)) := (hk6.block _ (blk_lt HTZ.out.x) hne6).trans HTZ.out.x
          have c12 : w6.cell? ⟨w.heap.size + 1 + 1, 12, none⟩ = some vI := blk_cell (j := 12) hx6 rfl
          have f12 : w6.frozen? ⟨w.heap.size + 1 + 1, 12, none⟩ = false := blk_frozen 12 hx6
          have hS6 : S13 w cs w6 := ⟨HTZ.out.b.trans (hk6.below HTZ.out.b.size (fun q e => by have := HTZ.out.o.lt q e; omega)), (hk6.block _ (blk_lt HTZ.out.p) (fun e => by have := HTZ.out.o.lt _ e; omega)).trans HTZ.out.p⟩
          refine (Hid.out hK) _ _ hS6 (fun hS7 => ?_)
          clear hK K hg6 hq6 ho6 hx6 hS6 hne6 hk6
          (try simp only [Act.put]); (try simp only [List.setIfInBounds_toArray, List.set_cons_zero, List.set_cons_succ])
          refine heldTake 11 _ rfl (by kernel_rfl) (by kernel_rfl) (by kernel_rfl) (fun _ _ _ h => h) rfl hS7 (fun wy hy => by first | (go_simp; done) | (go_simp; rfl) | rfl) ?_
          (try simp only [Act.put]); (try simp only [List.setIfInBounds_toArray, List.set_cons_zero, List.set_cons_succ])
          refine heldStep 12 rfl (by kernel_rfl) (fun K hK => ?_)
          go_simp
          refine (Hid.out hK) _ _ ⟨HT6.out.b, HT6.out.p⟩ (fun hS8 => ?_)
          clear hK K
          (try simp only [Act.put]); (try simp only [List.setIfInBounds_toArray, List.set_cons_zero, List.set_cons_succ])
          refine heldDone (by kernel_rfl) ?_
          clear hS7 hS8 c12 f12
          go_wp2_with fail
          go_roundw
          case rel => exact ⟨i + 1, _, _, _, _, _, by omega, by go_num, HT6, ⟨by have := HN.out.1; simp; omega, HK2.out⟩, HI2.out t' HTR.out⟩
          case measure => simp [intOf]; omega
        · as_aux_lemma =>
          go_simp
          refine (HCL.out _ HTD.out).mono ?_
          rintro e w5 ⟨c, t', rfl, hc5, htr, hb5⟩
          have HTR := hide htr
          have HT5 := hide (HTD.out.next hb5)
          have HC13 := hide hc5.tin.size13
          have HON : Hid (one13 c) := ⟨HC13.out, fun x hx => by have h := hc5.tin.all1; rw [Array.all_eq_true_iff_forall_mem] at h; exact h x (by simpa using hx)⟩
          have HTZ := hide (HT5.out.next (below_alloc4 w5 (.cells c 29)))
          have HGB := hide (heap_alloc_new w5 (.cells c 29))
          have HCZ := hide (hc5.kp (Kp.of_below (below_alloc4 w5 (.cells c 29))))
          clear htr hc5 hb5
          have x12 : w5.cell? ⟨w.heap.size + 1 + 1, 12, none⟩ = some vI := blk_cell (j := 12) HT5.out.x rfl
          have x13 : (w5.alloc (.cells c 29)).cell? ⟨w.heap.size + 1 + 1, 12, none⟩ = some vI := blk_cell (j := 12) HTZ.out.x rfl
          refine (Shut.out hK) _ _ ⟨HT5.out.b, HT5.out.p⟩ (fun hS3 => ?_)
          clear hK K hS
          (try simp only [Act.put]); (try simp only [List.setIfInBounds_toArray, List.set_cons_zero, List.set_cons_succ])
          refine wpAnyH_ready (rs := [1, 9]) (by kernel_rfl) (by simp) ?_
          refine AllReadyH.cons rfl (fun K hK => ?_) (AllReadyH.cons rfl (fun K hK => ?_) AllReadyH.nil)
          · as_aux_lemma =>
            go_simp
            refine (Shut.out hK) _ _ hS3 (fun hS2 => ?_)
            clear hK K hS2 x12 x13
            (try simp only [Act.put]); (try simp only [List.setIfInBounds_toArray, List.set_cons_zero, List.set_cons_succ])
            refine heldStep 9 rfl (by kernel_rfl) (fun K hK => ?_)
            refine step_val1 rfl rfl c HC13.out rfl ?_
            refine (Hid.out hK) _ _ ⟨HTZ.out.b, HTZ.out.p⟩ (fun hS4 => ?_)
            clear hK K hS4
            (try simp only [Act.put]); (try simp only [List.setIfInBounds_toArray, List.set_cons_zero, List.set_cons_succ])
            refine heldStep 10 rfl (by kernel_rfl) (fun K hK => ?_)
            refine step_append_val rfl _ _ rfl (w.heap.size + 3) vI L.length (vfl L) rfl HTZ.out.o _ c HON.out rfl HGB.out (by have h1 := HTZ.out.n; have h2 := HN.out.1; have h3 := HML.out; omega) (by have := blk_lt HTZ.out.x; omega) (fun v6 w6 ho6 hg6 hq6 => ?_)
            obtain ⟨a6, c6, hv6⟩ := own_slice ho6
            subst hv6
            have HT6 : Hid (Tur w (w6.setCell ⟨w.heap.size + 1 + 1, 12, none⟩ (.slice a6 (L.length + 1) c6)) S cs t vy vK (.slice a6 (L.length + 1) c6) kk (ms ++ [t']) (L ++ [c])) := HTZ.out.addi HON.out HCZ.out ho6 hg6 hq6
            have hne6 : ¬ vI.ownBlock = some (w.heap.size + 2) := fun e => by have := HTZ.out.o.lt _ e; omega
            have hk6 : Kp (fun q => vI.ownBlock = some q) _ w6 := (Kp.refl _ _).grown hg6 (fun k _ e => e)
            have hx6 : w6.heap[w.heap.size + 2]? = some (.cells (vcs t vy vK vI) 29 (0, 0)) := (hk6.block _ (blk_lt HTZ.out.x) hne6).trans HTZ.out.x
            have c12 : w6.cell? ⟨w.heap.size + 1 + 1, 12, none⟩ = some vI := blk_cell (j := 12) hx6 rfl
            have f12 : w6.frozen? ⟨w.heap.size + 1 + 1, 12, none⟩ = false := blk_frozen 12 hx6
            have hS6 : S13 w cs w6 := ⟨HTZ.out.b.trans (hk6.below HTZ.out.b.size (fun q e => by have := HTZ.out.o.lt q e; omega)), (hk6.block _ (blk_lt HTZ.out.p) (fun e => by have := HTZ.out.o.lt _ e; omega)).trans HTZ.out.p⟩
            refine (Hid.out hK) _ _ hS6 (fun hS7 => ?_)
            clear hK K hg6 hq6 ho6 hx6 hS6 hne6 hk6
            (try simp only [Act.put]); (try simp only [List.setIfInBounds_toArray, List.set_cons_zero, List.set_cons_succ])
            refine heldTake 11 _ rfl (by kernel_rfl) (by kernel_rfl) (by kernel_rfl) (fun _ _ _ h => h) rfl hS7 (fun wy hy => by first | (go_simp; done) | (go_simp; rfl) | rfl) ?_
            (try simp only [Act.put]); (try simp only [List.setIfInBounds_toArray, List.set_cons_zero, List.set_cons_succ])
            refine heldStep 12 rfl (by kernel_rfl) (fun K hK => ?_)
            go_simp
            refine (Hid.out hK) _ _ ⟨HT6.out.b, HT6.out.p⟩ (fun hS8 => ?_)
            clear hK K
            (try simp only [Act.put]); (try simp only [List.setIfInBounds_toArray, List.set_cons_zero, List.set_cons_succ])
            refine heldDone (by kernel_rfl) ?_
            clear hS7 hS8 c12 f12
            go_wp2_with fail
            go_roundw
            case rel => exact ⟨i + 1, _, _, _, _, _, by omega, by go_num, HT6, ⟨by have := HN.out.1; simp; omega, HK2.out⟩, HI2.out t' HTR.out⟩
            case measure => simp [intOf]; omega
          · as_aux_lemma =>
            refine step_val1 rfl rfl c HC13.out rfl ?_
            refine (Shut.out hK) _ _ ⟨HTZ.out.b, HTZ.out.p⟩ (fun hS4 => ?_)
            clear hK K hS3
            (try simp only [Act.put]); (try simp only [List.setIfInBounds_toArray])
            refine heldStep 1 rfl (by kernel_rfl) (fun K hK => ?_)
            go_simp
            refine (Hid.out hK) _ _ hS4 (fun hS2 => ?_)
            clear hK K hS2 x12 x13 hS4
            (try simp only [Act.put]); (try simp only [List.setIfInBounds_toArray, List.set_cons_zero, List.set_cons_succ])
            refine heldStep 10 rfl (by kernel_rfl) (fun K hK => ?_)
            refine step_append_val rfl _ _ rfl (w.heap.size + 3) vI L.length (vfl L) rfl HTZ.out.o _ c HON.out rfl HGB.out (by have h1 := HTZ.out.n; have h2 := HN.out.1; have h3 := HML.out; omega) (by have := blk_lt HTZ.out.x; omega) (fun v6 w6 ho6 hg6 hq6 => ?_)
            obtain ⟨a6, c6, hv6⟩ := own_slice ho6
            subst hv6
            have HT6 : Hid (Tur w (w6.setCell ⟨w.heap.size + 1 + 1, 12, none⟩ (.slice a6 (L.length + 1) c6)) S cs t vy vK (.slice a6 (L.length + 1) c6) kk (ms ++ [t']) (L ++ [c])) := HTZ.out.addi HON.out HCZ.out ho6 hg6 hq6
            have hne6 : ¬ vI.ownBlock = some (w.heap.size + 2) := fun e => by have := HTZ.out.o.lt _ e; omega
            have hk6 : Kp (fun q => vI.ownBlock = some q) _ w6 := (Kp.refl _ _).grown hg6 (fun k _ e => e)
            have hx6 : w6.heap[w.heap.size + 2]? = some (.cells (vcs t vy vK vI) 29 (0, 0)) := (hk6.block _ (blk_lt HTZ.out.x) hne6).trans HTZ.out.x
            have c12 : w6.cell? ⟨w.heap.size + 1 + 1, 12, none⟩ = some vI := blk_cell (j := 12) hx6 rfl
            have f12 : w6.frozen? ⟨w.heap.size + 1 + 1, 12, none⟩ = false := blk_frozen 12 hx6
            have hS6 : S13 w cs w6 := ⟨HTZ.out.b.trans (hk6.below HTZ.out.b.size (fun q e => by have := HTZ.out.o.lt q e; omega)), (hk6.block _ (blk_lt HTZ.out.p) (fun e => by have := HTZ.out.o.lt _ e; omega)).trans HTZ.out.p⟩
            refine (Hid.out hK) _ _ hS6 (fun hS7 => ?_)
            clear hK K hg6 hq6 ho6 hx6 hS6 hne6 hk6
            (try simp only [Act.put]); (try simp only [List.setIfInBounds_toArray, List.set_cons_zero, List.set_cons_succ])
            refine heldTake 11 _ rfl (by kernel_rfl) (by kernel_rfl) (by kernel_rfl) (fun _ _ _ h => h) rfl hS7 (fun wy hy => by first | (go_simp; done) | (go_simp; rfl) | rfl) ?_
            (try simp only [Act.put]); (try simp only [List.setIfInBounds_toArray, List.set_cons_zero, List.set_cons_succ])
            refine heldStep 12 rfl (by kernel_rfl) (fun K hK => ?_)
            go_simp
            refine (Hid.out hK) _ _ ⟨HT6.out.b, HT6.out.p⟩ (fun hS8 => ?_)
            clear hK K
            (try simp only [Act.put]); (try simp only [List.setIfInBounds_toArray, List.set_cons_zero, List.set_cons_succ])
            refine heldDone (by kernel_rfl) ?_
            clear hS7 hS8 c12 f12
            go_wp2_with fail
            go_roundw
            case rel => exact ⟨i + 1, _, _, _, _, _, by omega, by go_num, HT6, ⟨by have := HN.out.1; simp; omega, HK2.out⟩, HI2.out t' HTR.out⟩
            case measure => simp [intOf]; omega
    · as_aux_lemma =>
      have g1 : ¬ (i : Int) < (t.is.length : Int) := by omega
      have hie : i = t.is.length := by omega
      have HV1 : Hid (∀ j u, (vcs t vy vK vI)[j]? = some u → wr.cell? ⟨w.heap.size + 1 + 1, 0 + j, none⟩ = some u) := fun j u hu => by rw [Nat.zero_add]; exact blk_cell HT.out.x hu
      have HRR : Hid (wr.heap[w.heap.size + 1]? = some (.cells zv 29 (0, 0))) := HT.out.r
      have hkr := row_kp wr (w.heap.size + 1) (vcs t vy vK vI)
      have HEN : Hid ((wr.setRow (w.heap.size + 1) (vcs t vy vK vI)).heap[w.heap.size + 1]? = some (.cells (vcs t vy vK vI) 29 (0, 0))) := row_same HRR.out
      have hbs := HT.out.b.size
      have HBZ : Hid (Below w.heap.size w (wr.setRow (w.heap.size + 1) (vcs t vy vK vI))) := HT.out.b.trans (hkr.below hbs (fun q e => by omega))
      obtain ⟨t', ht'⟩ : ∃ t', t' = Tv.mk t.k t.f t.g t.n t.b t.s t.y t.l kk ms := ⟨_, rfl⟩
      have HTR : Hid (Trn t t') := by
        subst ht'
        by_cases h9 : t.k = 9
        · refine Trn.map t _ (trp n t.is.length) h9 ⟨rfl, rfl, rfl, rfl, rfl, rfl, rfl, rfl⟩ (trp_perm n _) ?_ ?_ ?_
          · show kk = _
            have h1 := HN.out.2
            rw [if_pos h9, hie] at h1
            rw [h1]
            unfold trp
            rw [HPL.out]
            simp only [if_pos h9]
          · show ms.length = _
            rw [HN.out.1, hie]
          · intro j p u v hp hu hv
            have hjl := (List.getElem?_eq_some_iff.1 hp).1
            rw [perm_len (trp_perm n _)] at hjl
            rw [trp_at hjl] at hp
            injection hp with hp
            refine HI.out j u v (by omega) ?_ hv
            rw [HPL.out]
            simp only [if_pos h9]
            rw [hp]
            exact hu
        · refine Trn.rest t _ h9 ⟨rfl, rfl, rfl, rfl, rfl, rfl, rfl, rfl⟩ ?_ ?_ ?_
          · show kk = t.ks
            have h1 := HN.out.2
            rw [if_neg h9] at h1
            rw [h1, HTK.out.e h9]
          · show ms.length = _
            rw [HN.out.1, hie]
          · intro j u v hu hv
            have hjl := (List.getElem?_eq_some_iff.1 hu).1
            refine HI.out j u v (by omega) ?_ hv
            rw [HPL.out]
            simp only [if_neg h9]
            exact hu
      have HTS : Hid (Tis (wr.setRow (w.heap.size + 1) (vcs t vy vK vI)) S t' (vcs t vy vK vI)) := by
        subst ht'
        refine HT.out.tis HBD.out HBY.out HYS.out HSS.out hkr ?_ ?_ ?_
        · intro s hs
          have h1 := HN.out.2
          by_cases h9 : t.k = 9
          · rw [if_pos h9] at h1
            rw [h1] at hs
            obtain ⟨p, hp, rfl⟩ := List.mem_map.1 hs
            by_cases hpl : p < t.ks.length
            · exact HKZ.out _ (by simp [List.getD, List.getElem?_eq_getElem hpl])
            · rw [List.getD_eq_getElem?_getD, List.getElem?_eq_none (by omega)]
              decide
          · rw [if_neg h9] at h1
            rw [h1] at hs
            simp at hs
        · have h1 := HN.out.2
          have h2 := HML.out
          by_cases h9 : t.k = 9
          · rw [if_pos h9] at h1
            rw [h1, pickS_len]
            simp
            omega
          · rw [if_neg h9] at h1
            rw [h1]
            simp
        · have := HN.out.1
          omega
      have HAL : Hid ((vcs t vy vK vI).all (·.oneCell') = true) := HTS.out.tin.all1
      clear hie HI hkr hbs ht'
      go_wp2_with (first
        | (refine wpList_valAt rfl rfl (w.heap.size + 1 + 1) 0 (vcs t vy vK vI) rfl rfl HV1.out ?_)
        | (refine wpList_storeRow rfl rfl (w.heap.size + 1) zv (vcs t vy vK vI) 29 rfl rfl HRR.out infoV rfl HAL.out ?_))
      exact bodyPost_ret (end_tu rfl HEN.out rfl) rfl ⟨_, rfl, t', HTS.out, HTR.out, HBZ.out⟩
theorem turned_any (n : Nat) (hn : n ≤ 1000) (t : Tv) : TurC n t := by
  have h : ∀ N, ∀ t : Tv, SizeOf.sizeOf t = N → TurC n t := by
    intro N
    induction N using Nat.strongRecOn with
    | _ N ih => exact fun t hN => turned_step n hn t (fun u hu => ih _ (by rw [← hN]; exact Tv.is_lt hu) u rfl)
  exact h _ t rfl
end
section
open Go.RowKit Go
/-- The keys of each map rise. -/
inductive Rise : Tv → Prop
  | mk (t : Tv) (hk : ∀ (i : Nat) (s s' : ByteArray), t.ks[i]? = some s → t.ks[i + 1]? = some s' → bfr (sl s) (sl s') = true) (hi : ∀ u ∈ t.is, Rise u) : Rise t
theorem Rise.k {t : Tv} (h : Rise t) : ∀ (i : Nat) (s s' : ByteArray), t.ks[i]? = some s → t.ks[i + 1]? = some s' → bfr (sl s) (sl s') = true := by
  cases h with
  | mk _ a b => exact a
theorem Rise.i {t : Tv} (h : Rise t) : ∀ u ∈ t.is, Rise u := by
  cases h with
  | mk _ a b => exact b
theorem bfr_asym6 {x y : List Nat} (h : bfr x y = true) : bfr y x = false := by
  rcases Bool.eq_false_or_eq_true (bfr y x) with h2 | h2
  · have := bfr_tr _ _ _ h h2
    rw [bfr_self] at this
    exact absurd this (by simp)
  · exact h2
theorem srt_rise {t s : Tv} (h : SrtR t s) : Trk t → Rise s := by
  induction h with
  | rest t s h9 hT hk hn hi ih =>
    intro ht
    refine Rise.mk s (fun i a b ha => ?_) fun v hv => ?_
    · rw [hk, ht.e h9] at ha
      simp at ha
    · obtain ⟨i, hv⟩ := List.getElem?_of_mem hv
      have hl := (List.getElem?_eq_some_iff.1 hv).1
      have e := List.getElem?_eq_getElem (show i < t.is.length by omega)
      exact ih i _ _ e hv (ht.i _ (List.mem_of_getElem? e))
  | map t s ps h9 hT hp hk hn hi ih =>
    intro ht
    obtain ⟨hlen, hnd, _⟩ := ht.m h9
    have hpl := hp.len
    refine Rise.mk s (fun i a b ha hb => ?_) fun v hv => ?_
    · have hbl := (List.getElem?_eq_some_iff.1 hb).1
      rw [hk, pickS_len] at hbl
      have e1 := List.getElem?_eq_getElem (show i < ps.length by omega)
      have e2 := List.getElem?_eq_getElem hbl
      rw [hk, pickS_at e1] at ha
      rw [hk, pickS_at e2] at hb
      injection ha with ha
      injection hb with hb
      subst ha hb
      have h1 := hp.s i (i + 1) _ _ (by omega) e1 e2
      rcases Bool.eq_false_or_eq_true (bfr (sl (t.ks.getD ps[i] ⟨#[]⟩)) (sl (t.ks.getD ps[i + 1] ⟨#[]⟩))) with h2 | h2
      · exact h2
      · have e := sl_inj (bfr_tot h2 h1)
        have l1 := hp.lt _ (List.mem_of_getElem? e1)
        have l2 := hp.lt _ (List.mem_of_getElem? e2)
        have h3 := nodup_at hnd (by omega) (by omega) e
        have hn2 : ps.Nodup := hp.p.nodup_iff.2 List.nodup_range
        have := (List.getElem_inj hn2).1 h3
        omega
    · obtain ⟨i, hv⟩ := List.getElem?_of_mem hv
      have hl := (List.getElem?_eq_some_iff.1 hv).1
      have e0 := List.getElem?_eq_getElem (show i < ps.length by omega)
      have hlt := perm_lt hp.p e0
      have e := List.getElem?_eq_getElem (show ps[i] < t.is.length by omega)
      exact ih i _ _ _ e0 e hv (ht.i _ (List.mem_of_getElem? e))
def RisC (t : Tv) : Prop := ∀ (w : World) (cs : Array Value), Tin w t cs → Rise t → Calls Tryd.prog 17 #[.agg cs] w fun e w' => e = .returned (.bool true) ∧ Below w.heap.size w w'
set_option maxRecDepth 1000000 in
set_option maxHeartbeats 2000000 in
theorem rising_step (t : Tv) (ih : ∀ u ∈ t.is, RisC u) : RisC t := by
  intro w cs ht hr
  have HIH := hide ih
  have HRK := hide hr.k
  have HRI := hide hr.i
  clear ih hr
  obtain ⟨vy, vk, vi, rfl, hy, hk, hv, hb⟩ := ht.parts
  obtain ⟨⟨ak, ck, rfl, _, hkf⟩, hkm, _⟩ := hk
  obtain ⟨⟨ai, ci, rfl, _, hfi⟩, hmi⟩ := hv
  have HKF := hide hkf
  have HFI := hide hfi
  have HC11 : Hid ((vcs t vy (.slice ak t.ks.length ck) (.slice ai t.is.length ci))[11]? = some (.slice ak t.ks.length ck)) := rfl
  have HC12 : Hid ((vcs t vy (.slice ak t.ks.length ck) (.slice ai t.is.length ci))[12]? = some (.slice ai t.is.length ci)) := rfl
  generalize vcs t vy (.slice ak t.ks.length ck) (.slice ai t.is.length ci) = cs at *
  clear ht hy hkf hfi hb
  have HQ0 : Hid (Aln w (w.alloc (.cells cs 29)) cs) := box_mk0 w _
  go_enter Tryd.func17, Tryd.ntmps17
  go_wp2_with fail
  generalize w.alloc (.cells cs 29) = w1 at *
  go_loopw [3] (fun ii wx => ∃ k : Nat, k ≤ t.ks.length ∧ ii = .int .i64 ((k : Int) + 1) ∧ Hid (Aln w wx cs)) (fun ii _ => t.ks.length + 1 - (intOf ii).toNat)
  case atStart => exact ⟨0, by omega, rfl, HQ0⟩
  case round =>
    obtain ⟨k, hk1, rfl, HQ⟩ := hrel
    clear HQ0
    have x1 : wr.cell? ⟨w.heap.size, 11, none⟩ = some (.slice ak t.ks.length ck) := blk_cell HQ.out.2 HC11.out
    by_cases hlt : k + 1 < t.ks.length
    · as_aux_lemma =>
      have g1 : (k : Int) + 1 < (t.ks.length : Int) := by omega
      have g3 : (k : Int) < (t.ks.length : Int) := by omega
      obtain ⟨s, hs⟩ : ∃ s, t.ks[k]? = some s := ⟨t.ks[k], List.getElem?_eq_getElem (by omega)⟩
      obtain ⟨s', hs'⟩ : ∃ s, t.ks[k + 1]? = some s := ⟨t.ks[k + 1], List.getElem?_eq_getElem hlt⟩
      obtain ⟨b, off, rfl, hc⟩ := HKF.out.resolve_left (fun h => by rw [h] at hlt; simp at hlt)
      have hb1 := HRK.out k s s' hs hs'
      have HB1 : Hid (∀ t' : Ext wr, Calls Tryd.prog 23 #[.string s, .string s'] t'.w' fun e w'' => e = .returned (.bool true) ∧ ∃ t2 : Ext wr, w'' = t2.w') := fun t' => by
        have h := before_any s s' t'.w'
        rw [hb1] at h
        exact Calls.ext_same h
      have HB2 : Hid (∀ t' : Ext wr, Calls Tryd.prog 23 #[.string s', .string s] t'.w' fun e w'' => e = .returned (.bool false) ∧ ∃ t2 : Ext wr, w'' = t2.w') := fun t' => by
        have h := before_any s' s t'.w'
        rw [bfr_asym6 hb1] at h
        exact Calls.ext_same h
      have c1 : ∀ t' : Ext wr, t'.w'.cell? ⟨b, off + k, none⟩ = some (.string s) := fun t' => keep_below t'.h _ _ (keep_below HQ.out.1 _ _ (hc k s hs))
      have c2 : ∀ t' : Ext wr, t'.w'.cell? ⟨b, off + (k + 1), none⟩ = some (.string s') := fun t' => keep_below t'.h _ _ (keep_below HQ.out.1 _ _ (hc (k + 1) s' hs'))
      have x2 : ∀ t' : Ext wr, t'.w'.cell? ⟨w.heap.size, 11, none⟩ = some (.slice (some ⟨b, off, none⟩) t.ks.length ck) := fun t' => Ext.cell (blk_cell HQ.out.2 HC11.out) t'
      have g6 : (0 : Int) ≤ (k : Int) + 1 := by omega
      have wk : IntKind.i64.wrap (k : Int) = (k : Int) := by rw [IntKind.wrap_i64]; omega
      clear hs hs' hc hb1
      go_wp2_with fail
      refine region_ext (by kernel_rfl) (by kernel_rfl) ?_
      repeat (
        with_reducible refine wpQuiet_step (fun K hK => ?_)
        go_simp
        first
          | (with_reducible refine hK _ ?_; clear hK K)
          | (apply Exists.intro
             refine ⟨fun _ => ?_, hK _ ?_⟩
             (first
               | (go_at_call 23; with_reducible exact HB1.out _)
               | (go_at_call 23; with_reducible exact HB2.out _))
             clear hK K))
      refine wpQuiet_nil ?_
      rintro _ ⟨tq, rfl⟩
      have HQN := hide (HQ.out.next tq.h)
      clear c1 c2 x2 HB1 HB2
      go_wp2_with fail
      go_roundw
      case rel => exact ⟨k + 1, by omega, by go_num, HQN⟩
      case measure => simp [intOf]; omega
    · have g1 : ¬ (k : Int) + 1 < (t.ks.length : Int) := by omega
      go_wp2_with fail
      go_loopw [4] (fun ii wx => ∃ i : Nat, i ≤ t.is.length ∧ ii = .int .i64 (i : Nat) ∧ Hid (Aln w wx cs)) (fun ii _ => t.is.length - (intOf ii).toNat)
      case atStart => exact ⟨0, by omega, rfl, HQ⟩
      case round =>
        rename World => wz
        obtain ⟨i, hi, rfl, HQ2⟩ := hrel
        clear HQ x1
        have x1 : wz.cell? ⟨w.heap.size, 12, none⟩ = some (.slice ai t.is.length ci) := blk_cell HQ2.out.2 HC12.out
        by_cases hli : i < t.is.length
        · as_aux_lemma =>
          have g5 : (i : Int) < (t.is.length : Int) := by omega
          obtain ⟨u, hu⟩ : ∃ u, t.is[i]? = some u := ⟨t.is[i], List.getElem?_eq_getElem hli⟩
          obtain ⟨b, off, rfl, hcells⟩ := HFI.out.resolve_left (fun h => by rw [h] at hli; simp at hli)
          obtain ⟨cu, tu, hcu⟩ := hcells i u hu
          have HCC : Hid (∀ j v, cu[j]? = some v → wz.cell? ⟨b, off + i * 13 + j, none⟩ = some v) := fun j v hv => keep_below HQ2.out.1 _ _ (hcu j v hv)
          have HZ1 := hide tu.size13
          have HCA := hide (HIH.out u (List.mem_of_getElem? hu) wz cu (tu.move (keep_below HQ2.out.1)) (HRI.out u (List.mem_of_getElem? hu)))
          clear hu hcells tu hcu
          go_wp2_with (refine wpList_valAt rfl rfl b (off + i * 13) cu rfl HZ1.out HCC.out ?_)
          refine HCA.out.mono ?_
          rintro e w5 ⟨rfl, hb5⟩
          have HQ5 := hide (HQ2.out.next hb5)
          clear hb5 HQ2 HCC HCA x1
          go_wp2_with fail
          go_roundw
          case rel => exact ⟨i + 1, by omega, by go_num, HQ5⟩
          case measure => simp [intOf]; omega
        · as_aux_lemma =>
          have g5 : ¬ (i : Int) < (t.is.length : Int) := by omega
          go_wp2_with fail
          go_ret
          exact ⟨rfl, HQ2.out.1⟩
theorem rising_any (t : Tv) : RisC t := by
  have h : ∀ N, ∀ t : Tv, SizeOf.sizeOf t = N → RisC t := by
    intro N
    induction N using Nat.strongRecOn with
    | _ N ih => exact fun t hN => rising_step t (fun u hu => ih _ (by rw [← hN]; exact Tv.is_lt hu) u rfl)
  exact h _ t rfl
end
section
open Go.RowKit Go
theorem lthird_bad {v : Int} {c a : Nat} {b : List Nat} (h : (lthird v c a b).2.2 ≠ 0) : (lthird v c a b).1 = Lk.none ∧ (lthird v c a b).2.1 = 0 := by
  unfold lthird at h ⊢
  split
  · rename_i h0
    rw [if_pos h0] at h
    exact absurd rfl h
  · exact ⟨rfl, rfl⟩
theorem lfirst_bad {b : List Nat} (h : (lfirst b).2.2 ≠ 0) : (lfirst b).1 = Lk.none ∧ (lfirst b).2.1 = 0 := by
  unfold lfirst at h ⊢
  split
  · rename_i h0
    rw [if_pos h0] at h
    exact lthird_bad h
  · rename_i h0
    rw [if_neg h0] at h
    split
    · exact ⟨rfl, rfl⟩
    · rename_i h1
      rw [if_neg h1] at h
      split
      · exact ⟨rfl, rfl⟩
      · rename_i h2
        rw [if_neg h2] at h
        split
        · exact ⟨rfl, rfl⟩
        · rename_i h3
          rw [if_neg h3] at h
          exact lthird_bad h
theorem lbytes_d {l : Lk} {b : List Nat} (hb : ∀ x ∈ b, x < 256) (e : lbytes l = b) : ∀ x ∈ l.d, x < 256 := fun x hx => hb x (by
  rw [← e]
  unfold lbytes
  split
  · simp [hx]
  · simp [hx])
theorem lok_lkb {l : Lk} (h : lok l) (hd : ∀ x ∈ l.d, x < 256) : Lkb l := by
  have hk := lok_okd h
  unfold okd at hk
  refine ⟨?_, by omega, hd, by omega⟩
  rcases h with h | h
  · omega
  · omega
theorem lparsetext_bad {s : List Nat} (h : (lparsetext s).2 ≠ 0) : (lparsetext s).1 = Lk.none := by
  unfold lparsetext at h ⊢
  split
  · rfl
  · rename_i h1
    rw [if_neg h1] at h
    split
    · rfl
    · rename_i h2
      rw [if_neg h2] at h
      cases ht : ltake s with
      | none => rfl
      | some p =>
        obtain ⟨v, b⟩ := p
        rw [ht] at h
        simp only at h ⊢
        split
        · rfl
        · rename_i h3
          rw [if_neg h3] at h
          split
          · rfl
          · rename_i h4
            rw [if_neg h4] at h
            exact absurd rfl h
/-- Whether one of the first texts is this one. -/
def fnd (l : Lk) (s : List Nat) : Nat → Bool
  | 0 => decide ((lttx l).1 = s)
  | k + 1 => fnd l s k || (decide ((ltin l ((k + 1 : Nat) : Int)).2 = 0) && decide ((ltin l ((k + 1 : Nat) : Int)).1 = s))
theorem fnd_mono {l : Lk} {s : List Nat} {k : Nat} (h : fnd l s k = true) : ∀ m, fnd l s (k + m) = true
  | 0 => h
  | m + 1 => by
    show (fnd l s (k + m) || _) = true
    rw [fnd_mono h m]
    rfl
theorem fnd_all {l : Lk} {s : List Nat} (h : lparsetext s = (l, 0)) : fnd l s 3 = true := by
  obtain ⟨hk, hd, h1 | ⟨hv, base, hb1, hb3, hs⟩⟩ := lparsetext_back h
  · have e : fnd l s 0 = true := by
      show decide ((lttx l).1 = s) = true
      unfold lttx
      rw [if_pos hk, h1]
      simp
    exact fnd_mono e 3
  · have hv0 : l.v ≠ 0 := by omega
    have e : fnd l s base = true := by
      obtain ⟨k, rfl⟩ : ∃ k, base = k + 1 := ⟨base - 1, by omega⟩
      show (fnd l s k || (decide ((ltin l ((k + 1 : Nat) : Int)).2 = 0) && decide ((ltin l ((k + 1 : Nat) : Int)).1 = s))) = true
      rw [ltin_text hk hv0 (n := k + 1) (by omega), hs]
      simp
    have : fnd l s (base + (3 - base)) = true := fnd_mono e _
    have e2 : base + (3 - base) = 3 := by omega
    rwa [e2] at this
theorem eq_str {xs : List Nat} (hx : ∀ x ∈ xs, x < 256) (s : ByteArray) : ((nstr xs).toList == s.toList) = decide (xs = sl s) := by
  have e : s = nstr (sl s) := (nstr_sl s).symm
  by_cases h : xs = sl s
  · rw [h, nstr_sl]
    simp
  · rw [decide_eq_false h, beq_eq_false_iff_ne]
    intro h2
    rw [e] at h2
    exact h (nstr_inj hx (sl_byte s) h2)
theorem lttx_byte {l : Lk} : ∀ x ∈ (lttx l).1, x < 256 := by
  unfold lttx
  split
  · intro x hx
    simp only at hx
    unfold ltext at hx
    split at hx
    · have h := btext_byte b58 (lbytes l)
      rw [btext58] at h
      exact h x hx
    · have h := btext_byte b32 (lbytes l)
      rw [btext32] at h
      unfold ltextin at hx
      rw [if_neg (by decide), if_pos rfl] at hx
      rcases List.mem_cons.1 hx with e | e
      · omega
      · exact h x e
  · simp
theorem ltin_byte {l : Lk} {n : Int} : ∀ x ∈ (ltin l n).1, x < 256 := by
  unfold ltin
  split
  · split
    · simp
    · intro x hx
      rcases List.mem_append.1 hx with e | e
      · exact sl_byte _ x e
      · exact btext_byte _ _ x e
  · simp
/-- What the second half of LinkOne has in hand is what the first has. -/
theorem zlk_none : lcs Lk.none = #[.int .i64 0, .int .u64 0, .int .u64 0, .string ⟨#[]⟩] := rfl
end
section
open Go.RowKit Go
theorem qstep_nelk {C : World → Prop} {ops : Array Oper} {o : Oper} {a : Act} {K : Act → Prop} {x y : Operand} {T2 : TypeId} (hgd : Region.wanted o (yielded ops a.tmps) = true) (ho : o.op = .binOp .neq 25 x y T2) (A B : Array Value) (r : Bool)
    (hx : a.eval x = .agg A) (hy : a.eval y = .agg B) (he : ∀ w, C w → (Op.equalIn 10000 25 (.agg A) (.agg B)).run Tryd.prog w = .ok r w)
    (h : K (a.put o.dst (.bool (!r)))) : if Region.wanted o (yielded ops a.tmps) = true then o.quiet Tryd.prog a C K else K (a.put o.dst undef) := by
  rw [if_pos hgd]
  refine ⟨.bool (!r), fun w hC => ?_, h⟩
  unfold Oper.quietAt
  rw [exec_nelk ho hx hy (he w hC)]
  exact ⟨rfl, rfl⟩
theorem ltext_first {l : Lk} (h : lok l) (hd : ∀ x ∈ l.d, x < 256) : (ltext l).getD 0 0 = if l.v = 0 then 81 else 98 := by
  by_cases hv : l.v = 0
  · obtain ⟨s, e⟩ := of58_old h hv hd
    unfold ltext
    rw [if_pos hv, if_pos hv, e]
    rfl
  · unfold ltext
    rw [if_neg hv, if_neg hv]
    rfl
theorem ltextin_first (l : Lk) (n : Nat) (hn : n = 1 ∨ n = 2 ∨ n = 3) : (ltextin l n).getD 0 0 = if n = 1 then 102 else if n = 2 then 98 else 122 := by
  rcases hn with rfl | rfl | rfl <;> rfl
theorem ltext_pos {l : Lk} (h : lok l) (hd : ∀ x ∈ l.d, x < 256) : 0 < (ltext l).length := by
  have := ltext_first h hd
  cases ht : ltext l with
  | nil => rw [ht] at this; simp at this; split at this <;> omega
  | cons x r => simp
theorem ltextin_pos (l : Lk) (n : Nat) : 0 < (ltextin l n).length := by
  unfold ltextin
  split
  · simp
  · split
    · simp
    · simp
theorem ltext_byte {l : Lk} (h : lok l) : ∀ x ∈ ltext l, x < 256 := by
  have := lttx_byte (l := l)
  unfold lttx at this
  rw [if_pos h] at this
  exact this
theorem ltextin_byte {l : Lk} (h : lok l) (hv : l.v ≠ 0) {n : Nat} (hn : n = 1 ∨ n = 2 ∨ n = 3) : ∀ x ∈ ltextin l n, x < 256 := by
  have := ltin_byte (l := l) (n := (n : Nat))
  rw [ltin_text h hv hn] at this
  exact this
end
section
open Go.RowKit Go
/-- A slice of links, plainly. -/
structure LSl (w : World) (v : Value) (ls : List Lk) : Prop where
  form : ∃ a cap, v = .slice a ls.length cap ∧ (ls.length ≤ cap ∧ (a = none → cap = 0)) ∧ (ls = [] ∨ ∃ b off, a = some ⟨b, off, none⟩ ∧ ∀ i l, ls[i]? = some l → ∀ j u, (lcs l)[j]? = some u → w.cell? ⟨b, off + i * 4 + j, none⟩ = some u)
  max : ls.length ≤ 140737488351232
  bd : ∀ l ∈ ls, Lkb l
theorem LSl.move {w w' : World} {v : Value} {ls : List Lk} (h : LSl w v ls) (hm : ∀ p u, w.cell? p = some u → w'.cell? p = some u) : LSl w' v ls := by
  obtain ⟨⟨a, c, hv, hn, hc⟩, h1, h2⟩ := h
  refine ⟨⟨a, c, hv, hn, ?_⟩, h1, h2⟩
  rcases hc with hc | ⟨b, off, ha, hc⟩
  · exact .inl hc
  · exact .inr ⟨b, off, ha, fun i l hi j u hj => hm _ _ (hc i l hi j u hj)⟩
set_option maxRecDepth 1000000 in
set_option maxHeartbeats 400000 in
theorem eqLinks_any {w : World} {v u : Value} {ks ls : List Lk} (hv : LSl w v ks) (hu : LSl w u ls) :
    Calls Tryd.prog 14 #[v, u] w fun e w' => e = .returned (.bool (decide (ks = ls))) ∧ Below w.heap.size w w' := by
  generalize hR : decide (ks = ls) = R
  have HR := hide hR
  clear hR
  obtain ⟨⟨av, cv, rfl, _, hf⟩, hkm, hkb⟩ := hv
  obtain ⟨⟨au, cu, rfl, _, hg⟩, hlm, hlb⟩ := hu
  have HKB := hide hkb
  have HLB := hide hlb
  clear hkb hlb
  have HF := hide hf
  have HG := hide hg
  clear hf hg
  by_cases hl : ks.length = ls.length
  · have g0 : ((ks.length : Int) != (ls.length : Int)) = false := by rw [nat_ne]; simp [hl]
    have HL := hide hl
    clear hl
    go_enter Tryd.func14, Tryd.ntmps14
    go_wp2_with fail
    go_loopw [5] (fun ii wx => ∃ i : Nat, i ≤ ks.length ∧ ii = .int .i64 (i : Nat) ∧ Hid (∀ j, j < i → ks[j]? = ls[j]?) ∧ Hid (Below w.heap.size w wx)) (fun ii _ => ks.length - (intOf ii).toNat)
    case atStart => exact ⟨0, by omega, rfl, fun j hj => absurd hj (by omega), Below.refl _ _⟩
    case round =>
      obtain ⟨i, hi, rfl, HI, HBw⟩ := hrel
      by_cases hlt : i < ks.length
      · have g1 : (i : Int) < (ks.length : Int) := by omega
        have hlt2 : i < ls.length := by rw [← HL.out]; exact hlt
        have g2 : (i : Int) < (ls.length : Int) := by omega
        obtain ⟨s, hs⟩ : ∃ s, ks[i]? = some s := ⟨ks[i], List.getElem?_eq_getElem hlt⟩
        obtain ⟨t, ht⟩ : ∃ s, ls[i]? = some s := ⟨ls[i], List.getElem?_eq_getElem hlt2⟩
        obtain ⟨b, off, rfl, hcc⟩ := HF.out.resolve_left (fun h => by rw [h] at hlt; simp at hlt)
        obtain ⟨b2, off2, rfl, hcd⟩ := HG.out.resolve_left (fun h => by rw [h] at hlt2; simp at hlt2)
        have HQ1 : Hid (∀ wx, (∃ x : Ext wr, wx = x.w') → ∀ j x, (lcs s)[j]? = some x → wx.cell? ⟨b, off + i * 4 + j, none⟩ = some x) := by
          rintro _ ⟨y, rfl⟩ j x hx
          exact keep_below y.h _ _ (keep_below HBw.out _ _ (hcc i s hs j x hx))
        have HQ2 : Hid (∀ wx, (∃ x : Ext wr, wx = x.w') → ∀ j x, (lcs t)[j]? = some x → wx.cell? ⟨b2, off2 + i * 4 + j, none⟩ = some x) := by
          rintro _ ⟨y, rfl⟩ j x hx
          exact keep_below y.h _ _ (keep_below HBw.out _ _ (hcd i t ht j x hx))
        have HEQ : Hid (∀ wx : World, (Op.equalIn 10000 25 (.agg (lcs s)) (.agg (lcs t))).run Tryd.prog wx = .ok (decide (s = t)) wx) := fun wx => eqlk wx (HKB.out s (List.mem_of_getElem? hs)).d (HLB.out t (List.mem_of_getElem? ht)).d
        clear hcc hcd HF HG
        by_cases he : s = t
        · as_aux_lemma =>
          rw [decide_eq_true he] at HEQ
          have HI2 : Hid (∀ j, j < i + 1 → ks[j]? = ls[j]?) := fun j hj => by
            by_cases hji : j = i
            · rw [hji, hs, ht, he]
            · exact HI.out j (by omega)
          clear he hs ht HI
          go_wp2_with fail
          refine region_ext (by kernel_rfl) (by kernel_rfl) ?_
          repeat (
            refine wpQuiet_step (fun K hK => ?_)
            first
              | (refine qstep_lkAt rfl rfl b (off + i * 4) s rfl HQ1.out (hK _ ?_); clear hK K)
              | (refine qstep_lkAt rfl rfl b2 (off2 + i * 4) t rfl HQ2.out (hK _ ?_); clear hK K)
              | (refine qstep_nelk rfl rfl (lcs s) (lcs t) true rfl rfl (fun wx _ => HEQ.out wx) (hK _ ?_); clear hK K)
              | (go_simp
                 refine hK _ ?_; clear hK K))
          refine wpQuiet_nil ?_
          rintro _ ⟨tq, rfl⟩
          have HB2 : Hid (Below w.heap.size w tq.w') := HBw.out.trans (tq.h.mono HBw.out.size)
          go_wp2_with fail
          go_roundw
          case rel => exact ⟨i + 1, by omega, by go_num, HI2, HB2⟩
          case measure => simp [intOf]; omega
        · as_aux_lemma =>
          rw [decide_eq_false he] at HEQ
          have HN : Hid (ks ≠ ls) := fun h => by
            rw [h, ht] at hs
            exact he (Option.some.inj hs).symm
          clear he hs ht HI
          go_wp2_with fail
          refine region_ext (by kernel_rfl) (by kernel_rfl) ?_
          repeat (
            refine wpQuiet_step (fun K hK => ?_)
            first
              | (refine qstep_lkAt rfl rfl b (off + i * 4) s rfl HQ1.out (hK _ ?_); clear hK K)
              | (refine qstep_lkAt rfl rfl b2 (off2 + i * 4) t rfl HQ2.out (hK _ ?_); clear hK K)
              | (refine qstep_nelk rfl rfl (lcs s) (lcs t) false rfl rfl (fun wx _ => HEQ.out wx) (hK _ ?_); clear hK K)
              | (go_simp
                 refine hK _ ?_; clear hK K))
          refine wpQuiet_nil ?_
          rintro _ ⟨tq, rfl⟩
          have HB2 : Hid (Below w.heap.size w tq.w') := HBw.out.trans (tq.h.mono HBw.out.size)
          go_wp2_with fail
          go_ret
          exact ⟨by rw [← HR.out, decide_eq_false HN.out]; rfl, HB2.out⟩
      · as_aux_lemma =>
        have g1 : ¬ (i : Int) < (ks.length : Int) := by omega
        have HN : Hid (ks = ls) := List.ext_getElem? fun j => by
          by_cases hj : j < i
          · exact HI.out j hj
          · rw [List.getElem?_eq_none (by omega), List.getElem?_eq_none (by rw [← HL.out]; omega)]
        go_wp2_with fail
        go_ret
        exact ⟨by rw [← HR.out, decide_eq_true HN.out]; rfl, HBw.out⟩
  · as_aux_lemma =>
    have g0 : ((ks.length : Int) != (ls.length : Int)) = true := by rw [nat_ne]; simp [hl]
    have HN : Hid (ks ≠ ls) := fun h => hl (by rw [h])
    clear hl HF HG
    go_enter Tryd.func14, Tryd.ntmps14
    go_wp2_with fail
    go_ret
    exact ⟨by rw [← HR.out, decide_eq_false HN.out]; rfl, Below.refl _ _⟩
end
section
open Go.RowKit Go
theorem LSl.own {w : World} {B n : Nat} {v : Value} {ls : List Lk} (h : w.ownsRow B 25 4 v n (fcl ls)) (hn : n = ls.length) (hm : ls.length ≤ 140737488351232) (hb : ∀ l ∈ ls, Lkb l) : LSl w v ls := by
  subst hn
  rcases id h.2 with ⟨hv, he⟩ | ⟨g, cap, cur, hv, _, _, h1, _⟩
  · subst hv
    have e : ls = [] := List.length_eq_zero_iff.1 he
    subst e
    exact ⟨⟨none, 0, rfl, ⟨by simp, fun _ => rfl⟩, .inl rfl⟩, hm, hb⟩
  · subst hv
    refine ⟨⟨_, cap, rfl, ⟨by omega, fun h => by cases h⟩, .inr ⟨g, 0, rfl, fun i l hl j u hu => ?_⟩⟩, hm, hb⟩
    have := h.cells (g := g) rfl (i * 4 + j) u (fcl_get ls i l j u hl hu)
    have hadd : (⟨g, 0, none⟩ : Addr).add (i * 4 + j) = ⟨g, i * 4 + j, none⟩ := by unfold Addr.add; split <;> simp_all
    rw [hadd] at this
    rw [Nat.zero_add]
    exact this
theorem lnkf_bd {w : World} (t : Tv) : ∀ c, Tin w t c → ∀ l ∈ lnkf t, Lkb l := by
  have key : ∀ N, ∀ t : Tv, SizeOf.sizeOf t = N → ∀ c, Tin w t c → ∀ l ∈ lnkf t, Lkb l := by
    intro N
    induction N using Nat.strongRecOn with
    | _ N ih =>
      intro t hN c ht l hl
      obtain ⟨vy, vk, vi, rfl, _, _, hv, hb⟩ := ht.parts
      by_cases h7 : t.k = 7
      · rw [lnkf_7 h7, List.mem_singleton] at hl
        rw [hl]
        exact hb.l
      · by_cases h8 : t.k = 8 ∨ t.k = 9
        · rw [lnkf_n h7 h8] at hl
          obtain ⟨p, _, hp⟩ := List.mem_flatMap.1 hl
          by_cases hpl : p < t.is.length
          · have e := List.getElem?_eq_getElem hpl
            rw [lnx_at e] at hp
            obtain ⟨⟨a, cap, hva, _, hform⟩, _⟩ := hv
            obtain ⟨b, off, _, hc⟩ := hform.resolve_left (fun h => by rw [h] at hpl; simp at hpl)
            obtain ⟨d, hd, _⟩ := hc p _ e
            exact ih _ (by rw [← hN]; exact Tv.is_lt (List.getElem_mem hpl)) _ rfl d hd l hp
          · unfold lnx at hp
            rw [dif_neg hpl] at hp
            cases hp
        · rw [lnkf_0 h7 h8] at hl
          cases hl
  exact key _ t rfl
/-- Links of a tree, as a row that may be held against another. -/
theorem links_lsl (t : Tv) (w : World) (cs : Array Value) (ht : Tin w t cs) (hm : tmuch t ≤ 100000) : Calls Tryd.prog 15 #[.agg cs] w fun e w' => ∃ v', e = .returned v' ∧ LSl w' v' (lnkf t) ∧ Below w.heap.size w w' := by
  refine (links6_any t w cs ht hm).mono ?_
  rintro e w' ⟨v', he, ho, hb⟩
  exact ⟨v', he, LSl.own ho rfl (by have := lnkf_le t; omega) (lnkf_bd t cs ht), hb⟩
end
section
open Go.RowKit Go
set_option maxRecDepth 1000000 in
theorem within6_any (m : Int) (w : World) : Calls Tryd.prog 10 #[.int .i64 m, .int .i64 1000] w fun e w' => ∃ k : Nat, k < 1000 ∧ e = .returned (.int .i64 (k : Nat)) ∧ w' = w := by
  have h1 : -1000 < m.tmod 1000 ∧ m.tmod 1000 < 1000 := by
    by_cases h : 0 ≤ m
    · rw [Int.tmod_eq_emod_of_nonneg h]; omega
    · have e : m = -(-m) := by omega
      rw [e, Int.neg_tmod, Int.tmod_eq_emod_of_nonneg (by omega)]; omega
  by_cases hneg : m.tmod 1000 < 0
  · go_enter Tryd.func10, Tryd.ntmps10
    go_wp2
    go_ret
    refine ⟨(m.tmod 1000 + 1000).toNat, by omega, ?_, rfl⟩
    rw [Int.toNat_of_nonneg (by omega)]
    rfl
  · go_enter Tryd.func10, Tryd.ntmps10
    go_wp2
    go_ret
    refine ⟨(m.tmod 1000).toNat, by omega, ?_, rfl⟩
    rw [Int.toNat_of_nonneg (by omega)]
    rfl
/-- What ValueTurned stands on: its argument's own copy. -/
structure Trt (w wx : World) (cs : Array Value) (N : Int) : Prop where
  b : Below w.heap.size w wx
  p : wx.heap[w.heap.size]? = some (.cells (cs.push (.int .i64 N)) 31 (0, 0))
theorem Trt.next {w wx wy : World} {cs : Array Value} {N : Int} (h : Trt w wx cs N) (hb : Below wx.heap.size wx wy) : Trt w wy cs N :=
  ⟨h.b.trans (hb.mono h.b.size), (hb.block _ (blk_lt h.p)).trans h.p⟩
theorem Trt.va {w wx : World} {cs : Array Value} {N : Int} (h : Trt w wx cs N) : ∀ j u, cs[j]? = some u → wx.cell? ⟨w.heap.size, 0 + j, none⟩ = some u := fun j u hu => by
  rw [Nat.zero_add]
  refine blk_cell h.p ?_
  have hl := (Array.getElem?_eq_some_iff.1 hu).1
  rw [Array.getElem?_push_lt hl]
  rw [Array.getElem?_eq_getElem hl] at hu
  exact hu
theorem Trt.n {w wx : World} {cs : Array Value} {N : Int} (h : Trt w wx cs N) (hs : cs.size = 13) : wx.cell? ⟨w.heap.size, 13, none⟩ = some (.int .i64 N) := by
  refine blk_cell h.p ?_
  rw [← hs]
  simp
theorem vsl_one {w : World} {t : Tv} {c : Array Value} {g : Nat} (h : Tin w t c) (hg : w.heap[g]? = some (.cells c 29 (0, 0))) : VSl w (.slice (some ⟨g, 0, none⟩) 1 1) [t] := by
  refine ⟨⟨_, 1, rfl, ⟨by simp, fun h => by cases h⟩, .inr ⟨g, 0, rfl, fun i u hu => ?_⟩⟩, by simp⟩
  have hi := (List.getElem?_eq_some_iff.1 hu).1
  simp at hi
  subst hi
  simp at hu
  subst hu
  exact ⟨c, h, fun j x hx => by simpa using blk_cell hg hx⟩
/-- Another order of a tree, in a variable. -/
structure Tvr (wx : World) (g : Nat) (c : Array Value) (t : Tv) : Prop where
  x : wx.heap[g]? = some (.cells c 29 (0, 0))
  t : Tin wx t c
theorem Tvr.next {wx wy : World} {g : Nat} {c : Array Value} {t : Tv} (h : Tvr wx g c t) (hb : Below wx.heap.size wx wy) : Tvr wy g c t := ⟨(hb.block _ (blk_lt h.x)).trans h.x, h.t.move (keep_below hb)⟩
theorem below_alloc_drew (w : World) (o : Obj) : Below w.heap.size w (w.alloc o).drew := (below_alloc4 w o).drew
set_option maxRecDepth 1000000 in
set_option maxHeartbeats 4000000 in
theorem vturned_any (w : World) (cs : Array Value) (N : Int) (t : Tv) (ht : Tin w t cs) (hT : Tabs w) : Calls Tryd.prog 3 #[.agg (cs.push (.int .i64 N))] w fun e w' => e = .returned (.bool true) ∧ Below w.heap.size w w' := by
  have HT := hide hT
  have HTN := hide ht
  have HSZ := hide ht.size13
  have HQ0 : Hid (Trt w (w.alloc (.cells (cs.push (.int .i64 N)) 31)) cs N) := ⟨below_alloc4 w _, heap_alloc_new w _⟩
  clear ht hT
  generalize hcp : cs.push (.int .i64 N) = cp at *
  go_enter Tryd.func3, Tryd.ntmps3
  go_upto_region 1 with fail
  generalize w.alloc (.cells cp 31) = w1 at *
  clear hcp
  have HV1 := hide HQ0.out.va
  have HG1 := hide (heap_alloc_new w1 (.cells cs 29))
  have HQ1 := hide (HQ0.out.next (below_alloc4 w1 (.cells cs 29)))
  go_wp2_with (first
    | (refine wpList_valAt rfl rfl w.heap.size 0 cs rfl HSZ.out HV1.out ?_)
    | (refine wpList_val1 rfl rfl cs HSZ.out rfl ?_))
  refine (much_any [t] _ _ 20000 (vsl_one (HTN.out.move (keep_below HQ1.out.b)) HG1.out) (by omega)).mono ?_
  rintro e w2 ⟨r, rfl, hmu, hb2⟩
  have HMU := hide hmu
  have HQ2 := hide (HQ1.out.next hb2)
  clear hmu hb2 HQ1 HG1 HQ0 HV1
  by_cases hr : 20000 < r
  · as_aux_lemma =>
    have g0 : (20000 : Int) < (r : Int) := by omega
    go_wp2_with fail
    refine (wakes_any w2 (HT.out.next HQ2.out.b)).mono ?_
    rintro e w3 ⟨rfl, hb3⟩
    have HQ3 := hide (HQ2.out.next hb3)
    clear hb3
    go_wp2_with fail
    go_ret
    exact ⟨rfl, HQ3.out.b⟩
  have g0 : ¬ (20000 : Int) < (r : Int) := by omega
  have g0d : decide ((20000 : Int) < (r : Int)) = false := decide_eq_false g0
  have HM : Hid (tmuch t ≤ 20000) := by
    have h1 := HMU.out.eq (by omega)
    have h2 : tmuchL [t] = tmuch t := by rw [tmuchL, tmuchL]; omega
    show _ ≤ _
    omega
  have HV2 := hide HQ2.out.va
  clear HMU hr
  go_wp2_with (refine wpList_valAt rfl rfl w.heap.size 0 cs rfl HSZ.out HV2.out ?_)
  refine (check6_any t w2 cs (HTN.out.move (keep_below HQ2.out.b)) (by have := HM.out; omega) (HT.out.next HQ2.out.b)).mono ?_
  rintro e w3 ⟨rfl, hb3⟩
  have HQ3 := hide (HQ2.out.next hb3)
  clear hb3 HQ2 HV2
  go_wp2_with fail
  refine (num6_any _ w3).mono ?_
  rintro e w4 ⟨rfl, hw4⟩
  have hw4 := hw4.symm
  subst hw4
  by_cases hz : chkf t 0 = 0
  case neg => as_aux_lemma =>
    have g1 : ((chkf t 0 : Int) != 0) = true := by rw [nat_ne0]; simp [hz]
    clear hz
    generalize chkf t 0 = z at *
    go_wp2_with fail
    refine (wakes_any w3 (HT.out.next HQ3.out.b)).mono ?_
    rintro e w4 ⟨rfl, hb4⟩
    have HQ4 := hide (HQ3.out.next hb4)
    clear hb4
    go_wp2_with fail
    go_ret
    exact ⟨rfl, HQ4.out.b⟩
  have HCZ := hide hz
  have HTK := hide (chk_trk hz)
  rw [hz]
  clear hz
  go_wp2_with fail
  go_cut [3] from 19 to 24 (fun xx wx => ∃ (gx : Nat) (c : Array Value) (t' : Tv), xx = .pointer (some ⟨gx, 0, none⟩) ∧ Hid (Trt w wx cs N) ∧ Hid (Tvr wx gx c t') ∧ Hid (Trn t t'))
  case first => as_aux_lemma =>
    refine heldStart (S := fun wy => Trt w wy cs N) (by kernel_rfl) ?_
    have hS : Trt w w3.drew cs N := HQ3.out.next (by refine Below.drew ?_; exact Below.refl _ _)
    refine heldTake 0 _ rfl (by kernel_rfl) (by kernel_rfl) (by kernel_rfl) (fun _ _ _ h => h) rfl hS (fun wy hy => by first | (go_simp; done) | (go_simp; rfl) | rfl) ?_
    (try simp only [Act.put]); (try simp only [List.setIfInBounds_toArray, List.set_cons_zero, List.set_cons_succ])
    refine heldTake 1 _ rfl (by kernel_rfl) (by kernel_rfl) (by kernel_rfl) (fun _ _ _ h => h) rfl hS (fun wy hy => exec_valAt (g := w.heap.size) (off := 0) (cs := cs) rfl rfl HSZ.out hy.va) ?_
    (try simp only [Act.put]); (try simp only [List.setIfInBounds_toArray, List.set_cons_zero, List.set_cons_succ])
    refine heldTake 2 _ rfl (by kernel_rfl) (by kernel_rfl) (by kernel_rfl) (fun _ _ _ h => h) rfl hS (fun wy hy => by first | (go_simp; done) | (go_simp; rfl) | rfl) ?_
    (try simp only [Act.put]); (try simp only [List.setIfInBounds_toArray, List.set_cons_zero, List.set_cons_succ])
    refine heldTake 3 _ rfl (by kernel_rfl) (by kernel_rfl) (by kernel_rfl) (fun _ _ _ h => h) rfl hS (fun wy hy => by have h0 := hy.n HSZ.out; first | (go_simp; done) | (go_simp; rfl) | rfl) ?_
    (try simp only [Act.put]); (try simp only [List.setIfInBounds_toArray, List.set_cons_zero, List.set_cons_succ])
    refine wpAnyH_ready (rs := [4, 6]) (by kernel_rfl) (by simp) ?_
    refine AllReadyH.cons rfl (fun K hK => ?_) (AllReadyH.cons rfl (fun K hK => ?_) AllReadyH.nil)
    · as_aux_lemma =>
      go_simp
      refine (within6_any N _).mono ?_
      rintro e wd ⟨k, hk, rfl, hwd⟩
      subst hwd
      refine (Shut.out hK) _ _ hS (fun hS2 => ?_)
      clear hK K hS2
      (try simp only [Act.put]); (try simp only [List.setIfInBounds_toArray, List.set_cons_zero, List.set_cons_succ])
      refine wpAnyH_ready (rs := [5, 6]) (by kernel_rfl) (by simp) ?_
      refine AllReadyH.cons rfl (fun K hK => ?_) (AllReadyH.cons rfl (fun K hK => ?_) AllReadyH.nil)
      · as_aux_lemma =>
        go_simp
        refine (turned_any k (by omega) t _ (fun _ => False) cs (Tis.of_tin (HTN.out.move (keep_below hS.b)) (fun _ h => h.elim)) (fun _ h => h.elim) HTK.out (by have := HM.out; omega)).mono ?_
        rintro e we ⟨c, t', rfl, hc, htr, hbe⟩
        have HTR := hide htr
        have HS1 := hide hc.tin.size13
        have HA1 := hide hc.tin.all1
        have HIN : Hid ((Tryd.prog.info? 29).map (·.size) = some c.size) := by show _ = _; rw [HS1.out]; exact infoV
        have HZV : Hid (zv.size = c.size) := by show _ = _; rw [HS1.out]; rfl
        have HG0 := hide (heap_alloc_new we (.cells zv 29))
        have hSe : Trt w we cs N := hS.next hbe
        have HQA : Hid (Trt w (we.alloc (.cells zv 29)) cs N) := hSe.next (below_alloc4 we _)
        have HQZ : Hid (Trt w ((we.alloc (.cells zv 29)).setRow we.heap.size c) cs N) := hSe.next (itm_mk we c).b
        have HVZ : Hid (Tvr ((we.alloc (.cells zv 29)).setRow we.heap.size c) we.heap.size c t') := ⟨(itm_mk we c).r, hc.tin.move (keep_below (itm_mk we c).b)⟩
        refine (Shut.out hK) _ _ hSe (fun hS2 => ?_)
        clear hK K hc htr hbe hS hSe
        (try simp only [Act.put]); (try simp only [List.setIfInBounds_toArray, List.set_cons_zero, List.set_cons_succ])
        refine heldStep 6 rfl (by kernel_rfl) (fun K hK => ?_)
        go_simp
        refine (Hid.out hK) _ (we.alloc (.cells zv 29)) HQA.out (fun hS3 => ?_)
        clear hK K hS2
        (try simp only [Act.put]); (try simp only [List.setIfInBounds_toArray, List.set_cons_zero, List.set_cons_succ])
        refine heldStep 7 rfl (by kernel_rfl) (fun K hK => ?_)
        refine step_storeRow rfl rfl we.heap.size zv c 29 rfl rfl HG0.out HIN.out HZV.out HA1.out ?_
        refine (Hid.out hK) _ _ HQZ.out (fun hS => ?_)
        clear hK K hS3
        (try simp only [Act.put]); (try simp only [List.setIfInBounds_toArray, List.set_cons_zero, List.set_cons_succ])
        refine heldDone (by kernel_rfl) ?_
        clear hS
        go_wp2_with fail
        go_meet
        case rel => exact ⟨_, c, t', rfl, HQZ, HVZ, HTR⟩
      · as_aux_lemma =>
        go_simp
        have HGX : Hid ((w3.alloc (.cells zv 29)).drew.heap[w3.heap.size]? = some (.cells zv 29 (0, 0))) := heap_alloc_new w3 (.cells zv 29)
        have HGL : Hid (w.heap.size < w3.heap.size) := blk_lt HQ3.out.p
        have HTI : Hid (Tis (w3.alloc (.cells zv 29)).drew (fun q => q = w3.heap.size) t cs) := (Tis.of_tin (S := fun q => q = w3.heap.size) (HTN.out.move (keep_below HQ3.out.b)) (fun q h => by omega)).kp (Kp.of_below (below_alloc_drew w3 _))
        have hSA : Trt w (w3.alloc (.cells zv 29)).drew cs N := HQ3.out.next (below_alloc_drew w3 _)
        refine (Shut.out hK) _ _ hSA (fun hS2 => ?_)
        clear hK K hS hSA
        have hS := hS2
        clear hS2
        (try simp only [Act.put]); (try simp only [List.setIfInBounds_toArray, List.set_cons_zero, List.set_cons_succ])
        unfold zv at HGX HTI hS
        generalize (w3.alloc (.cells #[.int .i64 0, .bool false, .bool false, .int .u64 0, .int .u64 0, .string ⟨#[]⟩, .slice none 0 0, .int .i64 0, .int .u64 0, .int .u64 0, .string ⟨#[]⟩, .slice none 0 0, .slice none 0 0] 29)).drew = w5 at *
        generalize w3.heap.size = gx at *
        have HGX : Hid (w5.heap[gx]? = some (.cells zv 29 (0, 0))) := HGX
        refine heldStep 5 rfl (by kernel_rfl) (fun K hK => ?_)
        go_simp
        refine (turned_any k (by omega) t _ (fun q => q = gx) cs (HTI.out) (fun q h => by rw [h]; exact blk_lt HGX.out) HTK.out (by have := HM.out; omega)).mono ?_
        rintro e we ⟨c, t', rfl, hc, htr, hbe⟩
        have HTR := hide htr
        have HS1 := hide hc.tin.size13
        have HA1 := hide hc.tin.all1
        have HIN : Hid ((Tryd.prog.info? 29).map (·.size) = some c.size) := by show _ = _; rw [HS1.out]; exact infoV
        have HZV : Hid (zv.size = c.size) := by show _ = _; rw [HS1.out]; rfl
        have HG0 : Hid (we.heap[gx]? = some (.cells zv 29 (0, 0))) := (hbe.block _ (blk_lt HGX.out)).trans HGX.out
        have hSe : Trt w we cs N := hS.next hbe
        have hrk := row_kp we gx c
        have HQZ : Hid (Trt w (we.setRow gx c) cs N) := ⟨hSe.b.trans (hrk.below hSe.b.size (fun q e => by have := HGL.out; omega)), (hrk.block _ (blk_lt hSe.p) (by have := HGL.out; omega)).trans hSe.p⟩
        have HVZ : Hid (Tvr (we.setRow gx c) gx c t') := ⟨row_same HG0.out, (hc.kp hrk).tin⟩
        refine (Hid.out hK) _ _ hSe (fun hS2 => ?_)
        clear hK K hc htr hbe hS hSe hrk
        (try simp only [Act.put]); (try simp only [List.setIfInBounds_toArray, List.set_cons_zero, List.set_cons_succ])
        refine heldStep 7 rfl (by kernel_rfl) (fun K hK => ?_)
        refine step_storeRow rfl rfl gx zv c 29 rfl rfl HG0.out HIN.out HZV.out HA1.out ?_
        refine (Hid.out hK) _ _ HQZ.out (fun hS => ?_)
        clear hK K hS2
        (try simp only [Act.put]); (try simp only [List.setIfInBounds_toArray, List.set_cons_zero, List.set_cons_succ])
        refine heldDone (by kernel_rfl) ?_
        clear hS
        go_wp2_with fail
        go_meet
        case rel => exact ⟨_, c, t', rfl, HQZ, HVZ, HTR⟩
    · as_aux_lemma =>
      go_simp
      have HGX : Hid ((w3.alloc (.cells zv 29)).drew.heap[w3.heap.size]? = some (.cells zv 29 (0, 0))) := heap_alloc_new w3 (.cells zv 29)
      have HGL : Hid (w.heap.size < w3.heap.size) := blk_lt HQ3.out.p
      have HTI : Hid (Tis (w3.alloc (.cells zv 29)).drew (fun q => q = w3.heap.size) t cs) := (Tis.of_tin (S := fun q => q = w3.heap.size) (HTN.out.move (keep_below HQ3.out.b)) (fun q h => by omega)).kp (Kp.of_below (below_alloc_drew w3 _))
      have hSA : Trt w (w3.alloc (.cells zv 29)).drew cs N := HQ3.out.next (below_alloc_drew w3 _)
      refine (Shut.out hK) _ _ hSA (fun hS2 => ?_)
      clear hK K hS hSA
      have hS := hS2
      clear hS2
      (try simp only [Act.put]); (try simp only [List.setIfInBounds_toArray, List.set_cons_zero, List.set_cons_succ])
      unfold zv at HGX HTI hS
      generalize (w3.alloc (.cells #[.int .i64 0, .bool false, .bool false, .int .u64 0, .int .u64 0, .string ⟨#[]⟩, .slice none 0 0, .int .i64 0, .int .u64 0, .int .u64 0, .string ⟨#[]⟩, .slice none 0 0, .slice none 0 0] 29)).drew = w5 at *
      generalize w3.heap.size = gx at *
      have HGX : Hid (w5.heap[gx]? = some (.cells zv 29 (0, 0))) := HGX
      refine heldStep 4 rfl (by kernel_rfl) (fun K hK => ?_)
      go_simp
      refine (within6_any N _).mono ?_
      rintro e wd ⟨k, hk, rfl, hwd⟩
      subst hwd
      refine (Hid.out hK) _ _ hS (fun hS2 => ?_)
      clear hK K hS2
      (try simp only [Act.put]); (try simp only [List.setIfInBounds_toArray, List.set_cons_zero, List.set_cons_succ])
      refine heldStep 5 rfl (by kernel_rfl) (fun K hK => ?_)
      go_simp
      refine (turned_any k (by omega) t _ (fun q => q = gx) cs (HTI.out) (fun q h => by rw [h]; exact blk_lt HGX.out) HTK.out (by have := HM.out; omega)).mono ?_
      rintro e we ⟨c, t', rfl, hc, htr, hbe⟩
      have HTR := hide htr
      have HS1 := hide hc.tin.size13
      have HA1 := hide hc.tin.all1
      have HIN : Hid ((Tryd.prog.info? 29).map (·.size) = some c.size) := by show _ = _; rw [HS1.out]; exact infoV
      have HZV : Hid (zv.size = c.size) := by show _ = _; rw [HS1.out]; rfl
      have HG0 : Hid (we.heap[gx]? = some (.cells zv 29 (0, 0))) := (hbe.block _ (blk_lt HGX.out)).trans HGX.out
      have hSe : Trt w we cs N := hS.next hbe
      have hrk := row_kp we gx c
      have HQZ : Hid (Trt w (we.setRow gx c) cs N) := ⟨hSe.b.trans (hrk.below hSe.b.size (fun q e => by have := HGL.out; omega)), (hrk.block _ (blk_lt hSe.p) (by have := HGL.out; omega)).trans hSe.p⟩
      have HVZ : Hid (Tvr (we.setRow gx c) gx c t') := ⟨row_same HG0.out, (hc.kp hrk).tin⟩
      refine (Hid.out hK) _ _ hSe (fun hS2 => ?_)
      clear hK K hc htr hbe hS hSe hrk
      (try simp only [Act.put]); (try simp only [List.setIfInBounds_toArray, List.set_cons_zero, List.set_cons_succ])
      refine heldStep 7 rfl (by kernel_rfl) (fun K hK => ?_)
      refine step_storeRow rfl rfl gx zv c 29 rfl rfl HG0.out HIN.out HZV.out HA1.out ?_
      refine (Hid.out hK) _ _ HQZ.out (fun hS => ?_)
      clear hK K hS2
      (try simp only [Act.put]); (try simp only [List.setIfInBounds_toArray, List.set_cons_zero, List.set_cons_succ])
      refine heldDone (by kernel_rfl) ?_
      clear hS
      go_wp2_with fail
      go_meet
      case rel => exact ⟨_, c, t', rfl, HQZ, HVZ, HTR⟩
  case rest =>
    obtain ⟨gx, c, t', rfl, HQ4, HX4, HTR⟩ := hcut
    obtain ⟨w5, hw5⟩ : ∃ x, x = wc := ⟨_, rfl⟩
    subst hw5
    have HK2 := hide (trn_trk HTR.out HTK.out)
    have HC2 := hide (trn_chk HTR.out HCZ.out)
    have HM2 : Hid (tmuch t' ≤ 20000) := by show _ ≤ _; rw [trn_much HTR.out HTK.out]; exact HM.out
    have HV5 := hide HQ4.out.va
    have HZX := hide HX4.out.t.size13
    clear HQ3 HCZ
    go_wp2_with (refine wpList_valAt rfl rfl w.heap.size 0 cs rfl HSZ.out HV5.out ?_)
    refine (sorted6_any t w5 cs (HTN.out.move (keep_below HQ4.out.b)) (by have := HM.out; omega)).mono ?_
    rintro e w6 ⟨cS, sS, rfl, hsr, hnt, hb6⟩
    have HSR := hide hsr
    have HKS := hide (trk_srt hsr HTK.out)
    have HMS : Hid (tmuch sS ≤ 20000) := by show _ ≤ _; rw [trn_much (srt_trn hsr HTK.out) HTK.out]; exact HM.out
    have HQ6 := hide ((HQ4.out.next hb6).next (itm_mk w6 cS).b)
    have HX6 := hide ((HX4.out.next hb6).next (itm_mk w6 cS).b)
    have HS6 : Hid (Tvr ((w6.alloc (.cells zv 29)).setRow w6.heap.size cS) w6.heap.size cS sS) := ⟨(itm_mk w6 cS).r, hnt.tin.move (keep_below (itm_mk w6 cS).b)⟩
    have HG0 := hide (heap_alloc_new w6 (.cells zv 29))
    have HZS := hide hnt.tin.size13
    have HA1 := hide hnt.tin.all1
    have HIN : Hid ((Tryd.prog.info? 29).map (·.size) = some cS.size) := by show _ = _; rw [HZS.out]; exact infoV
    have HZV : Hid (zv.size = cS.size) := by show _ = _; rw [HZS.out]; rfl
    have HXC : Hid (∀ j u, c[j]? = some u → ((w6.alloc (.cells zv 29)).setRow w6.heap.size cS).cell? ⟨gx, 0 + j, none⟩ = some u) := fun j u hu => by rw [Nat.zero_add]; exact blk_cell HX6.out.x hu
    clear hsr hnt hb6 HQ4 HX4 HV5
    go_wp2_with (first
      | (refine wpList_storeRow rfl rfl w6.heap.size zv cS 29 rfl rfl HG0.out HIN.out HZV.out HA1.out ?_)
      | (refine wpList_valAt rfl rfl gx 0 c rfl HZX.out HXC.out ?_))
    clear HG0 HIN HZV HA1 HXC
    unfold zv at HQ6 HX6 HS6
    generalize (w6.alloc (.cells #[.int .i64 0, .bool false, .bool false, .int .u64 0, .int .u64 0, .string ⟨#[]⟩, .slice none 0 0, .int .i64 0, .int .u64 0, .int .u64 0, .string ⟨#[]⟩, .slice none 0 0, .slice none 0 0] 29)).setRow w6.heap.size cS = w7 at *
    generalize w6.heap.size = gs at *
    have HE1 : Hid (eqf t t' = true) := (eqf_teq t t' HTK.out HK2.out).2 ⟨sS, HSR.out, trn_srt HSR.out HTK.out HTR.out⟩
    have HE2 : Hid (eqf t' t = true) := (eqf_teq t' t HK2.out HTK.out).2 ⟨sS, trn_srt HSR.out HTK.out HTR.out, HSR.out⟩
    have HE3 : Hid (eqf t t = true) := (eqf_teq t t HTK.out HTK.out).2 ⟨sS, HSR.out, HSR.out⟩
    have HE4 : Hid (eqf sS t' = true) := (eqf_teq sS t' HKS.out HK2.out).2 ⟨sS, srt_idem HSR.out, trn_srt HSR.out HTK.out HTR.out⟩
    refine (check6_any t' w7 c HX6.out.t (by have := HM2.out; omega) (HT.out.next HQ6.out.b)).mono ?_
    rintro e w8 ⟨rfl, hb8⟩
    have HQ8 := hide (HQ6.out.next hb8)
    have HX8 := hide (HX6.out.next hb8)
    have HS8 := hide (HS6.out.next hb8)
    rw [HC2.out]
    clear hb8 HQ6 HX6 HS6
    go_wp2_with fail
    refine (num6_any _ w8).mono ?_
    rintro e w9 ⟨rfl, hw9⟩
    have hw9 := hw9.symm
    subst hw9
    have HVa := hide HQ8.out.va
    have HVb : Hid (∀ j u, c[j]? = some u → w8.cell? ⟨gx, 0 + j, none⟩ = some u) := fun j u hu => by rw [Nat.zero_add]; exact blk_cell HX8.out.x hu
    have HVc : Hid (∀ j u, cS[j]? = some u → w8.cell? ⟨gs, 0 + j, none⟩ = some u) := fun j u hu => by rw [Nat.zero_add]; exact blk_cell HS8.out.x hu
    go_wp2_with (first
      | (refine wpList_valAt rfl rfl w.heap.size 0 cs rfl HSZ.out HVa.out ?_)
      | (refine wpList_valAt rfl rfl gx 0 c rfl HZX.out HVb.out ?_)
      | (refine wpList_valAt rfl rfl gs 0 cS rfl HZS.out HVc.out ?_))
    refine (equal6_any t t' w8 cs c (HTN.out.move (keep_below HQ8.out.b)) HX8.out.t (by have := HM.out; have := HM2.out; have := HMS.out; omega) (by have := HM.out; have := HM2.out; have := HMS.out; omega)).mono ?_
    rintro e w9 ⟨rfl, hbb⟩
    have HQ9 := hide (HQ8.out.next hbb)
    have HX9 := hide (HX8.out.next hbb)
    have HS9 := hide (HS8.out.next hbb)
    rw [HE1.out]
    clear hbb HQ8 HX8 HS8 HVa HVb HVc
    have HVa := hide HQ9.out.va
    have HVb : Hid (∀ j u, c[j]? = some u → w9.cell? ⟨gx, 0 + j, none⟩ = some u) := fun j u hu => by rw [Nat.zero_add]; exact blk_cell HX9.out.x hu
    have HVc : Hid (∀ j u, cS[j]? = some u → w9.cell? ⟨gs, 0 + j, none⟩ = some u) := fun j u hu => by rw [Nat.zero_add]; exact blk_cell HS9.out.x hu
    go_wp2_with (first
      | (refine wpList_valAt rfl rfl w.heap.size 0 cs rfl HSZ.out HVa.out ?_)
      | (refine wpList_valAt rfl rfl gx 0 c rfl HZX.out HVb.out ?_)
      | (refine wpList_valAt rfl rfl gs 0 cS rfl HZS.out HVc.out ?_))
    refine (equal6_any t' t w9 c cs HX9.out.t (HTN.out.move (keep_below HQ9.out.b)) (by have := HM.out; have := HM2.out; have := HMS.out; omega) (by have := HM.out; have := HM2.out; have := HMS.out; omega)).mono ?_
    rintro e w10 ⟨rfl, hbb⟩
    have HQ10 := hide (HQ9.out.next hbb)
    have HX10 := hide (HX9.out.next hbb)
    have HS10 := hide (HS9.out.next hbb)
    rw [HE2.out]
    clear hbb HQ9 HX9 HS9 HVa HVb HVc
    have HVa := hide HQ10.out.va
    have HVb : Hid (∀ j u, c[j]? = some u → w10.cell? ⟨gx, 0 + j, none⟩ = some u) := fun j u hu => by rw [Nat.zero_add]; exact blk_cell HX10.out.x hu
    have HVc : Hid (∀ j u, cS[j]? = some u → w10.cell? ⟨gs, 0 + j, none⟩ = some u) := fun j u hu => by rw [Nat.zero_add]; exact blk_cell HS10.out.x hu
    go_wp2_with (first
      | (refine wpList_valAt rfl rfl w.heap.size 0 cs rfl HSZ.out HVa.out ?_)
      | (refine wpList_valAt rfl rfl gx 0 c rfl HZX.out HVb.out ?_)
      | (refine wpList_valAt rfl rfl gs 0 cS rfl HZS.out HVc.out ?_))
    refine (equal6_any t t w10 cs cs (HTN.out.move (keep_below HQ10.out.b)) (HTN.out.move (keep_below HQ10.out.b)) (by have := HM.out; have := HM2.out; have := HMS.out; omega) (by have := HM.out; have := HM2.out; have := HMS.out; omega)).mono ?_
    rintro e w11 ⟨rfl, hbb⟩
    have HQ11 := hide (HQ10.out.next hbb)
    have HX11 := hide (HX10.out.next hbb)
    have HS11 := hide (HS10.out.next hbb)
    rw [HE3.out]
    clear hbb HQ10 HX10 HS10 HVa HVb HVc
    have HVa := hide HQ11.out.va
    have HVb : Hid (∀ j u, c[j]? = some u → w11.cell? ⟨gx, 0 + j, none⟩ = some u) := fun j u hu => by rw [Nat.zero_add]; exact blk_cell HX11.out.x hu
    have HVc : Hid (∀ j u, cS[j]? = some u → w11.cell? ⟨gs, 0 + j, none⟩ = some u) := fun j u hu => by rw [Nat.zero_add]; exact blk_cell HS11.out.x hu
    go_wp2_with (first
      | (refine wpList_valAt rfl rfl w.heap.size 0 cs rfl HSZ.out HVa.out ?_)
      | (refine wpList_valAt rfl rfl gx 0 c rfl HZX.out HVb.out ?_)
      | (refine wpList_valAt rfl rfl gs 0 cS rfl HZS.out HVc.out ?_))
    refine (equal6_any sS t' w11 cS c HS11.out.t HX11.out.t (by have := HM.out; have := HM2.out; have := HMS.out; omega) (by have := HM.out; have := HM2.out; have := HMS.out; omega)).mono ?_
    rintro e w12 ⟨rfl, hbb⟩
    have HQ12 := hide (HQ11.out.next hbb)
    have HX12 := hide (HX11.out.next hbb)
    have HS12 := hide (HS11.out.next hbb)
    rw [HE4.out]
    clear hbb HQ11 HX11 HS11 HVa HVb HVc
    go_wp2_with fail
    have HDD : Hid (tdepth t' = tdepth t) := by show _ = _; rw [← srt_depth (trn_srt HSR.out HTK.out HTR.out) HK2.out, srt_depth HSR.out HTK.out]
    have HLL : Hid (lnkf t' = lnkf t) := by show _ = _; rw [← srt_links (trn_srt HSR.out HTK.out HTR.out) HK2.out, srt_links HSR.out HTK.out]
    go_cut [5] from 56 to 84 (fun xx wx => xx = .bool true ∧ Hid (Trt w wx cs N ∧ Tvr wx gx c t' ∧ Tvr wx gs cS sS))
    case first => as_aux_lemma =>
      refine heldStart (S := fun wy => Trt w wy cs N ∧ Tvr wy gx c t' ∧ Tvr wy gs cS sS) (by kernel_rfl) ?_
      have hS : Trt w w12.drew cs N ∧ Tvr w12.drew gx c t' ∧ Tvr w12.drew gs cS sS := ⟨HQ12.out.next (by refine Below.drew ?_; exact Below.refl _ _), HX12.out.next (by refine Below.drew ?_; exact Below.refl _ _), HS12.out.next (by refine Below.drew ?_; exact Below.refl _ _)⟩
      refine heldTake 0 _ rfl (by kernel_rfl) (by kernel_rfl) (by kernel_rfl) (fun _ _ _ h => h) rfl hS (fun wy hy => by first | (go_simp; done) | (go_simp; rfl) | rfl) ?_
      (try simp only [Act.put]); (try simp only [List.setIfInBounds_toArray, List.set_cons_zero, List.set_cons_succ])
      refine heldTake 1 _ rfl (by kernel_rfl) (by kernel_rfl) (by kernel_rfl) (fun _ _ _ h => h) rfl hS (fun wy hy => by first | (go_simp; done) | (go_simp; rfl) | rfl) ?_
      (try simp only [Act.put]); (try simp only [List.setIfInBounds_toArray, List.set_cons_zero, List.set_cons_succ])
      refine heldTake 2 _ rfl (by kernel_rfl) (by kernel_rfl) (by kernel_rfl) (fun _ _ _ h => h) rfl hS (fun wy hy => by first | (go_simp; done) | (go_simp; rfl) | rfl) ?_
      (try simp only [Act.put]); (try simp only [List.setIfInBounds_toArray, List.set_cons_zero, List.set_cons_succ])
      refine heldTake 3 _ rfl (by kernel_rfl) (by kernel_rfl) (by kernel_rfl) (fun _ _ _ h => h) rfl hS (fun wy hy => exec_valAt (g := w.heap.size) (off := 0) (cs := cs) rfl rfl HSZ.out hy.1.va) ?_
      (try simp only [Act.put]); (try simp only [List.setIfInBounds_toArray, List.set_cons_zero, List.set_cons_succ])
      refine heldTake 5 _ rfl (by kernel_rfl) (by kernel_rfl) (by kernel_rfl) (fun _ _ _ h => h) rfl hS (fun wy hy => exec_valAt (g := gx) (off := 0) (cs := c) rfl rfl HZX.out (fun j u hu => by rw [Nat.zero_add]; exact blk_cell hy.2.1.x hu)) ?_
      (try simp only [Act.put]); (try simp only [List.setIfInBounds_toArray, List.set_cons_zero, List.set_cons_succ])
      refine heldStep 4 rfl (by kernel_rfl) (fun K hK => ?_)
      go_simp
      refine (depth_any t _ cs (HTN.out.move (keep_below hS.1.b)) (by have := tdepth_much t; have := HM.out; omega)).mono ?_
      rintro e wz ⟨rfl, hbz⟩
      refine (Hid.out hK) _ _ ⟨hS.1.next hbz, hS.2.1.next hbz, hS.2.2.next hbz⟩ (fun hS2 => ?_)
      clear hK K hS hbz
      have hS := hS2
      clear hS2
      (try simp only [Act.put]); (try simp only [List.setIfInBounds_toArray, List.set_cons_zero, List.set_cons_succ])
      refine heldStep 6 rfl (by kernel_rfl) (fun K hK => ?_)
      go_simp
      refine (depth_any t' _ c hS.2.1.t (by have := tdepth_much t'; have := HM2.out; omega)).mono ?_
      rintro e wz ⟨rfl, hbz⟩
      rw [HDD.out]
      refine (Hid.out hK) _ _ ⟨hS.1.next hbz, hS.2.1.next hbz, hS.2.2.next hbz⟩ (fun hS2 => ?_)
      clear hK K hS hbz
      have hS := hS2
      clear hS2
      (try simp only [Act.put]); (try simp only [List.setIfInBounds_toArray, List.set_cons_zero, List.set_cons_succ])
      refine heldTake 7 _ rfl (by kernel_rfl) (by kernel_rfl) (by kernel_rfl) (fun _ _ _ h => h) rfl hS (fun wy hy => by first | (go_simp; done) | (go_simp; rfl) | rfl) ?_
      (try simp only [Act.put]); (try simp only [List.setIfInBounds_toArray, List.set_cons_zero, List.set_cons_succ])
      refine heldTake 8 _ rfl (by kernel_rfl) (by kernel_rfl) (by kernel_rfl) (fun _ _ _ h => h) rfl hS (fun wy hy => by first | (go_simp; done) | (go_simp; rfl) | rfl) ?_
      (try simp only [Act.put]); (try simp only [List.setIfInBounds_toArray, List.set_cons_zero, List.set_cons_succ])
      refine heldTake 9 _ rfl (by kernel_rfl) (by kernel_rfl) (by kernel_rfl) (fun _ _ _ h => h) rfl hS (fun wy hy => by first | (go_simp; done) | (go_simp; rfl) | rfl) ?_
      (try simp only [Act.put]); (try simp only [List.setIfInBounds_toArray, List.set_cons_zero, List.set_cons_succ])
      refine heldTake 10 _ rfl (by kernel_rfl) (by kernel_rfl) (by kernel_rfl) (fun _ _ _ h => h) rfl hS (fun wy hy => by first | (go_simp; done) | (go_simp; rfl) | rfl) ?_
      (try simp only [Act.put]); (try simp only [List.setIfInBounds_toArray, List.set_cons_zero, List.set_cons_succ])
      refine heldTake 11 _ rfl (by kernel_rfl) (by kernel_rfl) (by kernel_rfl) (fun _ _ _ h => h) rfl hS (fun wy hy => exec_valAt (g := w.heap.size) (off := 0) (cs := cs) rfl rfl HSZ.out hy.1.va) ?_
      (try simp only [Act.put]); (try simp only [List.setIfInBounds_toArray, List.set_cons_zero, List.set_cons_succ])
      refine heldTake 13 _ rfl (by kernel_rfl) (by kernel_rfl) (by kernel_rfl) (fun _ _ _ h => h) rfl hS (fun wy hy => exec_valAt (g := gx) (off := 0) (cs := c) rfl rfl HZX.out (fun j u hu => by rw [Nat.zero_add]; exact blk_cell hy.2.1.x hu)) ?_
      (try simp only [Act.put]); (try simp only [List.setIfInBounds_toArray, List.set_cons_zero, List.set_cons_succ])
      refine heldStep 12 rfl (by kernel_rfl) (fun K hK => ?_)
      go_simp
      refine (links_lsl t _ cs (HTN.out.move (keep_below hS.1.b)) (by have := HM.out; omega)).mono ?_
      rintro e wz ⟨v1, rfl, hl1, hbz⟩
      have HL1 := hide hl1
      clear hl1
      refine (Hid.out hK) _ _ ⟨hS.1.next hbz, hS.2.1.next hbz, hS.2.2.next hbz⟩ (fun hS2 => ?_)
      clear hK K hS hbz
      have hS := hS2
      clear hS2
      (try simp only [Act.put]); (try simp only [List.setIfInBounds_toArray, List.set_cons_zero, List.set_cons_succ])
      refine heldStep 14 rfl (by kernel_rfl) (fun K hK => ?_)
      go_simp
      refine (links_lsl t' _ c hS.2.1.t (by have := HM2.out; omega)).mono ?_
      rintro e wz ⟨v2, rfl, hl2, hbz⟩
      rw [HLL.out] at hl2
      have HL2 := hide hl2
      clear hl2
      have HL1 := hide (HL1.out.move (keep_below hbz))
      refine (Hid.out hK) _ _ ⟨hS.1.next hbz, hS.2.1.next hbz, hS.2.2.next hbz⟩ (fun hS2 => ?_)
      clear hK K hS hbz
      have hS := hS2
      clear hS2
      (try simp only [Act.put]); (try simp only [List.setIfInBounds_toArray, List.set_cons_zero, List.set_cons_succ])
      refine heldStep 15 rfl (by kernel_rfl) (fun K hK => ?_)
      go_simp
      refine (eqLinks_any HL1.out HL2.out).mono ?_
      rintro e wz ⟨rfl, hbz⟩
      rw [decide_eq_true rfl]
      refine (Hid.out hK) _ _ ⟨hS.1.next hbz, hS.2.1.next hbz, hS.2.2.next hbz⟩ (fun hS2 => ?_)
      clear hK K hS hbz
      have hS := hS2
      clear hS2
      (try simp only [Act.put]); (try simp only [List.setIfInBounds_toArray, List.set_cons_zero, List.set_cons_succ])
      refine heldTake 16 _ rfl (by kernel_rfl) (by kernel_rfl) (by kernel_rfl) (fun _ _ _ h => h) rfl hS (fun wy hy => by first | (go_simp; done) | (go_simp; rfl) | rfl) ?_
      (try simp only [Act.put]); (try simp only [List.setIfInBounds_toArray, List.set_cons_zero, List.set_cons_succ])
      refine heldTake 17 _ rfl (by kernel_rfl) (by kernel_rfl) (by kernel_rfl) (fun _ _ _ h => h) rfl hS (fun wy hy => by first | (go_simp; done) | (go_simp; rfl) | rfl) ?_
      (try simp only [Act.put]); (try simp only [List.setIfInBounds_toArray, List.set_cons_zero, List.set_cons_succ])
      refine heldTake 18 _ rfl (by kernel_rfl) (by kernel_rfl) (by kernel_rfl) (fun _ _ _ h => h) rfl hS (fun wy hy => exec_valAt (g := gs) (off := 0) (cs := cS) rfl rfl HZS.out (fun j u hu => by rw [Nat.zero_add]; exact blk_cell hy.2.2.x hu)) ?_
      (try simp only [Act.put]); (try simp only [List.setIfInBounds_toArray, List.set_cons_zero, List.set_cons_succ])
      refine heldTake 19 _ rfl (by kernel_rfl) (by kernel_rfl) (by kernel_rfl) (fun _ _ _ h => h) rfl hS (fun wy hy => exec_valAt (g := gx) (off := 0) (cs := c) rfl rfl HZX.out (fun j u hu => by rw [Nat.zero_add]; exact blk_cell hy.2.1.x hu)) ?_
      (try simp only [Act.put]); (try simp only [List.setIfInBounds_toArray, List.set_cons_zero, List.set_cons_succ])
      refine heldStep 20 rfl (by kernel_rfl) (fun K hK => ?_)
      go_simp
      refine (sorted6_any t' _ c hS.2.1.t (by have := HM2.out; omega)).mono ?_
      rintro e wz ⟨c6, s6, rfl, hs6, hn6, hbz⟩
      have hes : s6 = sS := srt_one hs6 HK2.out (trn_srt HSR.out HTK.out HTR.out)
      subst hes
      have HN6 := hide hn6.tin
      clear hn6 hs6
      refine (Hid.out hK) _ _ ⟨hS.1.next hbz, hS.2.1.next hbz, hS.2.2.next hbz⟩ (fun hS2 => ?_)
      clear hK K hS hbz
      have hS := hS2
      clear hS2
      (try simp only [Act.put]); (try simp only [List.setIfInBounds_toArray, List.set_cons_zero, List.set_cons_succ])
      refine heldStep 21 rfl (by kernel_rfl) (fun K hK => ?_)
      go_simp
      refine (eqValue_any s6 s6 true (by simp) _ cS c6 hS.2.2.t HN6.out).mono ?_
      rintro e wz ⟨rfl, hbz⟩
      refine (Hid.out hK) _ _ ⟨hS.1.next hbz, hS.2.1.next hbz, hS.2.2.next hbz⟩ (fun hS2 => ?_)
      clear hK K hS hbz
      have hS := hS2
      clear hS2
      (try simp only [Act.put]); (try simp only [List.setIfInBounds_toArray, List.set_cons_zero, List.set_cons_succ])
      refine heldTake 22 _ rfl (by kernel_rfl) (by kernel_rfl) (by kernel_rfl) (fun _ _ _ h => h) rfl hS (fun wy hy => by first | (go_simp; done) | (go_simp; rfl) | rfl) ?_
      (try simp only [Act.put]); (try simp only [List.setIfInBounds_toArray, List.set_cons_zero, List.set_cons_succ])
      refine heldTake 23 _ rfl (by kernel_rfl) (by kernel_rfl) (by kernel_rfl) (fun _ _ _ h => h) rfl hS (fun wy hy => by first | (go_simp; done) | (go_simp; rfl) | rfl) ?_
      (try simp only [Act.put]); (try simp only [List.setIfInBounds_toArray, List.set_cons_zero, List.set_cons_succ])
      refine heldTake 24 _ rfl (by kernel_rfl) (by kernel_rfl) (by kernel_rfl) (fun _ _ _ h => h) rfl hS (fun wy hy => exec_valAt (g := gs) (off := 0) (cs := cS) rfl rfl HZS.out (fun j u hu => by rw [Nat.zero_add]; exact blk_cell hy.2.2.x hu)) ?_
      (try simp only [Act.put]); (try simp only [List.setIfInBounds_toArray, List.set_cons_zero, List.set_cons_succ])
      refine heldTake 25 _ rfl (by kernel_rfl) (by kernel_rfl) (by kernel_rfl) (fun _ _ _ h => h) rfl hS (fun wy hy => exec_valAt (g := gs) (off := 0) (cs := cS) rfl rfl HZS.out (fun j u hu => by rw [Nat.zero_add]; exact blk_cell hy.2.2.x hu)) ?_
      (try simp only [Act.put]); (try simp only [List.setIfInBounds_toArray, List.set_cons_zero, List.set_cons_succ])
      refine heldStep 26 rfl (by kernel_rfl) (fun K hK => ?_)
      go_simp
      refine (sorted6_any s6 _ cS hS.2.2.t (by have := HMS.out; omega)).mono ?_
      rintro e wz ⟨c7, s7, rfl, hs7, hn7, hbz⟩
      have hes2 : s7 = s6 := srt_one hs7 HKS.out (srt_idem HSR.out)
      subst hes2
      have HN7 := hide hn7.tin
      clear hn7 hs7
      refine (Hid.out hK) _ _ ⟨hS.1.next hbz, hS.2.1.next hbz, hS.2.2.next hbz⟩ (fun hS2 => ?_)
      clear hK K hS hbz
      have hS := hS2
      clear hS2
      (try simp only [Act.put]); (try simp only [List.setIfInBounds_toArray, List.set_cons_zero, List.set_cons_succ])
      refine heldStep 27 rfl (by kernel_rfl) (fun K hK => ?_)
      go_simp
      refine (eqValue_any s7 s7 true (by simp) _ cS c7 hS.2.2.t HN7.out).mono ?_
      rintro e wz ⟨rfl, hbz⟩
      refine (Hid.out hK) _ _ ⟨hS.1.next hbz, hS.2.1.next hbz, hS.2.2.next hbz⟩ (fun hS2 => ?_)
      clear hK K hS hbz
      have hS := hS2
      clear hS2
      (try simp only [Act.put]); (try simp only [List.setIfInBounds_toArray, List.set_cons_zero, List.set_cons_succ])
      refine heldTake 28 _ rfl (by kernel_rfl) (by kernel_rfl) (by kernel_rfl) (fun _ _ _ h => h) rfl hS (fun wy hy => by first | (go_simp; done) | (go_simp; rfl) | rfl) ?_
      (try simp only [Act.put]); (try simp only [List.setIfInBounds_toArray, List.set_cons_zero, List.set_cons_succ])
      refine heldTake 29 _ rfl (by kernel_rfl) (by kernel_rfl) (by kernel_rfl) (fun _ _ _ h => h) rfl hS (fun wy hy => by first | (go_simp; done) | (go_simp; rfl) | rfl) ?_
      (try simp only [Act.put]); (try simp only [List.setIfInBounds_toArray, List.set_cons_zero, List.set_cons_succ])
      refine heldDone (by kernel_rfl) ?_
      have HSF := hide hS
      clear hS
      go_wp2_with fail
      go_meet
      case rel => exact ⟨rfl, HSF⟩
    case rest =>
      obtain ⟨rfl, HF⟩ := hcut
      obtain ⟨w13, hw13⟩ : ∃ x, x = wc := ⟨_, rfl⟩
      subst hw13
      have HRI := hide (srt_rise HSR.out HTK.out)
      have HVc : Hid (∀ j u, cS[j]? = some u → w13.cell? ⟨gs, 0 + j, none⟩ = some u) := fun j u hu => by rw [Nat.zero_add]; exact blk_cell HF.out.2.2.x hu
      go_wp2_with (refine wpList_valAt rfl rfl gs 0 cS rfl HZS.out HVc.out ?_)
      refine (rising_any sS w13 cS HF.out.2.2.t HRI.out).mono ?_
      rintro e w14 ⟨rfl, hb14⟩
      have HQ14 := hide (HF.out.1.next hb14)
      clear hb14 HF HVc
      go_wp2_with fail
      refine (wakes_any w14 (HT.out.next HQ14.out.b)).mono ?_
      rintro e w15 ⟨rfl, hb15⟩
      have HQ15 := hide (HQ14.out.next hb15)
      clear hb15
      go_wp2_with fail
      go_ret
      exact ⟨rfl, HQ15.out.b⟩
end
end Go.Proofs.YtibcepokeaaoiabDoor

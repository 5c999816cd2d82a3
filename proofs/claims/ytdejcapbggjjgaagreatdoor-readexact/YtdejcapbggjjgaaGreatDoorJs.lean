import Derived.Test.YtdejcapbggjjgaaGreatDoorJq
import Derived.Test.YtdejcapbggjjgaaGreatDoorJr
import Derived.Test.YtdejcapbggjjgaaGreatDoorJp
namespace Go.Proofs.YtdejcapbggjjgaaGreatDoor
section
open Go.RowKit Go
/-- item's blocks: the want, the answers. -/
structure It8 (w wx : World) (ws : Array Value) : Prop where
  x : wx.heap[w.heap.size]? = some (.cells ws 79 (0, 0))
  r : wx.heap[w.heap.size + 1]? = some (.cells zv 61 (0, 0))
  f : wx.heap[w.heap.size + 2]? = some (.cells zfe 64 (0, 0))
  b : Below w.heap.size w wx
theorem It8.z {w wx : World} {ws : Array Value} (h : It8 w wx ws) : w.heap.size + 3 ≤ wx.heap.size := blk_lt h.f
theorem It8.next {w wx wy : World} {ws : Array Value} (h : It8 w wx ws) (hb : Below wx.heap.size wx wy) : It8 w wy ws := ⟨(hb.block _ (blk_lt h.x)).trans h.x, (hb.block _ (blk_lt h.r)).trans h.r, (hb.block _ (blk_lt h.f)).trans h.f, h.b.trans (hb.mono h.b.size)⟩
theorem It8.start (w : World) (ws : Array Value) : It8 w (((w.alloc (.cells ws 79)).alloc (.cells zv 61)).alloc (.cells zfe 64)) ws := by
  have h0 := heap_alloc_new w (.cells ws 79)
  have h1 := heap_alloc_new (w.alloc (.cells ws 79)) (.cells zv 61)
  have h2 := heap_alloc_new ((w.alloc (.cells ws 79)).alloc (.cells zv 61)) (.cells zfe 64)
  have e1 : (w.alloc (.cells ws 79)).heap.size = w.heap.size + 1 := by simp
  have e2 : ((w.alloc (.cells ws 79)).alloc (.cells zv 61)).heap.size = w.heap.size + 2 := by simp
  rw [e1] at h1
  rw [e2] at h2
  have b1 := below_alloc4 w (.cells ws 79)
  have b2 := b1.alloc (by omega) (.cells zv 61)
  have b3 := b2.alloc (by omega) (.cells zfe 64)
  exact ⟨blk_alloc _ (blk_alloc _ h0), blk_alloc _ h1, h2, b3⟩
theorem It8.kp {w wx wy : World} {ws : Array Value} {S : Nat → Prop} (h : It8 w wx ws) (hk : Kp S wx wy) (hs : ∀ q, S q → w.heap.size + 3 ≤ q) : It8 w wy ws := ⟨(hk.block _ (blk_lt h.x) (fun e => by have := hs _ e; omega)).trans h.x, (hk.block _ (blk_lt h.r) (fun e => by have := hs _ e; omega)).trans h.r, (hk.block _ (blk_lt h.f) (fun e => by have := hs _ e; omega)).trans h.f, h.b.trans (hk.below h.b.size (fun q e => by have := hs _ e; omega))⟩
theorem It8.ret {w wx : World} {ws : Array Value} (h : It8 w wx ws) (cv f : Array Value) : (wx.setRow (w.heap.size + 1) cv).heap[w.heap.size + 2]? = some (.cells zfe 64 (0, 0)) ∧ ((wx.setRow (w.heap.size + 1) cv).setRow (w.heap.size + 2) f).heap[w.heap.size + 1]? = some (.cells cv 61 (0, 0)) ∧ ((wx.setRow (w.heap.size + 1) cv).setRow (w.heap.size + 2) f).heap[w.heap.size + 2]? = some (.cells f 64 (0, 0)) ∧ Kp (fun q => q < w.heap.size + 3) wx ((wx.setRow (w.heap.size + 1) cv).setRow (w.heap.size + 2) f) ∧ Below w.heap.size w ((wx.setRow (w.heap.size + 1) cv).setRow (w.heap.size + 2) f) := by
  have k1 := row_kp wx (w.heap.size + 1) cv
  have k2 := row_kp (wx.setRow (w.heap.size + 1) cv) (w.heap.size + 2) f
  have a1 := (k1.block _ (blk_lt h.f) (by omega)).trans h.f
  have r1 := row_same (cs := cv) h.r
  have b1 := h.b.trans (k1.below h.b.size (fun q e => by omega))
  exact ⟨a1, (k2.block _ (blk_lt r1) (by omega)).trans r1, row_same a1, (k1.mono (fun q _ e => by omega)).trans k2 (fun q _ e => by omega), b1.trans (k2.below b1.size (fun q e => by omega))⟩
theorem rtk_0 {k : Nat} {full : Bool} {ks : List ByteArray} {r : List Nat} (hk : k ≠ 1) : rtake k full [] r = rtake k full ks r := by
  unfold rtake
  by_cases h1 : rnest r = true ∧ full = true
  · rw [if_pos h1, if_pos h1]
  rw [if_neg h1, if_neg h1]
  by_cases h2 : rlook k r ≠ 0
  · rw [if_pos h2, if_pos h2]
  rw [if_neg h2, if_neg h2]
  by_cases h3 : (hrd r).s = false
  · rw [if_pos (.inl h3), if_pos (.inl h3)]
  · rw [if_neg (fun e => by rcases e with e | e; exact h3 e; exact hk e.1), if_neg (fun e => by rcases e with e | e; exact h3 e; exact hk e.1)]
theorem Ans.okE {w w' : World} {G : Tv → Nat → Prop} {E : Nat → Nat → Prop} {c : Array Value} {x : Tv} {n : Nat} {z : Int} (hz : ((n : Nat) : Int) = z) (hb : Below w.heap.size w w') (ht : Tis w' (fun q => q < w.heap.size) x c) (hg : G x n) : Ans w (.returned (.tuple #[.agg c, .int .i64 z, .agg zfe])) w' G E := by
  subst hz
  exact Ans.ok hb ht hg
/-- The fault of an item. -/
theorem it_bad {b : List Nat} {d p q k e : Nat} {ks : List ByteArray} (hq : q ≤ d) (h : rtake k (decide (d ≤ q)) ks (b.drop p) = e) (he : e ≠ 0) : ItE b d p q k ks e p :=
  ⟨fun _ => ⟨h, rfl⟩, fun hk st hst => eds_plain (by rw [hst, full_eq hq, rtk_0 (ks := ks) (by decide)]; rw [hk] at h; exact h) he⟩
theorem it_len {b : List Nat} {d p q k : Nat} {ks : List ByteArray} (hp : p ≤ b.length) (h : rtake k (decide (d ≤ q)) ks (b.drop p) = 0) : p < p + rused (b.drop p) ∧ p + rused (b.drop p) ≤ b.length := by
  have hl := (rtake_look h).1
  have h1 := rlook_pos hl
  have h2 := rlook_le hl
  rw [List.length_drop] at h2
  omega
theorem it_leaf {b : List Nat} {d p q k : Nat} {ks : List ByteArray} (hp : p ≤ b.length) (hq : q ≤ d) (h : rtake k (decide (d ≤ q)) ks (b.drop p) = 0) (h6 : (hrd (b.drop p)).m ≠ 6) (h4 : (hrd (b.drop p)).m ≠ 4) (h5 : (hrd (b.drop p)).m ≠ 5) : ItG b d p q k ks (rleaf (hrd (b.drop p)) (rbody (b.drop p))) (p + rused (b.drop p)) := by
  have hl := it_len hp h
  exact ⟨hl.1, hl.2, fun _ => ⟨h, rfl, rfl⟩, fun hk st hst => gos_leaf (by rw [hst, full_eq hq, rtk_0 (ks := ks) (by decide)]; rw [hk] at h; exact h) h6 h4 h5⟩
set_option maxRecDepth 1000000 in
set_option maxHeartbeats 16000000 in
theorem item8_step (b : List Nat) (hbl : b.length ≤ 8388608) (d : Nat) (hd : d ≤ 1024) (p : Nat) (hp : p ≤ b.length) (ih : ∀ p', p < p' → p' ≤ b.length → ItC b d p') : ItC b d p := by
  intro w vB q k ah fi ks hB hq hk ha
  have HB := hide hB
  have HIH := hide ih
  have HBL := hide hbl
  have HQ := hide hq
  have HP := hide hp
  have HK := hide hk
  have HD := hide hd
  have HBB := hide hB.byte
  have HFC : Hid (∀ wx : World, Below w.heap.size w wx → Calls Tryz.prog 60 #[vB, .int .i64 (d : Nat), .agg (wcs8 p q k ah fi)] wx (FltP wx k (decide (d ≤ q)) ks (b.drop p))) := fun wx hb => rfault8_any wx vB b (hB.move (keep_below hb)) hbl d p q k hp hk ah fi ks ha
  have W0 : Hid ((wcs8 p q k ah fi)[0]? = some (.int .i64 (p : Nat))) := rfl
  have W1 : Hid ((wcs8 p q k ah fi)[1]? = some (.int .i64 (q : Nat))) := rfl
  have WZ : Hid ((Tryz.prog.info? 79).map (·.size) = some (wcs8 p q k ah fi).size) := infoRW
  obtain ⟨⟨aB, cB, hvB, _⟩, _, _⟩ := hB
  subst hvB
  generalize hws : wcs8 p q k ah fi = ws at *
  have HWS := hide hws
  clear hws
  have HI := hide (It8.start w ws)
  have HXX := hide HI.out.x
  clear ih hbl hp hk ha hd
  unfold zv zfe at HI HXX
  go_enter Tryz.func23, Tryz.ntmps23
  go_wp2_with (refine wpList_loadAll rfl rfl w.heap.size ws 79 rfl HXX.out Tryz.underlying79 WZ.out ?_)
  rw [show w.heap.size + 1 + 1 = w.heap.size + 2 from rfl]
  generalize ((w.alloc (.cells ws 79)).alloc (.cells #[.int .i64 0, .bool false, .bool false, .int .u64 0, .int .u64 0, .string ⟨#[]⟩, .slice none 0 0, .int .i64 0, .int .u64 0, .int .u64 0, .string ⟨#[]⟩, .slice none 0 0, .slice none 0 0] 61)).alloc (.cells #[.int .i64 0, .int .i64 0] 64) = w3 at *
  replace HI : Hid (It8 w w3 ws) := HI
  clear HXX
  refine (HFC.out w3 HI.out.b).mono ?_
  rintro e w4 ⟨hb4, hc, vb, rfl, hok, h5, hal⟩
  have HIR : Hid ((Tryz.prog.info? 61).map (·.size) = some zv.size) := infoV
  have HZA : Hid (zv.all (·.oneCell') = true) := by show _ = _; simp [zv, Value.oneCell']
  have HIF : Hid (∀ e p, (Tryz.prog.info? 64).map (·.size) = some (fce e p).size) := fun _ _ => infoFE
  have HIZ : Hid ((Tryz.prog.info? 64).map (·.size) = some zfe.size) := infoFE
  have HAZ : Hid (zfe.all (·.oneCell') = true) := fce_all 0 0
  have hmk := row_mkE w4 zh hc 99
  have HGH := hide (heap_alloc_new w4 (.cells zh 99))
  have HIH5 : Hid ((Tryz.prog.info? 99).map (·.size) = some hc.size) := by show _ = _; rw [h5]; exact infoRH
  have HZ5 : Hid (zh.size = hc.size) := by show _ = _; rw [h5]; rfl
  have HAL := hide hal
  have HZ4 : Hid (w.heap.size + 3 ≤ w4.heap.size) := Nat.le_trans HI.out.z hb4.size
  replace HI := hide ((HI.out.next hb4).next hmk.1)
  have HHB := hide hmk.2
  have HB5 := hide hmk.1
  have HOK := hide hok
  clear hmk hok hal h5 hb4 HFC
  generalize hT : rtake k (decide (d ≤ q)) ks (b.drop p) = T at *
  have HT := hide hT
  clear hT
  go_upto_if 28 with (refine wpList_storeRow rfl rfl w4.heap.size zh hc 99 rfl rfl HGH.out HIH5.out HZ5.out HAL.out ?_)
  unfold zh at HI HHB HB5
  generalize (w4.alloc (.cells #[.int .i64 0, .int .i64 0, .int .u64 0, .int .i64 0, .bool false] 99)).setRow w4.heap.size hc = w5 at *
  clear HGH HIH5 HZ5 HAL
  have hz4 := HZ4.out
  by_cases hT0 : T = 0
  case neg => as_aux_lemma =>
    have gk : ((T : Int) != 0) = true := by rw [bne_iff_ne]; omega
    have HBD := hide (it_bad HQ.out HT.out hT0)
    have HT0 := hide hT0
    clear hT0
    go_wp2_with fail
    have hMD := HI.out.next (show Below w5.heap.size w5 w5.drew by refine Below.drew ?_; exact Below.refl _ _)
    have hret := hMD.ret zv (fce T p)
    have HFF := hide hret.1
    have HRET := hide hret.2
    have HRR := hide hMD.r
    have HAF := hide (fce_all T p)
    refine heldStart (S := fun wy => wy.heap[w.heap.size]? = some (.cells ws 79 (0, 0))) (by kernel_rfl) ?_
    have hS : w5.drew.heap[w.heap.size]? = some (.cells ws 79 (0, 0)) := hMD.x
    clear hret hMD
    generalize w5.drew = w6 at *
    refine heldTake 0 _ rfl (by kernel_rfl) (by kernel_rfl) (by kernel_rfl) (fun _ _ _ h => h) rfl hS (fun wy hy => by first | (go_simp; done) | (go_simp; rfl) | rfl) ?_
    (try simp only [Act.put]); (try simp only [List.setIfInBounds_toArray, List.set_cons_zero, List.set_cons_succ])
    refine heldTake 1 _ rfl (by kernel_rfl) (by kernel_rfl) (by kernel_rfl) (fun _ _ _ h => h) rfl hS (fun wy hy => by first | (go_simp; done) | (go_simp; rfl) | rfl) ?_
    (try simp only [Act.put]); (try simp only [List.setIfInBounds_toArray, List.set_cons_zero, List.set_cons_succ])
    refine heldTake 2 _ rfl (by kernel_rfl) (by kernel_rfl) (by kernel_rfl) (fun _ _ _ h => h) rfl hS (fun wy hy => by first | (go_simp; done) | (go_simp; rfl) | rfl) ?_
    (try simp only [Act.put]); (try simp only [List.setIfInBounds_toArray, List.set_cons_zero, List.set_cons_succ])
    refine heldTake 3 _ rfl (by kernel_rfl) (by kernel_rfl) (by kernel_rfl) (fun _ _ _ h => h) rfl hS (fun wy hy => by have h0 := blk_cell (j := 0) hy W0.out; first | (go_simp; done) | (go_simp; rfl) | rfl) ?_
    (try simp only [Act.put]); (try simp only [List.setIfInBounds_toArray, List.set_cons_zero, List.set_cons_succ])
    refine heldTake 4 _ rfl (by kernel_rfl) (by kernel_rfl) (by kernel_rfl) (fun _ _ _ h => h) rfl hS (fun wy hy => by first | (go_simp; done) | (go_simp; rfl) | rfl) ?_
    (try simp only [Act.put]); (try simp only [List.setIfInBounds_toArray, List.set_cons_zero, List.set_cons_succ])
    refine heldStep 5 rfl (by kernel_rfl) (fun K hK => ?_)
    refine step_storeRow rfl rfl (w.heap.size + 1) zv zv 61 rfl rfl HRR.out HIR.out rfl HZA.out ?_
    have hrk := row_kp w6 (w.heap.size + 1) zv
    refine (Hid.out hK) _ _ ((hrk.block _ (blk_lt hS) (by omega)).trans hS) (fun hS4 => ?_)
    clear hK K hS
    (try simp only [Act.put]); (try simp only [List.setIfInBounds_toArray, List.set_cons_zero, List.set_cons_succ])
    refine heldTake 6 _ rfl (by kernel_rfl) (by kernel_rfl) (by kernel_rfl) (fun _ _ _ h => h) rfl hS4 (fun wy hy => by first | (go_simp; done) | (go_simp; rfl) | rfl) ?_
    (try simp only [Act.put]); (try simp only [List.setIfInBounds_toArray, List.set_cons_zero, List.set_cons_succ])
    refine heldStep 7 rfl (by kernel_rfl) (fun K hK => ?_)
    refine step_storeRow rfl rfl (w.heap.size + 2) zfe (fce T p) 64 rfl rfl HFF.out (HIF.out T p) rfl HAF.out ?_
    have hrk2 := row_kp (w6.setRow (w.heap.size + 1) zv) (w.heap.size + 2) (fce T p)
    refine (Hid.out hK) _ _ ((hrk2.block _ (blk_lt hS4) (by omega)).trans hS4) (fun hS5 => ?_)
    clear hK K hS4
    (try simp only [Act.put]); (try simp only [List.setIfInBounds_toArray, List.set_cons_zero, List.set_cons_succ])
    refine heldDone (by kernel_rfl) ?_
    clear hS5
    go_wp2_with fail
    exact bodyPost_ret (end_item rfl HRET.out.1 rfl HRET.out.2.1 rfl rfl rfl) rfl (Ans.bad HRET.out.2.2.2 HT0.out HBD.out)
  subst hT0
  obtain ⟨hhc, hbb⟩ := HOK.out rfl
  subst hhc
  have HBY := hide (hbb.move (keep_below HB5.out))
  obtain ⟨⟨av, cv, hvb, _, _⟩, _, hyb⟩ := hbb
  have HYB := hide hyb
  subst hvb
  have hlen := it_len HP.out HT.out
  have HLN := hide hlen
  have hb9 := HBL.out
  have hru : rused (b.drop p) = (hrd (b.drop p)).u + (rbody (b.drop p)).length := rfl
  have HHN := hide (hrd_bd (b.drop p) (fun x hx => HBB.out x (List.mem_of_mem_drop hx)))
  have hu9 : (hrd (b.drop p)).u + (rbody (b.drop p)).length + p ≤ 8388608 := by omega
  have HU : Hid (((p + rused (b.drop p) : Nat) : Int) = (p : Int) + ((hrd (b.drop p)).u : Int) + ((rbody (b.drop p)).length : Int)) := by show _ = _; rw [hru]; omega
  clear hru hlen HOK HB5
  have w0 := blk_cell (j := 0) HI.out.x W0.out
  have hh0 : w5.cell? ⟨w4.heap.size, 0, none⟩ = some (.int .i64 ((hrd (b.drop p)).m : Nat)) := blk_cell (j := 0) HHB.out rfl
  have hh3 : w5.cell? ⟨w4.heap.size, 3, none⟩ = some (.int .i64 ((hrd (b.drop p)).u : Nat)) := blk_cell (j := 3) HHB.out rfl
  generalize hhr : hrd (b.drop p) = h at *
  generalize hyy : rbody (b.drop p) = y at *
  have HHR := hide hhr
  have HYY := hide hyy
  clear hhr hyy
  have hmk := row_mkE w5 zv zv 61
  have HGV := hide (heap_alloc_new w5 (.cells zv 61))
  have HV := hide hmk.2
  replace HI := hide (HI.out.next hmk.1)
  replace HBY := hide (HBY.out.move (keep_below hmk.1))
  have HHB6 := hide ((hmk.1.block _ (blk_lt HHB.out)).trans HHB.out)
  have HGZ : Hid (w4.heap.size < w5.heap.size) := blk_lt HHB.out
  clear hmk HHB
  go_upto_region 6 with (refine wpList_storeRow rfl rfl w5.heap.size zv #[.int .i64 0, .bool false, .bool false, .int .u64 0, .int .u64 0, .string ⟨#[]⟩, .slice none 0 0, .int .i64 0, .int .u64 0, .int .u64 0, .string ⟨#[]⟩, .slice none 0 0, .slice none 0 0] 61 rfl rfl HGV.out HIR.out rfl HZA.out ?_)
  unfold zv at HI HV HBY HHB6
  generalize (w5.alloc (.cells #[.int .i64 0, .bool false, .bool false, .int .u64 0, .int .u64 0, .string ⟨#[]⟩, .slice none 0 0, .int .i64 0, .int .u64 0, .int .u64 0, .string ⟨#[]⟩, .slice none 0 0, .slice none 0 0] 61)).setRow w5.heap.size #[.int .i64 0, .bool false, .bool false, .int .u64 0, .int .u64 0, .string ⟨#[]⟩, .slice none 0 0, .int .i64 0, .int .u64 0, .int .u64 0, .string ⟨#[]⟩, .slice none 0 0, .slice none 0 0] = w6 at *
  replace HI : Hid (It8 w w6 ws) := HI
  replace HV : Hid (w6.heap[w5.heap.size]? = some (.cells zv 61 (0, 0))) := HV
  generalize w5.heap.size = gv at *
  generalize w4.heap.size = gh at *
  clear hh0 hh3 w0 HGV
  have hgz := HGZ.out
  have hh0 : w6.cell? ⟨gh, 0, none⟩ = some (.int .i64 (h.m : Nat)) := blk_cell (j := 0) HHB6.out rfl
  have hh2 : w6.cell? ⟨gh, 2, none⟩ = some (.int .u64 (h.n : Nat)) := blk_cell (j := 2) HHB6.out rfl

  by_cases hm0 : h.m = 0
  · skip
    as_aux_lemma =>
      have g0 : ((h.m : Int) == 0) = true := beq_iff_eq.2 (by omega)
      have g1 : ((h.m : Int) == 1) = false := beq_eq_false_iff_ne.2 (by omega)
      have HRL : Hid (rleaf h y = .mk 3 false false h.n 0 ⟨#[]⟩ [] ⟨0, 0, 0, []⟩ [] []) := by show _ = _; unfold rleaf; rw [if_pos (by omega)]; simp [hm0]
      have HTB : Hid (Tbd (.mk 3 false false h.n 0 ⟨#[]⟩ [] ⟨0, 0, 0, []⟩ [] [])) := leaf_tbd HHN.out.1 (by show (0 : Nat) < _; decide) (by show (ByteArray.mk #[]).size ≤ _; decide) (by show (0 : Nat) ≤ _; decide) rfl
      have HGG : Hid (ItG b d p q k ks (.mk 3 false false h.n 0 ⟨#[]⟩ [] ⟨0, 0, 0, []⟩ [] []) (p + rused (b.drop p))) := by have h1 := it_leaf HP.out HQ.out HT.out (by rw [HHR.out]; omega) (by rw [HHR.out]; omega) (by rw [HHR.out]; omega); rw [HHR.out, HYY.out, HRL.out] at h1; exact h1
      have HA1 := hide (plain_tis w (fun _ => False) HTB.out rfl rfl rfl).tin.all1
      have hkv := row_kp w6 gv (vcs (.mk 3 false false h.n 0 ⟨#[]⟩ [] ⟨0, 0, 0, []⟩ [] []) (.slice none 0 0) (.slice none 0 0) (.slice none 0 0))
      have HI7 := hide (HI.out.kp hkv (fun q e => by omega))
      have hret := HI7.out.ret (vcs (.mk 3 false false h.n 0 ⟨#[]⟩ [] ⟨0, 0, 0, []⟩ [] []) (.slice none 0 0) (.slice none 0 0) (.slice none 0 0)) zfe
      have HFF := hide hret.1
      have HRET := hide hret.2
      have HRR := hide HI7.out.r
      have HVX : Hid (∀ j u, ((vcs (.mk 3 false false h.n 0 ⟨#[]⟩ [] ⟨0, 0, 0, []⟩ [] []) (.slice none 0 0) (.slice none 0 0) (.slice none 0 0)))[j]? = some u → (w6.setRow gv (vcs (.mk 3 false false h.n 0 ⟨#[]⟩ [] ⟨0, 0, 0, []⟩ [] []) (.slice none 0 0) (.slice none 0 0) (.slice none 0 0))).cell? ⟨gv, 0 + j, none⟩ = some u) := fun j u hu => by rw [Nat.zero_add]; exact blk_cell (row_same HV.out) hu
      have HVV := hide HV.out
      have HIC : Hid ((Tryz.prog.info? 61).map (·.size) = some ((vcs (.mk 3 false false h.n 0 ⟨#[]⟩ [] ⟨0, 0, 0, []⟩ [] []) (.slice none 0 0) (.slice none 0 0) (.slice none 0 0))).size) := infoV
      clear hret hkv HI7
      clear HRL
      go_wp2_with (first
        | (refine wpList_storeRow rfl rfl gv zv (vcs (.mk 3 false false h.n 0 ⟨#[]⟩ [] ⟨0, 0, 0, []⟩ [] []) (.slice none 0 0) (.slice none 0 0) (.slice none 0 0)) 61 rfl rfl HVV.out HIC.out rfl HA1.out ?_)
        | (refine wpList_valAt rfl rfl gv 0 (vcs (.mk 3 false false h.n 0 ⟨#[]⟩ [] ⟨0, 0, 0, []⟩ [] []) (.slice none 0 0) (.slice none 0 0) (.slice none 0 0)) rfl rfl HVX.out ?_)
        | (refine wpList_storeRow rfl rfl (w.heap.size + 1) zv (vcs (.mk 3 false false h.n 0 ⟨#[]⟩ [] ⟨0, 0, 0, []⟩ [] []) (.slice none 0 0) (.slice none 0 0) (.slice none 0 0)) 61 rfl rfl HRR.out HIC.out rfl HA1.out ?_)
        | (refine wpList_storeRow rfl rfl (w.heap.size + 2) zfe zfe 64 rfl rfl HFF.out HIZ.out rfl HAZ.out ?_))
      exact bodyPost_ret (end_item rfl HRET.out.1 rfl HRET.out.2.1 rfl rfl rfl) rfl (Ans.okE HU.out HRET.out.2.2.2 (plain_tis _ _ HTB.out rfl rfl rfl) HGG.out)
  have g0 : ((h.m : Int) == 0) = false := beq_eq_false_iff_ne.2 (by omega)
  by_cases hm1 : h.m = 1
  · skip
    as_aux_lemma =>
      have g1 : ((h.m : Int) == 1) = true := beq_iff_eq.2 (by omega)
      have HRL : Hid (rleaf h y = .mk 3 false true h.n 0 ⟨#[]⟩ [] ⟨0, 0, 0, []⟩ [] []) := by show _ = _; unfold rleaf; rw [if_pos (by omega)]; simp [hm1]
      have HTB : Hid (Tbd (.mk 3 false true h.n 0 ⟨#[]⟩ [] ⟨0, 0, 0, []⟩ [] [])) := leaf_tbd HHN.out.1 (by show (0 : Nat) < _; decide) (by show (ByteArray.mk #[]).size ≤ _; decide) (by show (0 : Nat) ≤ _; decide) rfl
      have HGG : Hid (ItG b d p q k ks (.mk 3 false true h.n 0 ⟨#[]⟩ [] ⟨0, 0, 0, []⟩ [] []) (p + rused (b.drop p))) := by have h1 := it_leaf HP.out HQ.out HT.out (by rw [HHR.out]; omega) (by rw [HHR.out]; omega) (by rw [HHR.out]; omega); rw [HHR.out, HYY.out, HRL.out] at h1; exact h1
      have HA1 := hide (plain_tis w (fun _ => False) HTB.out rfl rfl rfl).tin.all1
      have hkv := row_kp w6 gv (vcs (.mk 3 false true h.n 0 ⟨#[]⟩ [] ⟨0, 0, 0, []⟩ [] []) (.slice none 0 0) (.slice none 0 0) (.slice none 0 0))
      have HI7 := hide (HI.out.kp hkv (fun q e => by omega))
      have hret := HI7.out.ret (vcs (.mk 3 false true h.n 0 ⟨#[]⟩ [] ⟨0, 0, 0, []⟩ [] []) (.slice none 0 0) (.slice none 0 0) (.slice none 0 0)) zfe
      have HFF := hide hret.1
      have HRET := hide hret.2
      have HRR := hide HI7.out.r
      have HVX : Hid (∀ j u, ((vcs (.mk 3 false true h.n 0 ⟨#[]⟩ [] ⟨0, 0, 0, []⟩ [] []) (.slice none 0 0) (.slice none 0 0) (.slice none 0 0)))[j]? = some u → (w6.setRow gv (vcs (.mk 3 false true h.n 0 ⟨#[]⟩ [] ⟨0, 0, 0, []⟩ [] []) (.slice none 0 0) (.slice none 0 0) (.slice none 0 0))).cell? ⟨gv, 0 + j, none⟩ = some u) := fun j u hu => by rw [Nat.zero_add]; exact blk_cell (row_same HV.out) hu
      have HVV := hide HV.out
      have HIC : Hid ((Tryz.prog.info? 61).map (·.size) = some ((vcs (.mk 3 false true h.n 0 ⟨#[]⟩ [] ⟨0, 0, 0, []⟩ [] []) (.slice none 0 0) (.slice none 0 0) (.slice none 0 0))).size) := infoV
      clear hret hkv HI7
      clear HRL
      go_wp2_with (first
        | (refine wpList_storeRow rfl rfl gv zv (vcs (.mk 3 false true h.n 0 ⟨#[]⟩ [] ⟨0, 0, 0, []⟩ [] []) (.slice none 0 0) (.slice none 0 0) (.slice none 0 0)) 61 rfl rfl HVV.out HIC.out rfl HA1.out ?_)
        | (refine wpList_valAt rfl rfl gv 0 (vcs (.mk 3 false true h.n 0 ⟨#[]⟩ [] ⟨0, 0, 0, []⟩ [] []) (.slice none 0 0) (.slice none 0 0) (.slice none 0 0)) rfl rfl HVX.out ?_)
        | (refine wpList_storeRow rfl rfl (w.heap.size + 1) zv (vcs (.mk 3 false true h.n 0 ⟨#[]⟩ [] ⟨0, 0, 0, []⟩ [] []) (.slice none 0 0) (.slice none 0 0) (.slice none 0 0)) 61 rfl rfl HRR.out HIC.out rfl HA1.out ?_)
        | (refine wpList_storeRow rfl rfl (w.heap.size + 2) zfe zfe 64 rfl rfl HFF.out HIZ.out rfl HAZ.out ?_))
      exact bodyPost_ret (end_item rfl HRET.out.1 rfl HRET.out.2.1 rfl rfl rfl) rfl (Ans.okE HU.out HRET.out.2.2.2 (plain_tis _ _ HTB.out rfl rfl rfl) HGG.out)
  have g1 : ((h.m : Int) == 1) = false := beq_eq_false_iff_ne.2 (by omega)
  by_cases hm3 : h.m = 3
  · skip
    as_aux_lemma =>
      have g2 : ((h.m : Int) == 2) = false := beq_eq_false_iff_ne.2 (by omega)
      have g3 : ((h.m : Int) == 3) = true := beq_iff_eq.2 (by omega)
      have hcv : Sem.run Tryz.prog (convert 46 9 (.slice av y.length cv)) w6 = .ok (.string (nstr y)) w6 := HBY.out.text
      have HRL : Hid (rleaf h y = .mk 5 false false 0 0 (nstr y) [] ⟨0, 0, 0, []⟩ [] []) := by show _ = _; unfold rleaf; rw [if_neg (by omega), if_neg (by omega), if_pos hm3]
      have HTB : Hid (Tbd (.mk 5 false false 0 0 (nstr y) [] ⟨0, 0, 0, []⟩ [] [])) := leaf_tbd (by show (0 : Nat) < _; decide) (by show (0 : Nat) < _; decide) (by show (nstr y).size ≤ _; rw [nstr_size hyb]; omega) (by show (0 : Nat) ≤ _; decide) rfl
      have HGG : Hid (ItG b d p q k ks (.mk 5 false false 0 0 (nstr y) [] ⟨0, 0, 0, []⟩ [] []) (p + rused (b.drop p))) := by have h1 := it_leaf HP.out HQ.out HT.out (by rw [HHR.out]; omega) (by rw [HHR.out]; omega) (by rw [HHR.out]; omega); rw [HHR.out, HYY.out, HRL.out] at h1; exact h1
      have HA1 := hide (plain_tis w (fun _ => False) HTB.out rfl rfl rfl).tin.all1
      have hkv := row_kp w6 gv (vcs (.mk 5 false false 0 0 (nstr y) [] ⟨0, 0, 0, []⟩ [] []) (.slice none 0 0) (.slice none 0 0) (.slice none 0 0))
      have HI7 := hide (HI.out.kp hkv (fun q e => by omega))
      have hret := HI7.out.ret (vcs (.mk 5 false false 0 0 (nstr y) [] ⟨0, 0, 0, []⟩ [] []) (.slice none 0 0) (.slice none 0 0) (.slice none 0 0)) zfe
      have HFF := hide hret.1
      have HRET := hide hret.2
      have HRR := hide HI7.out.r
      have HVX : Hid (∀ j u, ((vcs (.mk 5 false false 0 0 (nstr y) [] ⟨0, 0, 0, []⟩ [] []) (.slice none 0 0) (.slice none 0 0) (.slice none 0 0)))[j]? = some u → (w6.setRow gv (vcs (.mk 5 false false 0 0 (nstr y) [] ⟨0, 0, 0, []⟩ [] []) (.slice none 0 0) (.slice none 0 0) (.slice none 0 0))).cell? ⟨gv, 0 + j, none⟩ = some u) := fun j u hu => by rw [Nat.zero_add]; exact blk_cell (row_same HV.out) hu
      have HVV := hide HV.out
      have HIC : Hid ((Tryz.prog.info? 61).map (·.size) = some ((vcs (.mk 5 false false 0 0 (nstr y) [] ⟨0, 0, 0, []⟩ [] []) (.slice none 0 0) (.slice none 0 0) (.slice none 0 0))).size) := infoV
      clear hret hkv HI7
      clear HRL
      go_wp2_with (first
        | (refine wpList_storeRow rfl rfl gv zv (vcs (.mk 5 false false 0 0 (nstr y) [] ⟨0, 0, 0, []⟩ [] []) (.slice none 0 0) (.slice none 0 0) (.slice none 0 0)) 61 rfl rfl HVV.out HIC.out rfl HA1.out ?_)
        | (refine wpList_valAt rfl rfl gv 0 (vcs (.mk 5 false false 0 0 (nstr y) [] ⟨0, 0, 0, []⟩ [] []) (.slice none 0 0) (.slice none 0 0) (.slice none 0 0)) rfl rfl HVX.out ?_)
        | (refine wpList_storeRow rfl rfl (w.heap.size + 1) zv (vcs (.mk 5 false false 0 0 (nstr y) [] ⟨0, 0, 0, []⟩ [] []) (.slice none 0 0) (.slice none 0 0) (.slice none 0 0)) 61 rfl rfl HRR.out HIC.out rfl HA1.out ?_)
        | (refine wpList_storeRow rfl rfl (w.heap.size + 2) zfe zfe 64 rfl rfl HFF.out HIZ.out rfl HAZ.out ?_))
      exact bodyPost_ret (end_item rfl HRET.out.1 rfl HRET.out.2.1 rfl rfl rfl) rfl (Ans.okE HU.out HRET.out.2.2.2 (plain_tis _ _ HTB.out rfl rfl rfl) HGG.out)
  have g3 : ((h.m : Int) == 3) = false := beq_eq_false_iff_ne.2 (by omega)
  by_cases hm7 : h.m = 7
  · as_aux_lemma =>
    have g2 : ((h.m : Int) == 2) = false := beq_eq_false_iff_ne.2 (by omega)
    have g6 : ((h.m : Int) == 6) = false := beq_eq_false_iff_ne.2 (by omega)
    have g4 : ((h.m : Int) == 4) = false := beq_eq_false_iff_ne.2 (by omega)
    have g5 : ((h.m : Int) == 5) = false := beq_eq_false_iff_ne.2 (by omega)
    have hy0 : y = [] := by rw [← HYY.out]; unfold rbody; rw [HHR.out, if_neg (by omega)]
    have HRL : Hid (rleaf h y = rleaf h []) := by show _ = _; rw [hy0]
    have HGG : Hid (ItG b d p q k ks (rleaf h []) (p + rused (b.drop p))) := by have h1 := it_leaf HP.out HQ.out HT.out (by rw [HHR.out]; omega) (by rw [HHR.out]; omega) (by rw [HHR.out]; omega); rw [HHR.out, HYY.out, HRL.out] at h1; exact h1
    have HM7 := hide hm7
    clear hy0 HRL hm7
    go_wp2_with (refine wpList_loadAll rfl rfl gh (hcs h) 99 rfl HHB6.out Tryz.underlying99 infoRH ?_)
    refine (rother8_any w6 h HM7.out HHN.out.1).mono ?_
    rintro e w7 ⟨rfl, hb7, htb, hty, htk, hti⟩
    replace HI := hide (HI.out.next hb7)
    replace HV := hide ((hb7.block _ (blk_lt HV.out)).trans HV.out)
    have HTT : Hid (∀ wz S, Tis wz S (rleaf h []) (vcs (rleaf h []) (.slice none 0 0) (.slice none 0 0) (.slice none 0 0))) := fun wz S => plain_tis wz S htb hty htk hti
    have HA1 := hide (HTT.out w (fun _ => False)).tin.all1
    clear hb7 htb hty htk hti hh0 hh2 HBY HHB6
    have hkv := row_kp w7 gv (vcs (rleaf h []) (.slice none 0 0) (.slice none 0 0) (.slice none 0 0))
    have HI7 := hide (HI.out.kp hkv (fun q e => by omega))
    have hret := HI7.out.ret (vcs (rleaf h []) (.slice none 0 0) (.slice none 0 0) (.slice none 0 0)) zfe
    have HFF := hide hret.1
    have HRET := hide hret.2
    have HRR := hide HI7.out.r
    have HVX : Hid (∀ j u, ((vcs (rleaf h []) (.slice none 0 0) (.slice none 0 0) (.slice none 0 0)))[j]? = some u → (w7.setRow gv (vcs (rleaf h []) (.slice none 0 0) (.slice none 0 0) (.slice none 0 0))).cell? ⟨gv, 0 + j, none⟩ = some u) := fun j u hu => by rw [Nat.zero_add]; exact blk_cell (row_same HV.out) hu
    have HVV := hide HV.out
    have HIC : Hid ((Tryz.prog.info? 61).map (·.size) = some ((vcs (rleaf h []) (.slice none 0 0) (.slice none 0 0) (.slice none 0 0))).size) := infoV
    clear hret hkv HI7
    go_wp2_with (first
      | (refine wpList_storeRow rfl rfl gv zv (vcs (rleaf h []) (.slice none 0 0) (.slice none 0 0) (.slice none 0 0)) 61 rfl rfl HVV.out HIC.out rfl HA1.out ?_)
      | (refine wpList_valAt rfl rfl gv 0 (vcs (rleaf h []) (.slice none 0 0) (.slice none 0 0) (.slice none 0 0)) rfl rfl HVX.out ?_)
      | (refine wpList_storeRow rfl rfl (w.heap.size + 1) zv (vcs (rleaf h []) (.slice none 0 0) (.slice none 0 0) (.slice none 0 0)) 61 rfl rfl HRR.out HIC.out rfl HA1.out ?_)
      | (refine wpList_storeRow rfl rfl (w.heap.size + 2) zfe zfe 64 rfl rfl HFF.out HIZ.out rfl HAZ.out ?_))
    exact bodyPost_ret (end_item rfl HRET.out.1 rfl HRET.out.2.1 rfl rfl rfl) rfl (Ans.okE HU.out HRET.out.2.2.2 (HTT.out _ _) HGG.out)
  have g7 : ¬ h.m = 7 := hm7
  clear g7
  by_cases hm2 : h.m = 2
  · as_aux_lemma =>
    have g2 : ((h.m : Int) == 2) = true := beq_iff_eq.2 (by omega)
    have HRL : Hid (rleaf h y = .mk 6 false false 0 0 ⟨#[]⟩ y ⟨0, 0, 0, []⟩ [] []) := by show _ = _; unfold rleaf; rw [if_neg (by omega), if_pos hm2]
    have HGG : Hid (ItG b d p q k ks (.mk 6 false false 0 0 ⟨#[]⟩ y ⟨0, 0, 0, []⟩ [] []) (p + rused (b.drop p))) := by have h1 := it_leaf HP.out HQ.out HT.out (by rw [HHR.out]; omega) (by rw [HHR.out]; omega) (by rw [HHR.out]; omega); rw [HHR.out, HYY.out, HRL.out] at h1; exact h1
    clear HRL hm2
    go_wp2_with fail
    refine (copy_any w6 _ y HBY.out (by omega)).mono ?_
    rintro e w7 ⟨v1, rfl, ho1, hb7⟩
    obtain ⟨a1, k1, hv1⟩ := own_slice8 ho1
    subst hv1
    have HO1 := hide ho1
    have HGL : Hid (gv < w6.heap.size) := blk_lt HV.out
    have HZ6 := hide HI.out.z
    replace HI := hide (HI.out.next hb7)
    replace HV := hide ((hb7.block _ (blk_lt HV.out)).trans HV.out)
    have HA1 : Hid ((vcs (.mk 6 false false 0 0 ⟨#[]⟩ y ⟨0, 0, 0, []⟩ [] []) (.slice a1 y.length k1) (.slice none 0 0) (.slice none 0 0)).all (·.oneCell') = true) := by
      show _ = _
      rw [Array.all_eq_true']
      intro u hu
      simp only [vcs, List.mem_toArray, List.mem_cons, List.not_mem_nil, or_false] at hu
      rcases hu with rfl | rfl | rfl | rfl | rfl | rfl | rfl | rfl | rfl | rfl | rfl | rfl | rfl <;> rfl
    clear ho1 hb7 hh0 hh2 HBY HHB6
    have hkv := row_kp w7 gv (vcs (.mk 6 false false 0 0 ⟨#[]⟩ y ⟨0, 0, 0, []⟩ [] []) (.slice a1 y.length k1) (.slice none 0 0) (.slice none 0 0))
    have HI7 := hide (HI.out.kp hkv (fun q e => by omega))
    have hret := HI7.out.ret (vcs (.mk 6 false false 0 0 ⟨#[]⟩ y ⟨0, 0, 0, []⟩ [] []) (.slice a1 y.length k1) (.slice none 0 0) (.slice none 0 0)) zfe
    have HFF := hide hret.1
    have HRET := hide hret.2
    have HRR := hide HI7.out.r
    have HVX : Hid (∀ j u, ((vcs (.mk 6 false false 0 0 ⟨#[]⟩ y ⟨0, 0, 0, []⟩ [] []) (.slice a1 y.length k1) (.slice none 0 0) (.slice none 0 0)))[j]? = some u → (w7.setRow gv (vcs (.mk 6 false false 0 0 ⟨#[]⟩ y ⟨0, 0, 0, []⟩ [] []) (.slice a1 y.length k1) (.slice none 0 0) (.slice none 0 0))).cell? ⟨gv, 0 + j, none⟩ = some u) := fun j u hu => by rw [Nat.zero_add]; exact blk_cell (row_same HV.out) hu
    have HVV := hide HV.out
    have HIC : Hid ((Tryz.prog.info? 61).map (·.size) = some ((vcs (.mk 6 false false 0 0 ⟨#[]⟩ y ⟨0, 0, 0, []⟩ [] []) (.slice a1 y.length k1) (.slice none 0 0) (.slice none 0 0))).size) := infoV
    clear hret hkv HI7
    have HTT : Hid (Tis ((((w7.setRow gv (vcs (.mk 6 false false 0 0 ⟨#[]⟩ y ⟨0, 0, 0, []⟩ [] []) (.slice a1 y.length k1) (.slice none 0 0) (.slice none 0 0))).setRow (w.heap.size + 1) (vcs (.mk 6 false false 0 0 ⟨#[]⟩ y ⟨0, 0, 0, []⟩ [] []) (.slice a1 y.length k1) (.slice none 0 0) (.slice none 0 0))).setRow (w.heap.size + 2) zfe)) (fun q => q < w.heap.size) (.mk 6 false false 0 0 ⟨#[]⟩ y ⟨0, 0, 0, []⟩ [] []) (vcs (.mk 6 false false 0 0 ⟨#[]⟩ y ⟨0, 0, 0, []⟩ [] []) (.slice a1 y.length k1) (.slice none 0 0) (.slice none 0 0))) := by
      have h6 := HZ6.out
      have hgl := HGL.out
      have ho := HRET.out.2.2.1.owns ((row_kp w7 gv (vcs (.mk 6 false false 0 0 ⟨#[]⟩ y ⟨0, 0, 0, []⟩ [] []) (.slice a1 y.length k1) (.slice none 0 0) (.slice none 0 0))).owns HO1.out (fun q hq e => by have := (HO1.out.lt q hq).1; omega)) (fun q hq e => by have := (HO1.out.lt q hq).1; omega)
      exact Tis.mk _ _ _ _ (leaf_tbd (by show (0 : Nat) < _; decide) (by show (0 : Nat) < _; decide) (by show (ByteArray.mk #[]).size ≤ _; decide) (by show y.length ≤ _; omega) rfl) (BSl.own ho HYB.out) (fun _ q hq e => by have := (HO1.out.lt q hq).1; omega) ⟨⟨none, 0, rfl, ⟨Nat.le_refl _, fun _ => rfl⟩, .inl rfl⟩, by show (0 : Nat) ≤ _; decide, fun x hx => (by cases hx)⟩ (fun h => absurd rfl h) (fun _ => #[]) none 0 rfl ⟨Nat.le_refl _, fun _ => rfl⟩ (by show (0 : Nat) ≤ _; decide) (fun i u hu => (by cases hu)) (.inl rfl)
    go_wp2_with (first
      | (refine wpList_storeRow rfl rfl gv zv (vcs (.mk 6 false false 0 0 ⟨#[]⟩ y ⟨0, 0, 0, []⟩ [] []) (.slice a1 y.length k1) (.slice none 0 0) (.slice none 0 0)) 61 rfl rfl HVV.out HIC.out rfl HA1.out ?_)
      | (refine wpList_valAt rfl rfl gv 0 (vcs (.mk 6 false false 0 0 ⟨#[]⟩ y ⟨0, 0, 0, []⟩ [] []) (.slice a1 y.length k1) (.slice none 0 0) (.slice none 0 0)) rfl rfl HVX.out ?_)
      | (refine wpList_storeRow rfl rfl (w.heap.size + 1) zv (vcs (.mk 6 false false 0 0 ⟨#[]⟩ y ⟨0, 0, 0, []⟩ [] []) (.slice a1 y.length k1) (.slice none 0 0) (.slice none 0 0)) 61 rfl rfl HRR.out HIC.out rfl HA1.out ?_)
      | (refine wpList_storeRow rfl rfl (w.heap.size + 2) zfe zfe 64 rfl rfl HFF.out HIZ.out rfl HAZ.out ?_))
    exact bodyPost_ret (end_item rfl HRET.out.1 rfl HRET.out.2.1 rfl rfl rfl) rfl (Ans.okE HU.out HRET.out.2.2.2 HTT.out HGG.out)
  have g2 : ((h.m : Int) == 2) = false := beq_eq_false_iff_ne.2 (by omega)
  have hk0 : k = 0 := by
    rcases HK.out with h1 | h1 | h1
    · exact h1
    · have h2 := HT.out
      rw [h1] at h2
      have h3 := rtk_key h2
      rw [HHR.out] at h3
      omega
    · have h2 := HT.out
      rw [h1] at h2
      have h3 := (rlook_name (rtake_look h2).1).1
      rw [HHR.out] at h3
      omega
  subst hk0
  have HT0 : Hid (∀ st : List Nst, st.length = q → rtake 0 (decide (st.length = d)) [] (b.drop p) = 0) := fun st hst => by rw [hst, full_eq HQ.out, rtk_0 (ks := ks) (by decide)]; exact HT.out
  have HB6 : Hid (BSl w6 (.slice aB b.length cB) b) := HB.out.move (keep_below HI.out.b)
  have HZ6 := hide HI.out.z
  have HXX := hide HI.out.x
  by_cases hm6 : h.m = 6
  case neg =>
    have g6 : ((h.m : Int) == 6) = false := beq_eq_false_iff_ne.2 (by omega)
    have hm45 : h.m = 4 ∨ h.m = 5 := by have := HHN.out.2.1; omega
    have hq1 : q + 1 ≤ d := by
      have h1 := rtake_look HT.out
      have h2 := rnest_of (rlook_e h1.1) (by rw [HHR.out]; exact hm45)
      have h3 : ¬ decide (d ≤ q) = true := fun e => h1.2 ⟨h2, e⟩
      have h4 : ¬ d ≤ q := fun e => h3 (decide_eq_true e)
      omega
    obtain ⟨kk, HKK, HGS⟩ : ∃ kk : Int, Hid ((h.m = 4 ∧ kk = 8) ∨ (h.m = 5 ∧ kk = 9)) ∧ Hid (∀ st : List Nst, st.length = q → Gos b d ⟨.plain, p, st⟩ ⟨.inside, p + rused (b.drop p), ⟨kk, [], [], h.n⟩ :: st⟩) := by
      rcases hm45 with h4 | h5
      · exact ⟨8, .inl ⟨h4, rfl⟩, fun st hst => by have h1 := gos_list (b := b) (d := d) (p := p) (HT0.out st hst) (by rw [HHR.out]; exact h4); rw [HHR.out] at h1; exact h1⟩
      · exact ⟨9, .inr ⟨h5, rfl⟩, fun st hst => by have h1 := gos_map (b := b) (d := d) (p := p) (HT0.out st hst) (by rw [HHR.out]; exact h5); rw [HHR.out] at h1; exact h1⟩
    have HMC := hide (many8_any b HBL.out d HD.out (p + rused (b.drop p)) HLN.out.2 (fun p' h1 h2 => HIH.out p' (by have := HLN.out.1; omega) h2) w6 (.slice aB b.length cB) p q 0 ah fi h kk HB6.out hq1 HKK.out HHN.out.1)
    rw [HWS.out, HU.out] at HMC
    have hcall : ∀ (e : Ending) (w' : World), True := fun _ _ => trivial
    clear hcall
    rcases hm45 with h4 | h5
    · as_aux_lemma =>
      have g4 : ((h.m : Int) == 4) = true := beq_iff_eq.2 (by omega)
      go_wp2_with (first
        | (refine wpList_loadAll rfl rfl w.heap.size ws 79 rfl HXX.out Tryz.underlying79 WZ.out ?_)
        | (refine wpList_loadAll rfl rfl gh (hcs h) 99 rfl HHB6.out Tryz.underlying99 infoRH ?_))
      refine HMC.out.mono ?_
      rintro e w7 ⟨hb7, hans⟩
      replace HI := hide (HI.out.next hb7)
      clear HMC hh0 hh2 HBY HHB6 HV HXX HB6
      rcases hans with ⟨c, x, m', rfl, ht, hg⟩ | ⟨e1, p1, h0, rfl, he⟩
      · as_aux_lemma =>
        have HS13 := hide ht.tin.size13
        have HA1 := hide ht.tin.all1
        have HINc : Hid ((Tryz.prog.info? 61).map (·.size) = some c.size) := by show _ = _; rw [HS13.out]; exact infoV
        have HZVc : Hid (zv.size = c.size) := by show _ = _; rw [HS13.out]; rfl
        have hret := HI.out.ret c zfe
        have HFF := hide hret.1
        have HRET := hide hret.2
        have HRR := hide HI.out.r
        have HTT : Hid (Tis ((w7.setRow (w.heap.size + 1) c).setRow (w.heap.size + 2) zfe) (fun q => q < w.heap.size) x c) := (ht.kp (hret.2.2.2.1.mono (fun q _ e => by have := HZ6.out; omega))).mono (fun q e => by have := HZ6.out; omega)
        have HGG : Hid (ItG b d p q 0 ks x m') := ⟨by have := HLN.out.1; have := hg.1; omega, hg.2.1, fun e => absurd rfl e, fun _ st hst => (HGS.out st hst).trans (hg.2.2 st hst)⟩
        clear hret hb7 ht hg
        go_wp2_with (first
          | (refine wpList_storeRow rfl rfl (w.heap.size + 1) zv c 61 rfl rfl HRR.out HINc.out HZVc.out HA1.out ?_)
          | (refine wpList_storeRow rfl rfl (w.heap.size + 2) zfe zfe 64 rfl rfl HFF.out HIZ.out rfl HAZ.out ?_))
        exact bodyPost_ret (end_item HS13.out HRET.out.1 rfl HRET.out.2.1 rfl rfl rfl) rfl (Ans.ok HRET.out.2.2.2 HTT.out HGG.out)
      · as_aux_lemma =>
        have hret := HI.out.ret zv (fce e1 p1)
        have HFF := hide hret.1
        have HRET := hide hret.2
        have HRR := hide HI.out.r
        have HAF := hide (fce_all e1 p1)
        have HGG : Hid (ItE b d p q 0 ks e1 p1) := ⟨fun e => absurd rfl e, fun _ st hst => (HGS.out st hst).eds (he st hst)⟩
        have HE0 := hide h0
        clear hret hb7 he h0
        go_wp2_with (first
          | (refine wpList_storeRow rfl rfl (w.heap.size + 1) zv zv 61 rfl rfl HRR.out HIR.out rfl HZA.out ?_)
          | (refine wpList_storeRow rfl rfl (w.heap.size + 2) zfe (fce e1 p1) 64 rfl rfl HFF.out (HIF.out e1 p1) rfl HAF.out ?_))
        exact bodyPost_ret (end_item rfl HRET.out.1 rfl HRET.out.2.1 rfl rfl rfl) rfl (Ans.bad HRET.out.2.2.2 HE0.out HGG.out)
    · as_aux_lemma =>
      have g4 : ((h.m : Int) == 4) = false := beq_eq_false_iff_ne.2 (by omega)
      have g5 : ((h.m : Int) == 5) = true := beq_iff_eq.2 (by omega)
      go_wp2_with (first
        | (refine wpList_loadAll rfl rfl w.heap.size ws 79 rfl HXX.out Tryz.underlying79 WZ.out ?_)
        | (refine wpList_loadAll rfl rfl gh (hcs h) 99 rfl HHB6.out Tryz.underlying99 infoRH ?_))
      refine HMC.out.mono ?_
      rintro e w7 ⟨hb7, hans⟩
      replace HI := hide (HI.out.next hb7)
      clear HMC hh0 hh2 HBY HHB6 HV HXX HB6
      rcases hans with ⟨c, x, m', rfl, ht, hg⟩ | ⟨e1, p1, h0, rfl, he⟩
      · as_aux_lemma =>
        have HS13 := hide ht.tin.size13
        have HA1 := hide ht.tin.all1
        have HINc : Hid ((Tryz.prog.info? 61).map (·.size) = some c.size) := by show _ = _; rw [HS13.out]; exact infoV
        have HZVc : Hid (zv.size = c.size) := by show _ = _; rw [HS13.out]; rfl
        have hret := HI.out.ret c zfe
        have HFF := hide hret.1
        have HRET := hide hret.2
        have HRR := hide HI.out.r
        have HTT : Hid (Tis ((w7.setRow (w.heap.size + 1) c).setRow (w.heap.size + 2) zfe) (fun q => q < w.heap.size) x c) := (ht.kp (hret.2.2.2.1.mono (fun q _ e => by have := HZ6.out; omega))).mono (fun q e => by have := HZ6.out; omega)
        have HGG : Hid (ItG b d p q 0 ks x m') := ⟨by have := HLN.out.1; have := hg.1; omega, hg.2.1, fun e => absurd rfl e, fun _ st hst => (HGS.out st hst).trans (hg.2.2 st hst)⟩
        clear hret hb7 ht hg
        go_wp2_with (first
          | (refine wpList_storeRow rfl rfl (w.heap.size + 1) zv c 61 rfl rfl HRR.out HINc.out HZVc.out HA1.out ?_)
          | (refine wpList_storeRow rfl rfl (w.heap.size + 2) zfe zfe 64 rfl rfl HFF.out HIZ.out rfl HAZ.out ?_))
        exact bodyPost_ret (end_item HS13.out HRET.out.1 rfl HRET.out.2.1 rfl rfl rfl) rfl (Ans.ok HRET.out.2.2.2 HTT.out HGG.out)
      · as_aux_lemma =>
        have hret := HI.out.ret zv (fce e1 p1)
        have HFF := hide hret.1
        have HRET := hide hret.2
        have HRR := hide HI.out.r
        have HAF := hide (fce_all e1 p1)
        have HGG : Hid (ItE b d p q 0 ks e1 p1) := ⟨fun e => absurd rfl e, fun _ st hst => (HGS.out st hst).eds (he st hst)⟩
        have HE0 := hide h0
        clear hret hb7 he h0
        go_wp2_with (first
          | (refine wpList_storeRow rfl rfl (w.heap.size + 1) zv zv 61 rfl rfl HRR.out HIR.out rfl HZA.out ?_)
          | (refine wpList_storeRow rfl rfl (w.heap.size + 2) zfe (fce e1 p1) 64 rfl rfl HFF.out (HIF.out e1 p1) rfl HAF.out ?_))
        exact bodyPost_ret (end_item rfl HRET.out.1 rfl HRET.out.2.1 rfl rfl rfl) rfl (Ans.bad HRET.out.2.2.2 HE0.out HGG.out)
  have g6 : ((h.m : Int) == 6) = true := beq_iff_eq.2 (by omega)
  have HGS : Hid (∀ st : List Nst, st.length = q → Gos b d ⟨.plain, p, st⟩ ⟨.name, p + rused (b.drop p), st⟩) := fun st hst => gos_tag (HT0.out st hst) (by rw [HHR.out]; exact hm6)
  have HIC := hide (HIH.out (p + rused (b.drop p)) HLN.out.1 HLN.out.2 w6 (.slice aB b.length cB) q 2 ⟨#[]⟩ false [] HB6.out HQ.out (.inr (.inr rfl)) (fun e => absurd e (by decide)))
  unfold wcs8 at HIC
  rw [HU.out] at HIC
  have wq := blk_cell (j := 1) HXX.out W1.out
  clear hm6
  go_wp2_with fail
  refine HIC.out.mono ?_
  rintro e w2 ⟨hb2, hans⟩
  replace HI := hide (HI.out.next hb2)
  clear HIC hh0 hh2 HBY HHB6 HV HXX HB6 wq
  have HZ2 := hide HI.out.z
  rcases hans with ⟨c, v, m', rfl, ht, hg⟩ | ⟨e1, p1, h0, rfl, he⟩
  · as_aux_lemma =>
    obtain ⟨hrt, hmm, hvv⟩ := hg.2.2.1 (by decide)
    obtain ⟨n1, n2, n3⟩ := rlook_name (rtake_look hrt).1
    have HGN : Hid (∀ st : List Nst, st.length = q → Gos b d ⟨.name, p + rused (b.drop p), st⟩ ⟨.done (.mk 7 false false 0 0 ⟨#[]⟩ [] (lparse (rbody (b.drop (p + rused (b.drop p)))).tail).1 [] []), m', st⟩) := fun st hst => by rw [hmm]; exact gos_name (by rw [hst, full_eq HQ.out]; exact hrt)
    have hvy : v.y = rbody (b.drop (p + rused (b.drop p))) := by rw [hvv]; unfold rleaf; rw [if_neg (by omega), if_pos n1]; rfl
    obtain ⟨vy, vk, vi, hcc, hby, _, _, _⟩ := ht.tin.parts
    rw [hvy] at hby
    have c6 : c[6]? = some vy := by rw [hcc]; rfl
    have hbd := lnk_tbd (b := (rbody (b.drop (p + rused (b.drop p)))).tail) (fun x hx => hby.byte x (List.mem_of_mem_tail hx)) n3 7
    have HN3 : Hid (p < m' ∧ m' ≤ b.length) := ⟨by have := HLN.out.1; have := hg.1; omega, hg.2.1⟩
    obtain ⟨z0, zr, hzr⟩ : ∃ z0 zr, rbody (b.drop (p + rused (b.drop p))) = z0 :: zr := by
      cases hr : rbody (b.drop (p + rused (b.drop p))) with
      | nil => rw [hr] at n2; cases n2
      | cons a r => exact ⟨a, r, rfl⟩
    rw [hzr] at hby hbd HGN n3
    have HX := hide (bx2 w2 c zfe)
    have HXa := hide HX.out.a
    have HXb := hide HX.out.b
    replace HI := hide (HI.out.next HX.out.l)
    have HV3 := hide HX.out.x
    have HY3 := hide HX.out.y
    have HBV := hide (hby.move (keep_below HX.out.l))
    obtain ⟨⟨a6, k6, hv6, hn6, _⟩, _, _⟩ := hby
    subst hv6
    have HN6 := hide hn6
    have HC6 := hide c6
    have HS13 := hide ht.tin.size13
    have HA1 := hide ht.tin.all1
    have HINc : Hid ((Tryz.prog.info? 61).map (·.size) = some c.size) := by show _ = _; rw [HS13.out]; exact infoV
    have HZVc : Hid (zv.size = c.size) := by show _ = _; rw [HS13.out]; rfl
    have HTB := hide hbd
    clear HX hb2 ht hg hrt hmm hvv n1 n2 n3 hvy hcc hn6 c6 hbd hzr
    go_upto_region 17 with (first
      | (refine wpList_storeRow rfl rfl w2.heap.size zv c 61 rfl rfl HXa.out HINc.out HZVc.out HA1.out ?_)
      | (refine wpList_storeRow rfl rfl (w2.heap.size + 1) zfe #[.int .i64 0, .int .i64 0] 64 rfl rfl HXb.out HIZ.out rfl HAZ.out ?_))
    unfold zv zfe at HI HV3 HY3 HBV
    generalize (((w2.alloc (.cells #[.int .i64 0, .bool false, .bool false, .int .u64 0, .int .u64 0, .string ⟨#[]⟩, .slice none 0 0, .int .i64 0, .int .u64 0, .int .u64 0, .string ⟨#[]⟩, .slice none 0 0, .slice none 0 0] 61)).alloc (.cells #[.int .i64 0, .int .i64 0] 64)).setRow w2.heap.size c).setRow (w2.heap.size + 1) #[.int .i64 0, .int .i64 0] = w3' at *
    replace HI : Hid (It8 w w3' ws) := HI
    clear HXa HXb HINc HZVc
    have k3 := blk_cell (j := 0) (v := .int .i64 0) HY3.out rfl
    have v6 := blk_cell (j := 6) HV3.out HC6.out
    have HBD : Hid (BSl w3' (dropS a6 (z0 :: zr).length k6 1) zr) := bsl_drop8 (k := 1) HBV.out (by simp)
    have HL1 : Hid (1 ≤ (z0 :: zr).length) := by show _ ≤ _; simp
    have hzl : (z0 :: zr).length = zr.length + 1 := rfl
    rw [hzl] at v6 HBD HL1 HN6
    clear hzl
    go_wp2_with (refine wpList_exec rfl (exec_drop (k := 1) rfl rfl rfl HL1.out HN6.out.1 HN6.out.2) ?_)
    refine (lParse_any _ _ zr HBD.out).mono ?_
    rintro e w7 ⟨rfl, hb7⟩
    replace HI := hide (HI.out.next hb7)
    rw [show (z0 :: zr).tail = zr from rfl] at HTB HGN
    generalize lparse zr = lq at *
    obtain ⟨lk, le⟩ := lq
    simp only at HTB HGN
    have HZ7 := hide HI.out.z
    have hmk := row_mkE w7 zlk (lcs lk) 57
    have HGL := hide (heap_alloc_new w7 (.cells zlk 57))
    replace HI := hide (HI.out.next hmk.1)
    have HLB := hide hmk.2
    have HCL : Hid (∀ j u, (#[.int .i64 lk.v, .int .u64 (lk.c : Nat), .int .u64 (lk.h : Nat), .string (nstr lk.d)] : Array Value)[j]? = some u → ((w7.alloc (.cells zlk 57)).setRow w7.heap.size (lcs lk)).cell? ⟨w7.heap.size, 0 + j, none⟩ = some u) := fun j u hu => by rw [Nat.zero_add]; exact blk_cell HLB.out hu
    have HTT : Hid (∀ wz S, Tis wz S (.mk 7 false false 0 0 ⟨#[]⟩ [] lk [] []) (vcs (.mk 7 false false 0 0 ⟨#[]⟩ [] lk [] []) (.slice none 0 0) (.slice none 0 0) (.slice none 0 0))) := fun wz S => plain_tis wz S HTB.out rfl rfl rfl
    have HA7 := hide (HTT.out w (fun _ => False)).tin.all1
    have HI7 : Hid ((Tryz.prog.info? 61).map (·.size) = some (vcs (.mk 7 false false 0 0 ⟨#[]⟩ [] lk [] []) (.slice none 0 0) (.slice none 0 0) (.slice none 0 0)).size) := infoV
    have hret := HI.out.ret (vcs (.mk 7 false false 0 0 ⟨#[]⟩ [] lk [] []) (.slice none 0 0) (.slice none 0 0) (.slice none 0 0)) zfe
    have HFF := hide hret.1
    have HRET := hide hret.2
    have HRR := hide HI.out.r
    have HGG : Hid (ItG b d p q 0 ks (.mk 7 false false 0 0 ⟨#[]⟩ [] lk [] []) m') := ⟨HN3.out.1, HN3.out.2, fun e => absurd rfl e, fun _ st hst => (HGS.out st hst).trans (HGN.out st hst)⟩
    simp only [lkv_lcs]
    clear hb7 hmk hret HBD HBV HTB HGN k3 v6
    go_upto_region 20 with (refine wpList_storeLk rfl rfl w7.heap.size zlk lk rfl rfl rfl HGL.out ?_)
    go_wp2_with (first
      | (refine wpList_exec rfl (exec_lkAt (g := w7.heap.size) (off := 0) (cs := #[.int .i64 lk.v, .int .u64 (lk.c : Nat), .int .u64 (lk.h : Nat), .string (nstr lk.d)]) rfl rfl rfl HCL.out) ?_)
      | (refine wpList_storeRow rfl rfl (w.heap.size + 1) zv (vcs (.mk 7 false false 0 0 ⟨#[]⟩ [] lk [] []) (.slice none 0 0) (.slice none 0 0) (.slice none 0 0)) 61 rfl rfl HRR.out HI7.out rfl HA7.out ?_)
      | (refine wpList_storeRow rfl rfl (w.heap.size + 2) zfe zfe 64 rfl rfl HFF.out HIZ.out rfl HAZ.out ?_))
    exact bodyPost_ret (end_item rfl HRET.out.1 rfl HRET.out.2.1 rfl rfl rfl) rfl (Ans.ok HRET.out.2.2.2 (HTT.out _ _) HGG.out)
  · as_aux_lemma =>
    have HX := hide (bx2 w2 zv (fce e1 p1))
    have HXa := hide HX.out.a
    have HXb := hide HX.out.b
    have HAF := hide (fce_all e1 p1)
    replace HI := hide (HI.out.next HX.out.l)
    have HY3 := hide HX.out.y
    have he2 := he.1 (by decide)
    have HMA : Hid (ItE b d p q 0 ks e1 p1) := ⟨fun e => absurd rfl e, fun _ st hst => by rw [he2.2]; exact (HGS.out st hst).eds (eds_name (by rw [hst, full_eq HQ.out]; exact he2.1) h0)⟩
    have gk : ((e1 : Int) != 0) = true := by rw [bne_iff_ne]; omega
    have HE0 := hide h0
    clear HX hb2 he he2 h0
    go_upto_region 17 with (first
      | (refine wpList_storeRow rfl rfl w2.heap.size zv #[.int .i64 0, .bool false, .bool false, .int .u64 0, .int .u64 0, .string ⟨#[]⟩, .slice none 0 0, .int .i64 0, .int .u64 0, .int .u64 0, .string ⟨#[]⟩, .slice none 0 0, .slice none 0 0] 61 rfl rfl HXa.out HIR.out rfl HZA.out ?_)
      | (refine wpList_storeRow rfl rfl (w2.heap.size + 1) zfe (fce e1 p1) 64 rfl rfl HXb.out (HIF.out e1 p1) rfl HAF.out ?_))
    unfold zv zfe at HI HY3
    generalize (((w2.alloc (.cells #[.int .i64 0, .bool false, .bool false, .int .u64 0, .int .u64 0, .string ⟨#[]⟩, .slice none 0 0, .int .i64 0, .int .u64 0, .int .u64 0, .string ⟨#[]⟩, .slice none 0 0, .slice none 0 0] 61)).alloc (.cells #[.int .i64 0, .int .i64 0] 64)).setRow w2.heap.size #[.int .i64 0, .bool false, .bool false, .int .u64 0, .int .u64 0, .string ⟨#[]⟩, .slice none 0 0, .int .i64 0, .int .u64 0, .int .u64 0, .string ⟨#[]⟩, .slice none 0 0, .slice none 0 0]).setRow (w2.heap.size + 1) (fce e1 p1) = w3' at *
    replace HI : Hid (It8 w w3' ws) := HI
    clear HXa HXb
    have k3 := blk_cell (j := 0) (v := .int .i64 (e1 : Nat)) HY3.out rfl
    go_wp2_with fail
    have hMD := HI.out.next (show Below w3'.heap.size w3' w3'.drew by refine Below.drew ?_; exact Below.refl _ _)
    have hret := hMD.ret zv (fce e1 p1)
    have HFF := hide hret.1
    have HRET := hide hret.2
    have HRR := hide hMD.r
    have hz2 := HZ2.out
    refine heldStart (S := fun wy => wy.heap[w2.heap.size + 1]? = some (.cells (fce e1 p1) 64 (0, 0))) (by kernel_rfl) ?_
    have hS : w3'.drew.heap[w2.heap.size + 1]? = some (.cells (fce e1 p1) 64 (0, 0)) := HY3.out
    clear hret hMD k3
    generalize w3'.drew = w4' at *
    refine heldTake 0 _ rfl (by kernel_rfl) (by kernel_rfl) (by kernel_rfl) (fun _ _ _ h => h) rfl hS (fun wy hy => by first | (go_simp; done) | (go_simp; rfl) | rfl) ?_
    (try simp only [Act.put]); (try simp only [List.setIfInBounds_toArray, List.set_cons_zero, List.set_cons_succ])
    refine heldTake 1 (.agg (fce e1 p1)) rfl (by kernel_rfl) (by kernel_rfl) (by kernel_rfl) (fun _ _ _ h => h) rfl hS (fun wy hy => exec_flE rfl rfl rfl hy) ?_
    (try simp only [Act.put]); (try simp only [List.setIfInBounds_toArray, List.set_cons_zero, List.set_cons_succ])
    refine heldStep 2 rfl (by kernel_rfl) (fun K hK => ?_)
    refine step_storeRow rfl rfl (w.heap.size + 1) zv zv 61 rfl rfl HRR.out HIR.out rfl HZA.out ?_
    have hrk := row_kp w4' (w.heap.size + 1) zv
    refine (Hid.out hK) _ _ ((hrk.block _ (blk_lt hS) (by omega)).trans hS) (fun hS4 => ?_)
    clear hK K hS
    (try simp only [Act.put]); (try simp only [List.setIfInBounds_toArray, List.set_cons_zero, List.set_cons_succ])
    refine heldTake 3 _ rfl (by kernel_rfl) (by kernel_rfl) (by kernel_rfl) (fun _ _ _ h => h) rfl hS4 (fun wy hy => by first | (go_simp; done) | (go_simp; rfl) | rfl) ?_
    (try simp only [Act.put]); (try simp only [List.setIfInBounds_toArray, List.set_cons_zero, List.set_cons_succ])
    refine heldStep 4 rfl (by kernel_rfl) (fun K hK => ?_)
    refine step_storeRow rfl rfl (w.heap.size + 2) zfe (fce e1 p1) 64 rfl rfl HFF.out (HIF.out e1 p1) rfl HAF.out ?_
    have hrk2 := row_kp (w4'.setRow (w.heap.size + 1) zv) (w.heap.size + 2) (fce e1 p1)
    refine (Hid.out hK) _ _ ((hrk2.block _ (blk_lt hS4) (by omega)).trans hS4) (fun hS5 => ?_)
    clear hK K hS4
    (try simp only [Act.put]); (try simp only [List.setIfInBounds_toArray, List.set_cons_zero, List.set_cons_succ])
    refine heldDone (by kernel_rfl) ?_
    clear hS5
    go_wp2_with fail
    exact bodyPost_ret (end_item rfl HRET.out.1 rfl HRET.out.2.1 rfl rfl rfl) rfl (Ans.bad HRET.out.2.2.2 HE0.out HMA.out)
/-- The reference's item, whatever is wanted at whatever place. -/
theorem item8_any (b : List Nat) (hbl : b.length ≤ 8388608) (d : Nat) (hd : d ≤ 1024) (p : Nat) (hp : p ≤ b.length) : ItC b d p := by
  have key : ∀ n p, p ≤ b.length → b.length - p = n → ItC b d p := by
    intro n
    induction n using Nat.strongRecOn with
    | _ n ih => exact fun p hp hn => item8_step b hbl d hd p hp (fun p' h1 h2 => ih (b.length - p') (by omega) p' h2 rfl)
  exact key _ p hp rfl
end
end Go.Proofs.YtdejcapbggjjgaaGreatDoor

import Derived.Test.YtibcepokeaaoiabDoorKub
import Derived.Lib.SmallJoins
import Derived.Test.YtibcepokeaaoiabDoorTie
import Derived.Test.YtibcepokeaaoiabDoorCards
import Derived.ProofKit
namespace Go.Proofs.YtibcepokeaaoiabDoor
section
open Go.RowKit Go
theorem Ozw.drew {w wx : World} {lo hi : Nat} {c : Array Value} (h : Ozw w wx lo hi c) : Ozw w wx.drew lo hi c := ⟨h.p, h.r, h.k.drew⟩
/-- What is read of a value while one of its items is asked. -/
structure Ods (w wy : World) (lo : Nat) (cs : Array Value) (vi : Value) (n : Nat) (L : List (Array Value)) : Prop where
  p : wy.heap[w.heap.size]? = some (.cells cs 29 (0, 0))
  v : wy.ownsRow lo 29 13 vi n (vfl L)
theorem Ods.kp {w wy wz : World} {lo : Nat} {cs : Array Value} {vi : Value} {n : Nat} {L : List (Array Value)} (h : Ods w wy lo cs vi n L) {S : Nat → Prop} (hk : Kp S wy wz) (h1 : ¬ S w.heap.size) (h2 : ∀ q, vi.ownBlock = some q → ¬ S q) : Ods w wz lo cs vi n L :=
  ⟨(hk.block _ (blk_lt h.p) h1).trans h.p, hk.owns h.v h2⟩
theorem chk_item {t u : Tv} (h : chkf t 0 = 0) (hu : u ∈ t.is) : chkf u 0 = 0 := ((chk_depth u (0 + 1)).1 ((chkf_0 h).2 u hu)).1
theorem Osw.next {w wx wy : World} {lo hi : Nat} {t t' : Tv} {c' : Array Value} (h : Osw w wx lo hi t t' c') (hw : hi ≤ w.heap.size) (hb : Below wx.heap.size wx wy) : Osw w wy lo hi t t' c' :=
  ⟨h.z.next hw (Kp.of_below (S := fun _ => False) hb) (fun _ e => e.elim), h.v.kp (Kp.of_below hb), h.o, h.m⟩
theorem Ozw.app {w w2 w5 : World} {lo hi : Nat} {c : Array Value} {o : Obj} {v : Value} (hw : hi ≤ w.heap.size) (hz : Ozw w w2 lo hi c) (hg : (w2.alloc o).grownBy w5 v.ownBlock) (hr : ∀ q, v.ownBlock = some q → lo ≤ q ∧ q < hi) : Ozw w w5 lo hi c :=
  hz.next hw ((Kp.of_below (S := fun q => v.ownBlock = some q) (below_alloc4 w2 o)).trans ((Kp.refl _ _).grown hg (fun _ _ h => h)) (fun _ _ h => h)) (fun q e => .inl (hr q e))
/-- The answer's end. -/
theorem end_oth {wx : World} {R : Nat} {c : Array Value} {ok : Bool} {tmps : Array Value} (hn : c.size = 13) (hr : wx.heap[R]? = some (.cells c 29 (0, 0))) (hp : tmps.getD 4 undef = .pointer (some ⟨R, 0, none⟩)) (hb : tmps.getD 5 undef = .bool ok) : (results Tryd.f18 tmps).run Tryd.prog wx = .ok (.tuple #[.agg c, .bool ok]) wx := by
  have h1 := run_loadVar_row (P := Tryd.prog) wx R 29 29 c (0, 0) _ hr Tryd.underlying29 rfl (by rw [hn]; exact infoV)
  refine (results_cell_tmp rfl _ _ _).trans ?_
  rw [hp, hb]
  simp [asAddr, h1, Result.andThen]
set_option maxRecDepth 1000000 in
set_option maxHeartbeats 4000000 in
theorem other_step (W : World) (hT : Tabs W) (N : Nat) (ih : OthC W N) (t : Tv) (hN : SizeOf.sizeOf t = N) (w : World) (lo hi n : Nat) (c : Array Value) (hts : Nts w lo hi t c) (hw : hi ≤ w.heap.size) (hWl : W.heap.size ≤ lo) (hlh : lo ≤ hi) (hB : Below W.heap.size W w) (hct : chkf t 0 = 0) (hm : tmuch t ≤ 30000) (hn : n < 1048576) :
    Calls Tryd.prog 18 #[.agg c, .int .i64 (n : Nat)] w (OthP w lo hi t) := by
  have HNT := hide hts
  have HON := hide hts.one
  have HONA : Hid (c.all (·.oneCell') = true) := hts.tin.all1
  cases hts with
  | mk _ _ _ vy vk vi L a b hbd hyb hy hgy hk hgk hkl hks hv hgi hil hL h13 hab hdj hoi hoy hok hcs =>
  have HBD := hide hbd
  have HYB := hide hyb
  have HY := hide hy
  have HGY := hide hgy
  have HK := hide hk
  have HGK := hide hgk
  have HKL := hide hkl
  have HKS := hide hks
  have HV := hide hv
  have HGI := hide hgi
  have HIL := hide hil
  have HL := hide hL
  have H13 := hide h13
  have HAB := hide hab
  have HDJ := hide hdj
  have HOI := hide hoi
  have HOY := hide hoy
  have HOK := hide hok
  have HCS := hide hcs
  have HIH := hide ih
  have HT := hide hT
  have HW := hide hw
  have HWL := hide hWl
  have HLH := hide hlh
  have HBB := hide hB
  have HCT := hide hct
  have HM := hide hm
  have HNN : Hid (∀ u ∈ t.is, SizeOf.sizeOf u < N) := fun u hu => by rw [← hN]; exact Tv.is_lt hu
  obtain ⟨ay, cy, hvy⟩ := own_slice hy
  obtain ⟨ak, ck, hvk⟩ := own_slice hk
  obtain ⟨ai, ci, hvi⟩ := own_slice hv
  subst hvy hvk hvi
  have hlen : t.is.length ≤ 100000 := by have := tmuch_eq t; have := tmuchL_len t.is; omega
  have hkle : t.ks.length ≤ 100000 := by have := tmuch_eq t; omega
  have HB2 : Hid (Below w.heap.size w ((w.alloc (.cells (vcs t (.slice ay t.y.length cy) (.slice ak t.ks.length ck) (.slice ai t.is.length ci)) 29)).alloc (.cells zv 29))) := (below_alloc4 w _).trans ((below_alloc4 _ _).mono (by simp))
  have HQ0 := hide (Ozw.start w lo hi (vcs t (.slice ay t.y.length cy) (.slice ak t.ks.length ck) (.slice ai t.is.length ci)))
  clear hbd hyb hy hgy hk hgk hkl hks hv hgi hil hL h13 hab hdj hoi hoy hok hcs ih hT hw hWl hB hct hm hN
  have HC0 : Hid ((vcs t (.slice ay t.y.length cy) (.slice ak t.ks.length ck) (.slice ai t.is.length ci))[12]? = some (.slice ai t.is.length ci)) := rfl
  have HCK : Hid ((vcs t (.slice ay t.y.length cy) (.slice ak t.ks.length ck) (.slice ai t.is.length ci))[0]? = some (.int .i64 t.k)) := rfl
  generalize hcs : vcs t (.slice ay t.y.length cy) (.slice ak t.ks.length ck) (.slice ai t.is.length ci) = cs at *
  have HCV := hide hcs
  clear hcs
  go_enter Tryd.func18, Tryd.ntmps18
  go_upto_region 1 with fail
  unfold zv at HQ0 HB2
  generalize (w.alloc (.cells cs 29)).alloc (.cells #[.int .i64 0, .bool false, .bool false, .int .u64 0, .int .u64 0, .string ⟨#[]⟩, .slice none 0 0, .int .i64 0, .int .u64 0, .int .u64 0, .string ⟨#[]⟩, .slice none 0 0, .slice none 0 0] 29) = w2 at *
  by_cases hd : 0 < t.is.length ∧ n % 4 ≠ 0
  · as_aux_lemma =>
    obtain ⟨hd1, hd2⟩ := hd
    have g1 : (0 : Int) < (t.is.length : Int) := by omega
    have g2 : (((n % 4 : Nat) : Int) != 0) = true := by rw [bne_iff_ne]; omega
    have g3 : ((n : Int) % 4 != 0) = true := by rw [bne_iff_ne]; omega
    have c12 : w2.cell? ⟨w.heap.size, 12, none⟩ = some (.slice ai t.is.length ci) := blk_cell HQ0.out.p HC0.out
    have hjl : n % t.is.length < t.is.length := Nat.mod_lt _ hd1
    generalize hj : n % t.is.length = j at *
    have HJ := hide hj
    clear hj
    obtain ⟨u, hu⟩ : ∃ u, t.is[j]? = some u := ⟨t.is[j], List.getElem?_eq_getElem hjl⟩
    obtain ⟨cu, hcu⟩ : ∃ cu, L[j]? = some cu := ⟨L[j]'(by rw [HL.out]; exact hjl), List.getElem?_eq_getElem (by rw [HL.out]; exact hjl)⟩
    have HU := hide hu
    have HUM := hide (List.mem_of_getElem? hu)
    obtain ⟨g, hai, hci⟩ : ∃ g, ai = some ⟨g, 0, none⟩ ∧ t.is.length ≤ ci := by
      rcases HV.out.2 with ⟨e, h0⟩ | ⟨g, cap, cur, e, _, _, h1, _⟩
      · omega
      · injection e with e1 e2 e3
        exact ⟨g, e1, by omega⟩
    subst hai
    have HCI := hide hci
    have HS13 := hide (H13.out cu (List.mem_of_getElem? hcu)).1
    have HY2 := hide ((Kp.of_below (S := fun _ => False) HB2.out).owns HY.out (fun _ _ h => h))
    have HK2 := hide ((Kp.of_below (S := fun _ => False) HB2.out).owns HK.out (fun _ _ h => h))
    have HV2 := hide ((Kp.of_below (S := fun _ => False) HB2.out).owns HV.out (fun _ _ h => h))
    have HCS2 : Hid (∀ (i : Nat) (u : Tv) (c : Array Value), t.is[i]? = some u → L[i]? = some c → Nts w2 (a i) (b i) u c) := fun i u c e1 e2 => (HCS.out i u c e1 e2).kept HB2.out
    have HRV : Hid (∀ wy : World, wy.ownsRow lo 29 13 (.slice (some ⟨g, 0, none⟩) t.is.length ci) t.is.length (vfl L) → ∀ k x, cu[k]? = some x → wy.cell? ⟨g, j * 13 + k, none⟩ = some x) := fun wy hy k x hx => own_val hy (fun c hc => (H13.out c hc).1) hcu k x hx
    have HNJ := hide (HCS2.out j u cu hu hcu)
    have HJR := hide (HAB.out j hjl)
    have HCUU := hide (chk_item HCT.out HUM.out)
    have HMU : Hid (tmuch u ≤ 30000) := Nat.le_trans (tmuchL_mem HUM.out) (by have := tmuch_eq t; have := HM.out; omega)
    have HWS := hide HQ0.out.size
    have HPI : Hid (∀ q, (Value.slice (some ⟨g, 0, none⟩) t.is.length ci).ownBlock = some q → ¬ (a j ≤ q ∧ q < b j)) := fun q hq e => by have := HOI.out j hjl q hq; omega
    have HR0 : Hid (((t.is.length : Int) == 0) = false) := beq_eq_false_iff_ne.2 (by omega)
    have HR1 : Hid ((n : Int) % (t.is.length : Int) = (j : Int)) := by have := HJ.out; show _ = _; rw [← this]; exact (Int.natCast_emod n t.is.length).symm
    have HR2 : Hid ((n : Int).tmod (t.is.length : Int) = (j : Int)) := (Int.tmod_eq_emod_of_nonneg (by omega)).trans HR1.out
    have HR4 : Hid (¬ t.is = []) := fun e => by rw [e] at hd1; simp at hd1
    have HR5 : Hid (IntKind.i64.wrap ((n : Int) / 4) = ((n / 4 : Nat) : Int)) := by show _ = _; rw [IntKind.wrap_i64]; omega
    have HR3 : Hid (IntKind.i64.wrap (j : Int) = (j : Int)) := by show _ = _; rw [IntKind.wrap_i64]; omega
    clear hu hcu hci HNT
    go_wp2_with fail
    go_cut [6, 7] from 17 to 31 (fun xx oo wx => ∃ (gx : Nat) (cx : Array Value) (ok : Bool), xx = .pointer (some ⟨gx, 0, none⟩) ∧ oo = .bool ok ∧ Hid (Ow2 w wx lo hi t (.slice ay t.y.length cy) (.slice ak t.ks.length ck) (.slice (some ⟨g, 0, none⟩) t.is.length ci) L a b j gx cx ok u))
    case first => as_aux_lemma =>
      refine heldStart (S := fun wy => Ods w wy lo cs (.slice (some ⟨g, 0, none⟩) t.is.length ci) t.is.length L) (by kernel_rfl) ?_
      have hS : Ods w w2.drew lo cs (.slice (some ⟨g, 0, none⟩) t.is.length ci) t.is.length L := ⟨HQ0.out.p, HV2.out⟩
      refine heldTake 0 _ rfl (by kernel_rfl) (by kernel_rfl) (by kernel_rfl) (fun _ _ _ h => h) rfl hS (fun wy hy => by first | (go_simp; done) | (go_simp; rfl) | rfl) ?_
      (try simp only [Act.put]); (try simp only [List.setIfInBounds_toArray, List.set_cons_zero, List.set_cons_succ])
      refine heldTake 1 _ rfl (by kernel_rfl) (by kernel_rfl) (by kernel_rfl) (fun _ _ _ h => h) rfl hS (fun wy hy => by have h0 := blk_cell (j := 12) hy.p HC0.out; first | (go_simp; done) | (go_simp; rfl) | rfl) ?_
      (try simp only [Act.put]); (try simp only [List.setIfInBounds_toArray, List.set_cons_zero, List.set_cons_succ])
      refine heldTake 2 _ rfl (by kernel_rfl) (by kernel_rfl) (by kernel_rfl) (fun _ _ _ h => h) rfl hS (fun wy hy => by first | (go_simp; done) | (go_simp; rfl) | rfl) ?_
      (try simp only [Act.put]); (try simp only [List.setIfInBounds_toArray, List.set_cons_zero, List.set_cons_succ])
      refine heldTake 3 _ rfl (by kernel_rfl) (by kernel_rfl) (by kernel_rfl) (fun _ _ _ h => h) rfl hS (fun wy hy => by first | (go_simp; done) | (go_simp; rfl) | rfl) ?_
      (try simp only [Act.put]); (try simp only [List.setIfInBounds_toArray, List.set_cons_zero, List.set_cons_succ])
      refine heldTake 4 _ rfl (by kernel_rfl) (by kernel_rfl) (by kernel_rfl) (fun _ _ _ h => h) rfl hS (fun wy hy => by have h0 := blk_cell (j := 12) hy.p HC0.out; first | (go_simp; done) | (go_simp; rfl) | rfl) ?_
      (try simp only [Act.put]); (try simp only [List.setIfInBounds_toArray, List.set_cons_zero, List.set_cons_succ])
      refine heldTake 5 _ rfl (by kernel_rfl) (by kernel_rfl) (by kernel_rfl) (fun _ _ _ h => h) rfl hS (fun wy hy => by first | (go_simp; done) | (go_simp; rfl) | rfl) ?_
      (try simp only [Act.put]); (try simp only [List.setIfInBounds_toArray, List.set_cons_zero, List.set_cons_succ])
      refine heldTake 6 (.int .i64 (j : Nat)) rfl (by kernel_rfl) (by kernel_rfl) (by kernel_rfl) (fun _ _ _ h => h) rfl hS (fun wy hy => by have h0 := HR0.out; have h1 := HR1.out; have h2 := HR2.out; have h3 := HR3.out; go_simp; exact HR4.out) ?_
      refine heldTake 7 _ rfl (by kernel_rfl) (by kernel_rfl) (by kernel_rfl) (fun _ _ _ h => h) rfl hS (fun wy hy => by first | (go_simp; done) | (go_simp; rfl) | rfl) ?_
      (try simp only [Act.put]); (try simp only [List.setIfInBounds_toArray, List.set_cons_zero, List.set_cons_succ])
      refine heldTake 8 _ rfl (by kernel_rfl) (by kernel_rfl) (by kernel_rfl) (fun _ _ _ h => h) rfl hS (fun wy hy => exec_valAt (g := g) (off := j * 13) (cs := cu) rfl rfl HS13.out (HRV.out wy hy.v)) ?_
      (try simp only [Act.put]); (try simp only [List.setIfInBounds_toArray, List.set_cons_zero, List.set_cons_succ])
      refine heldTake 9 _ rfl (by kernel_rfl) (by kernel_rfl) (by kernel_rfl) (fun _ _ _ h => h) rfl hS (fun wy hy => by first | (go_simp; done) | (go_simp; rfl) | rfl) ?_
      (try simp only [Act.put]); (try simp only [List.setIfInBounds_toArray, List.set_cons_zero, List.set_cons_succ])
      refine heldTake 10 (.int .i64 ((n / 4 : Nat) : Int)) rfl (by kernel_rfl) (by kernel_rfl) (by kernel_rfl) (fun _ _ _ h => h) rfl hS (fun wy hy => by have h0 := HR5.out; first | (go_simp; done) | (go_simp; rw [h0]) | (go_simp; omega)) ?_
      refine wpAnyH_ready (rs := [11, 15]) (by kernel_rfl) (by simp) ?_
      refine AllReadyH.cons rfl (fun K hK => ?_) (AllReadyH.cons rfl (fun K hK => ?_) AllReadyH.nil)
      · as_aux_lemma =>
        go_simp
        refine (HIH.out u (HNN.out u HUM.out) w2.drew (a j) (b j) (n / 4) cu (HNJ.out.kp (Kp.refl (fun _ => False) w2).drew (fun _ _ _ h => h)) (by have := HJR.out; have := HW.out; have := HWS.out; show _ ≤ w2.heap.size; omega) (by have := HJR.out; have := HWL.out; omega) (by have := HJR.out; omega) (HBB.out.trans (HB2.out.mono HBB.out.size)).drew HCUU.out HMU.out (by omega)).mono ?_
        rintro e we ⟨cx, ok, rfl, hox, hkx, hux⟩
        have hks : w2.heap.size ≤ we.heap.size := hkx.size
        have HQW := hide ((Kp.refl (fun q => a j ≤ q ∧ q < b j) w2).drew.trans hkx (fun _ _ h => h))
        have HZ := hide (itm_mk we cx)
        have hkz : Kp (fun q => a j ≤ q ∧ q < b j) w2 ((we.alloc (.cells zv 29)).setRow we.heap.size cx) := HQW.out.trans (Kp.of_below (S := fun _ => False) HZ.out.b) (fun _ _ h => h.elim)
        have HOW : Hid (Ow2 w ((we.alloc (.cells zv 29)).setRow we.heap.size cx) lo hi t (.slice ay t.y.length cy) (.slice ak t.ks.length ck) (.slice (some ⟨g, 0, none⟩) t.is.length ci) L a b j we.heap.size cx ok u) := by
          refine Ow2.of HW.out (by have h := HQ0.out; rw [← HCV.out] at h; exact h) hjl HY2.out HK2.out HV2.out HAB.out HDJ.out HOI.out HOY.out HOK.out HCS2.out hkz HZ.out.r (by have := HWS.out; omega) hox (fun ht => ?_)
          obtain ⟨u', h1, h2⟩ := hux ht
          refine ⟨u', (h1.kp (Kp.of_below HZ.out.b)).mono (fun q e => ?_), h2⟩
          show q < a j ∨ (b j ≤ q ∧ q < w2.heap.size)
          have := HWS.out
          omega
        have HS1 := hide hox.1
        have HA1 : Hid (cx.all (·.oneCell') = true) := by
          show _ = _
          rw [Array.all_eq_true']
          intro x hx
          exact hox.2 x (by simpa using hx)
        have HIN : Hid ((Tryd.prog.info? 29).map (·.size) = some cx.size) := by show _ = _; rw [HS1.out]; exact infoV
        have HZV : Hid (zv.size = cx.size) := by show _ = _; rw [HS1.out]; rfl
        have HG0 := hide (heap_alloc_new we (.cells zv 29))
        have hSe : Ods w we lo cs (.slice (some ⟨g, 0, none⟩) t.is.length ci) t.is.length L := hS.kp hkx (fun e => by have := HJR.out; have := HW.out; omega) HPI.out
        have hSa : Ods w (we.alloc (.cells zv 29)) lo cs (.slice (some ⟨g, 0, none⟩) t.is.length ci) t.is.length L := hSe.kp (Kp.of_below (S := fun _ => False) (below_alloc4 we _)) (fun h => h) (fun _ _ h => h)
        have hSz : Ods w ((we.alloc (.cells zv 29)).setRow we.heap.size cx) lo cs (.slice (some ⟨g, 0, none⟩) t.is.length ci) t.is.length L := hSe.kp (Kp.of_below (S := fun _ => False) HZ.out.b) (fun h => h) (fun _ _ h => h)
        refine (Shut.out hK) _ _ hSe (fun hS2 => ?_)
        clear hK K hox hkx hux hkz hks hSe
        (try simp only [Act.put]); (try simp only [List.setIfInBounds_toArray, List.set_cons_zero, List.set_cons_succ])
        refine heldTake 12 _ rfl (by kernel_rfl) (by kernel_rfl) (by kernel_rfl) (fun _ _ _ h => h) rfl hS2 (fun wy hy => by first | (go_simp; done) | (go_simp; rfl) | rfl) ?_
        (try simp only [Act.put]); (try simp only [List.setIfInBounds_toArray, List.set_cons_zero, List.set_cons_succ])
        refine heldTake 13 _ rfl (by kernel_rfl) (by kernel_rfl) (by kernel_rfl) (fun _ _ _ h => h) rfl hS2 (fun wy hy => by first | (go_simp; done) | (go_simp; rfl) | rfl) ?_
        (try simp only [Act.put]); (try simp only [List.setIfInBounds_toArray, List.set_cons_zero, List.set_cons_succ])
        refine heldTake 14 _ rfl (by kernel_rfl) (by kernel_rfl) (by kernel_rfl) (fun _ _ _ h => h) rfl hS2 (fun wy hy => by first | (go_simp; done) | (go_simp; rfl) | rfl) ?_
        (try simp only [Act.put]); (try simp only [List.setIfInBounds_toArray, List.set_cons_zero, List.set_cons_succ])
        refine heldStep 15 rfl (by kernel_rfl) (fun K hK => ?_)
        go_simp
        refine (Hid.out hK) _ (we.alloc (.cells zv 29)) hSa (fun hS3 => ?_)
        clear hK K hS2 hSa
        (try simp only [Act.put]); (try simp only [List.setIfInBounds_toArray, List.set_cons_zero, List.set_cons_succ])
        refine heldStep 16 rfl (by kernel_rfl) (fun K hK => ?_)
        refine step_storeRow rfl rfl we.heap.size zv cx 29 rfl rfl HG0.out HIN.out HZV.out HA1.out ?_
        refine (Hid.out hK) _ _ hSz (fun hS4 => ?_)
        clear hK K hS3 hSz
        (try simp only [Act.put]); (try simp only [List.setIfInBounds_toArray, List.set_cons_zero, List.set_cons_succ])
        refine heldTake 17 _ rfl (by kernel_rfl) (by kernel_rfl) (by kernel_rfl) (fun _ _ _ h => h) rfl hS4 (fun wy hy => by first | (go_simp; done) | (go_simp; rfl) | rfl) ?_
        (try simp only [Act.put]); (try simp only [List.setIfInBounds_toArray, List.set_cons_zero, List.set_cons_succ])
        refine heldDone (by kernel_rfl) ?_
        clear hS hS4
        go_wp2_with fail
        go_meet
        case rel => exact ⟨_, cx, ok, rfl, rfl, HOW⟩
      · as_aux_lemma =>
        go_simp
        have HGX : Hid ((w2.alloc (.cells zv 29)).drew.heap[w2.heap.size]? = some (.cells zv 29 (0, 0))) := heap_alloc_new w2 (.cells zv 29)
        have HBX : Hid (Below w2.heap.size w2 (w2.alloc (.cells zv 29)).drew) := below_alloc_drew w2 _
        have HXS : Hid ((w2.alloc (.cells zv 29)).drew.heap.size = w2.heap.size + 1) := by
          show (w2.alloc (.cells zv 29)).heap.size = _
          simp
        have hSA : Ods w (w2.alloc (.cells zv 29)).drew lo cs (.slice (some ⟨g, 0, none⟩) t.is.length ci) t.is.length L := ⟨(HBX.out.block _ (blk_lt HQ0.out.p)).trans HQ0.out.p, (Kp.of_below (S := fun _ => False) HBX.out).owns HV2.out (fun _ _ h => h)⟩
        refine (Shut.out hK) _ _ hSA (fun hS2 => ?_)
        clear hK K hS hSA
        have hS := hS2
        clear hS2
        (try simp only [Act.put]); (try simp only [List.setIfInBounds_toArray, List.set_cons_zero, List.set_cons_succ])
        unfold zv at HGX HBX HXS hS
        generalize (w2.alloc (.cells #[.int .i64 0, .bool false, .bool false, .int .u64 0, .int .u64 0, .string ⟨#[]⟩, .slice none 0 0, .int .i64 0, .int .u64 0, .int .u64 0, .string ⟨#[]⟩, .slice none 0 0, .slice none 0 0] 29)).drew = w5 at *
        have HGX : Hid (w5.heap[w2.heap.size]? = some (.cells zv 29 (0, 0))) := HGX
        refine heldStep 11 rfl (by kernel_rfl) (fun K hK => ?_)
        go_simp
        refine (HIH.out u (HNN.out u HUM.out) w5 (a j) (b j) (n / 4) cu (HNJ.out.kept HBX.out) (by have := HJR.out; have := HW.out; have := HWS.out; have := HXS.out; omega) (by have := HJR.out; have := HWL.out; omega) (by have := HJR.out; omega) ((HBB.out.trans (HB2.out.mono HBB.out.size)).trans (HBX.out.mono (by have := HBB.out.size; have := HWS.out; omega))) HCUU.out HMU.out (by omega)).mono ?_
        rintro e we ⟨cx, ok, rfl, hox, hkx, hux⟩
        have HG0 : Hid (we.heap[w2.heap.size]? = some (.cells zv 29 (0, 0))) := (hkx.block _ (blk_lt HGX.out) (fun e => by have := HJR.out; have := HW.out; have := HWS.out; omega)).trans HGX.out
        have hrk := row_kp we w2.heap.size cx
        have hkz : Kp (fun q => a j ≤ q ∧ q < b j) w2 (we.setRow w2.heap.size cx) := ((Kp.of_below (S := fun q => a j ≤ q ∧ q < b j) HBX.out).trans hkx (fun _ _ h => h)).trans hrk (fun q hq e => by omega)
        have HOW : Hid (Ow2 w (we.setRow w2.heap.size cx) lo hi t (.slice ay t.y.length cy) (.slice ak t.ks.length ck) (.slice (some ⟨g, 0, none⟩) t.is.length ci) L a b j w2.heap.size cx ok u) := by
          refine Ow2.of HW.out (by have h := HQ0.out; rw [← HCV.out] at h; exact h) hjl HY2.out HK2.out HV2.out HAB.out HDJ.out HOI.out HOY.out HOK.out HCS2.out hkz (row_same HG0.out) HWS.out hox (fun ht => ?_)
          obtain ⟨u', h1, h2⟩ := hux ht
          have hz := HXS.out
          have hy := HWS.out
          have hjr := HJR.out
          have hw := HW.out
          refine ⟨u', (h1.kp (hrk.mono (fun q _ e => ?_))).mono (fun q e => ?_), h2⟩
          · omega
          · omega
        have HS1 := hide hox.1
        have HA1 : Hid (cx.all (·.oneCell') = true) := by
          show _ = _
          rw [Array.all_eq_true']
          intro x hx
          exact hox.2 x (by simpa using hx)
        have HIN : Hid ((Tryd.prog.info? 29).map (·.size) = some cx.size) := by show _ = _; rw [HS1.out]; exact infoV
        have HZV : Hid (zv.size = cx.size) := by show _ = _; rw [HS1.out]; rfl
        have hSe : Ods w we lo cs (.slice (some ⟨g, 0, none⟩) t.is.length ci) t.is.length L := hS.kp hkx (fun e => by have := HJR.out; have := HW.out; omega) HPI.out
        have hSz : Ods w (we.setRow w2.heap.size cx) lo cs (.slice (some ⟨g, 0, none⟩) t.is.length ci) t.is.length L := hSe.kp hrk (fun e => by have := HWS.out; omega) (fun q hq e => by have := HGI.out q hq; have := HWS.out; have := HW.out; omega)
        refine (Hid.out hK) _ _ hSe (fun hS2 => ?_)
        clear hK K hox hkx hux hkz hrk hSe
        (try simp only [Act.put]); (try simp only [List.setIfInBounds_toArray, List.set_cons_zero, List.set_cons_succ])
        refine heldTake 12 _ rfl (by kernel_rfl) (by kernel_rfl) (by kernel_rfl) (fun _ _ _ h => h) rfl hS2 (fun wy hy => by first | (go_simp; done) | (go_simp; rfl) | rfl) ?_
        (try simp only [Act.put]); (try simp only [List.setIfInBounds_toArray, List.set_cons_zero, List.set_cons_succ])
        refine heldTake 13 _ rfl (by kernel_rfl) (by kernel_rfl) (by kernel_rfl) (fun _ _ _ h => h) rfl hS2 (fun wy hy => by first | (go_simp; done) | (go_simp; rfl) | rfl) ?_
        (try simp only [Act.put]); (try simp only [List.setIfInBounds_toArray, List.set_cons_zero, List.set_cons_succ])
        refine heldTake 14 _ rfl (by kernel_rfl) (by kernel_rfl) (by kernel_rfl) (fun _ _ _ h => h) rfl hS2 (fun wy hy => by first | (go_simp; done) | (go_simp; rfl) | rfl) ?_
        (try simp only [Act.put]); (try simp only [List.setIfInBounds_toArray, List.set_cons_zero, List.set_cons_succ])
        refine heldStep 16 rfl (by kernel_rfl) (fun K hK => ?_)
        refine step_storeRow rfl rfl w2.heap.size zv cx 29 rfl rfl HG0.out HIN.out HZV.out HA1.out ?_
        refine (Hid.out hK) _ _ hSz (fun hS4 => ?_)
        clear hK K hS2 hSz
        (try simp only [Act.put]); (try simp only [List.setIfInBounds_toArray, List.set_cons_zero, List.set_cons_succ])
        refine heldTake 17 _ rfl (by kernel_rfl) (by kernel_rfl) (by kernel_rfl) (fun _ _ _ h => h) rfl hS4 (fun wy hy => by first | (go_simp; done) | (go_simp; rfl) | rfl) ?_
        (try simp only [Act.put]); (try simp only [List.setIfInBounds_toArray, List.set_cons_zero, List.set_cons_succ])
        refine heldDone (by kernel_rfl) ?_
        clear hS hS4
        go_wp2_with fail
        go_meet
        case rel => exact ⟨_, cx, ok, rfl, rfl, HOW⟩
    case rest =>
      obtain ⟨gx, cx, ok, rfl, rfl, HOW⟩ := hcut
      obtain ⟨w3, hw3⟩ : ∃ x, x = wc := ⟨_, rfl⟩
      subst hw3
      obtain ⟨cur, hcur, hcs⟩ : ∃ cur, w3.heap[g]? = some (.cells cur 29 (0, 0)) ∧ cur.size = ci * 13 := by
        rcases HOW.out.v.2 with ⟨e, _⟩ | ⟨g', cap, cur, e, _, h1, _, _, h2, _⟩
        · cases e
        · injection e with e1 e2 e3
          injection e1 with e1
          injection e1 with e1 _ _
          subst e1
          subst e3
          exact ⟨cur, h1, h2⟩
      have HCR := hide hcur
      have HCZ := hide hcs
      have HPP : Hid (w3.heap[w.heap.size]? = some (.cells cs 29 (0, 0))) := by have h := HOW.out.z.p; rw [HCV.out] at h; exact h
      have HS1 := hide HOW.out.o.1
      have HIN : Hid ((Tryd.prog.info? 29).map (·.size) = some cx.size) := by show _ = _; rw [HS1.out]; exact infoV
      have HFT : Hid (j * 13 + cx.size ≤ cur.size) := by
        have h1 := HCI.out
        have h2 := HCZ.out
        have h3 := HS1.out
        have h4 : (j + 1) * 13 ≤ ci * 13 := Nat.mul_le_mul_right 13 (by omega)
        show _ ≤ _
        omega
      have HGL : Hid (g < hi) := HGI.out g rfl
      have HGN : Hid (w.heap.size + 2 ≤ gx) := HOW.out.gx
      have HFI : Hid (Ozw w (w3.drew.setRow g (splice cur.toList (j * 13) cx.toList).toArray) lo hi cs ∧ (ok = true → ∃ t', Tis (w3.drew.setRow g (splice cur.toList (j * 13) cx.toList).toArray) (fun q => q < lo ∨ (hi ≤ q ∧ q < w.heap.size + 2)) t' cs ∧ Oth t t')) := by
        have hk : Kp (fun q => q = g) w3 (w3.drew.setRow g (splice cur.toList (j * 13) cx.toList).toArray) := (Kp.refl (fun q => q = g) w3).drew.trans (row_kp w3.drew g _) (fun _ _ h => h)
        have h := HOW.out.fin HW.out hjl HU.out HCT.out HBD.out HYB.out HKL.out HKS.out HIL.out HL.out H13.out HGY.out HGK.out HGI.out HAB.out HOI.out (fun q hq => own_apart HV.out HY.out (by decide) hq) (fun q hq => own_apart HV.out HK.out (by decide) hq) rfl HCR.out (row_same (w := w3.drew) HCR.out) hk
        rw [HCV.out] at h
        exact h
      clear hcur hcs
      go_wp2_with fail
      go_cut [] from 32 to 40 (fun wx => Hid (Ozw w wx lo hi cs ∧ (ok = true → ∃ t', Tis wx (fun q => q < lo ∨ (hi ≤ q ∧ q < w.heap.size + 2)) t' cs ∧ Oth t t')))
      case first => as_aux_lemma =>
        refine heldStart (S := fun wy => wy.heap[w.heap.size]? = some (.cells cs 29 (0, 0)) ∧ wy.heap[gx]? = some (.cells cx 29 (0, 0))) (by kernel_rfl) ?_
        have hS : w3.drew.heap[w.heap.size]? = some (.cells cs 29 (0, 0)) ∧ w3.drew.heap[gx]? = some (.cells cx 29 (0, 0)) := ⟨HPP.out, HOW.out.x⟩
        refine heldTake 0 _ rfl (by kernel_rfl) (by kernel_rfl) (by kernel_rfl) (fun _ _ _ h => h) rfl hS (fun wy hy => by first | (go_simp; done) | (go_simp; rfl) | rfl) ?_
        (try simp only [Act.put]); (try simp only [List.setIfInBounds_toArray, List.set_cons_zero, List.set_cons_succ])
        refine heldTake 1 _ rfl (by kernel_rfl) (by kernel_rfl) (by kernel_rfl) (fun _ _ _ h => h) rfl hS (fun wy hy => by have h0 := blk_cell (j := 12) hy.1 HC0.out; first | (go_simp; done) | (go_simp; rfl) | rfl) ?_
        (try simp only [Act.put]); (try simp only [List.setIfInBounds_toArray, List.set_cons_zero, List.set_cons_succ])
        refine heldTake 2 _ rfl (by kernel_rfl) (by kernel_rfl) (by kernel_rfl) (fun _ _ _ h => h) rfl hS (fun wy hy => by first | (go_simp; done) | (go_simp; rfl) | rfl) ?_
        (try simp only [Act.put]); (try simp only [List.setIfInBounds_toArray, List.set_cons_zero, List.set_cons_succ])
        refine heldTake 3 _ rfl (by kernel_rfl) (by kernel_rfl) (by kernel_rfl) (fun _ _ _ h => h) rfl hS (fun wy hy => by first | (go_simp; done) | (go_simp; rfl) | rfl) ?_
        (try simp only [Act.put]); (try simp only [List.setIfInBounds_toArray, List.set_cons_zero, List.set_cons_succ])
        refine heldTake 4 _ rfl (by kernel_rfl) (by kernel_rfl) (by kernel_rfl) (fun _ _ _ h => h) rfl hS (fun wy hy => by have h0 := blk_cell (j := 12) hy.1 HC0.out; first | (go_simp; done) | (go_simp; rfl) | rfl) ?_
        (try simp only [Act.put]); (try simp only [List.setIfInBounds_toArray, List.set_cons_zero, List.set_cons_succ])
        refine heldTake 5 _ rfl (by kernel_rfl) (by kernel_rfl) (by kernel_rfl) (fun _ _ _ h => h) rfl hS (fun wy hy => by first | (go_simp; done) | (go_simp; rfl) | rfl) ?_
        (try simp only [Act.put]); (try simp only [List.setIfInBounds_toArray, List.set_cons_zero, List.set_cons_succ])
        refine heldTake 6 (.int .i64 (j : Nat)) rfl (by kernel_rfl) (by kernel_rfl) (by kernel_rfl) (fun _ _ _ h => h) rfl hS (fun wy hy => by have h0 := HR0.out; have h1 := HR1.out; have h2 := HR2.out; have h3 := HR3.out; go_simp; exact HR4.out) ?_
        refine heldTake 7 _ rfl (by kernel_rfl) (by kernel_rfl) (by kernel_rfl) (fun _ _ _ h => h) rfl hS (fun wy hy => exec_valAt (g := gx) (off := 0) (cs := cx) rfl rfl HS1.out (fun k x hx => by rw [Nat.zero_add]; exact blk_cell hy.2 hx)) ?_
        (try simp only [Act.put]); (try simp only [List.setIfInBounds_toArray, List.set_cons_zero, List.set_cons_succ])
        refine heldTake 8 _ rfl (by kernel_rfl) (by kernel_rfl) (by kernel_rfl) (fun _ _ _ h => h) rfl hS (fun wy hy => by first | (go_simp; done) | (go_simp; rfl) | rfl) ?_
        (try simp only [Act.put]); (try simp only [List.setIfInBounds_toArray, List.set_cons_zero, List.set_cons_succ])
        refine heldStep 9 rfl (by kernel_rfl) (fun K hK => ?_)
        refine step_storePart rfl rfl g (j * 13) cur cx 29 rfl rfl HCR.out HIN.out HFT.out HOW.out.o.2 ?_
        have hrk := row_kp w3.drew g (splice cur.toList (j * 13) cx.toList).toArray
        refine (Hid.out hK) _ _ ⟨(hrk.block _ (blk_lt hS.1) (by have := HGL.out; have := HW.out; omega)).trans hS.1, (hrk.block _ (blk_lt hS.2) (by have := HGL.out; have := HW.out; have := HGN.out; omega)).trans hS.2⟩ (fun hS2 => ?_)
        clear hK K hrk
        (try simp only [Act.put]); (try simp only [List.setIfInBounds_toArray, List.set_cons_zero, List.set_cons_succ])
        refine heldDone (by kernel_rfl) ?_
        clear hS hS2
        go_wp2_with fail
        go_meet
        case rel => exact HFI
      case rest =>
        obtain ⟨w4, hw4⟩ : ∃ x, x = wc := ⟨_, rfl⟩
        subst hw4
        have HC4 := hcut
        clear hcut HOW HFI HPP HCR HCZ HFT HCS2 HNJ
        have HXL : Hid (∀ k v, cs[k]? = some v → w4.cell? ⟨w.heap.size, 0 + k, none⟩ = some v) := fun k v hv => by rw [Nat.zero_add]; exact blk_cell HC4.out.1.p hv
        have HR4r := hide HC4.out.1.r
        have HINc : Hid ((Tryd.prog.info? 29).map (·.size) = some cs.size) := by show _ = _; rw [HON.out.1]; exact infoV
        have HZVc : Hid (zv.size = cs.size) := by show _ = _; rw [HON.out.1]; rfl
        go_wp2_with (first
          | (refine wpList_valAt rfl rfl w.heap.size 0 cs rfl HON.out.1 HXL.out ?_)
          | (refine wpList_storeRow rfl rfl (w.heap.size + 1) zv cs 29 rfl rfl HR4r.out HINc.out HZVc.out HONA.out ?_))
        have hkr := row_kp w4 (w.heap.size + 1) cs
        exact bodyPost_ret (end_oth HON.out.1 (row_same HR4r.out) rfl rfl) rfl (OthP.mk cs ok HON.out (HC4.out.1.k.trans hkr (fun q hq e => by omega)) fun ht => by
          obtain ⟨t', h1, h2⟩ := HC4.out.2 ht
          have hw := HW.out
          exact ⟨t', (h1.kp (hkr.mono (fun q _ e => by omega))).mono (fun q e => by omega), h2⟩)
  · as_aux_lemma =>
    go_cut [16] from 8 to 16 (fun bb wx => bb = .bool false ∧ wx = w2)
    case first => as_aux_lemma =>
      have c12 : w2.cell? ⟨w.heap.size, 12, none⟩ = some (.slice ai t.is.length ci) := blk_cell HQ0.out.p HC0.out
      by_cases hl : 0 < t.is.length
      · as_aux_lemma =>
        have g1 : (0 : Int) < (t.is.length : Int) := by omega
        have g3 : ((n : Int) % 4 != 0) = false := by rw [bne_eq_false_iff_eq]; omega
        go_wp2_with fail
        go_meet
        case rel => exact ⟨rfl, rfl⟩
      · as_aux_lemma =>
        have g1 : ¬ (0 : Int) < (t.is.length : Int) := by omega
        go_wp2_with fail
        go_meet
        case rel => exact ⟨rfl, rfl⟩
    case rest =>
      obtain ⟨rfl, hwc⟩ := hcut
      have hwc2 := hwc.symm
      subst hwc2
      have c0 : w2.cell? ⟨w.heap.size, 0, none⟩ = some (.int .i64 t.k) := blk_cell HQ0.out.p HCK.out
      have HY2 := hide ((Kp.of_below (S := fun _ => False) HB2.out).owns HY.out (fun _ _ h => h))
      have HK2 := hide ((Kp.of_below (S := fun _ => False) HB2.out).owns HK.out (fun _ _ h => h))
      have HV2 := hide ((Kp.of_below (S := fun _ => False) HB2.out).owns HV.out (fun _ _ h => h))
      have HCS2 : Hid (∀ (i : Nat) (u : Tv) (c : Array Value), t.is[i]? = some u → L[i]? = some c → Nts w2 (a i) (b i) u c) := fun i u c e1 e2 => (HCS.out i u c e1 e2).kept HB2.out
      have HQV : Hid (Ozw w w2 lo hi (vcs t (.slice ay t.y.length cy) (.slice ak t.ks.length ck) (.slice ai t.is.length ci))) := by have h := HQ0.out; rw [← HCV.out] at h; exact h
      have HTS : Hid (Tis w2 (fun q => q < lo ∨ (hi ≤ q ∧ q < w.heap.size + 2)) t (vcs t (.slice ay t.y.length cy) (.slice ak t.ks.length ck) (.slice ai t.is.length ci))) := by
        have h := (HNT.out.kept HB2.out).tis
        rw [← HCV.out] at h
        exact h.mono (fun q e => by omega)
      clear HNT
      go_upto_block 0 with fail
      go_cut [] (fun wx => ∃ c' t', Hid (Osw w wx lo hi t t' c'))
      case first =>
        by_cases h2 : t.k = 2
        · as_aux_lemma =>
          have g2 : (t.k == 2) = true := beq_iff_eq.2 h2
          have cc : w2.cell? ⟨w.heap.size, 1, none⟩ = some (.bool t.f) := blk_cell HQ0.out.p (by rw [← HCV.out]; rfl)
          have ff := blk_frozen 1 HQ0.out.p
          have HOS : Hid (Osw w (w2.setCell ⟨w.heap.size, 1, none⟩ (.bool (!t.f))) lo hi t (t.xf) (vcs (t.xf) (.slice ay t.y.length cy) (.slice ak t.ks.length ck) (.slice ai t.is.length ci))) := Osw.plain HW.out HQV.out HTS.out 1 _ rfl ⟨HBD.out.n, HBD.out.b, HBD.out.s, HBD.out.y, HBD.out.l, HBD.out.d⟩ rfl rfl rfl (fun hc => Oth.flag hc) (by rw [tmuch_eq, tmuch_eq t]; exact Nat.le_add_right _ 2)
          clear h2
          go_wp2_with fail
          go_meet
          case rel => exact ⟨_, _, HOS⟩
        by_cases h3 : t.k = 3
        · as_aux_lemma =>
          have g2 : (t.k == 2) = false := beq_eq_false_iff_ne.2 h2
          have g3 : (t.k == 3) = true := beq_iff_eq.2 h3
          clear h2 h3
          by_cases h8 : n % 8 < 4
          · as_aux_lemma =>
            have gA : (n : Int) % 8 < 4 := by omega
            have cc : w2.cell? ⟨w.heap.size, 2, none⟩ = some (.bool t.g) := blk_cell HQ0.out.p (by rw [← HCV.out]; rfl)
            have ff := blk_frozen 2 HQ0.out.p
            have HOS : Hid (Osw w (w2.setCell ⟨w.heap.size, 2, none⟩ (.bool (!t.g))) lo hi t (t.xg) (vcs (t.xg) (.slice ay t.y.length cy) (.slice ak t.ks.length ck) (.slice ai t.is.length ci))) := Osw.plain HW.out HQV.out HTS.out 2 _ rfl ⟨HBD.out.n, HBD.out.b, HBD.out.s, HBD.out.y, HBD.out.l, HBD.out.d⟩ rfl rfl rfl (fun hc => Oth.neg hc) (by rw [tmuch_eq, tmuch_eq t]; exact Nat.le_add_right _ 2)
            clear h8
            go_wp2_with fail
            go_meet
            case rel => exact ⟨_, _, HOS⟩
          · as_aux_lemma =>
            have gA : ¬ (n : Int) % 8 < 4 := by omega
            have HWR : Hid (IntKind.u64.wrap ((t.n : Int) + 1) = (((t.n + 1) % 18446744073709551616 : Nat) : Int)) := by show _ = _; rw [IntKind.wrap_u64]; omega
            have HNB := hide HBD.out.n
            have cc : w2.cell? ⟨w.heap.size, 3, none⟩ = some (.int .u64 (t.n : Nat)) := blk_cell HQ0.out.p (by rw [← HCV.out]; rfl)
            have ff := blk_frozen 3 HQ0.out.p
            have HOS : Hid (Osw w (w2.setCell ⟨w.heap.size, 3, none⟩ (.int .u64 (IntKind.u64.wrap ((t.n : Int) + 1)))) lo hi t (t.xn ((t.n + 1) % 18446744073709551616)) (vcs (t.xn ((t.n + 1) % 18446744073709551616)) (.slice ay t.y.length cy) (.slice ak t.ks.length ck) (.slice ai t.is.length ci))) := Osw.plain HW.out HQV.out HTS.out 3 _ (by rw [HWR.out]; rfl) ⟨Nat.mod_lt _ (by decide), HBD.out.b, HBD.out.s, HBD.out.y, HBD.out.l, HBD.out.d⟩ rfl rfl rfl (fun hc => Oth.num hc (by have := HNB.out; omega)) (by rw [tmuch_eq, tmuch_eq t]; exact Nat.le_add_right _ 2)
            clear h8
            go_wp2_with fail
            go_meet
            case rel => exact ⟨_, _, HOS⟩
        by_cases h4 : t.k = 4
        · as_aux_lemma =>
          have g2 : (t.k == 2) = false := beq_eq_false_iff_ne.2 h2
          have g3 : (t.k == 3) = false := beq_eq_false_iff_ne.2 h3
          have g4 : (t.k == 4) = true := beq_iff_eq.2 h4
          clear h2 h3 h4
          have HNB := hide HBD.out.b
          have HXO : Hid (bits BinOp.xor IntKind.u64 (t.b : Int) 9223372036854775808 = ((t.b ^^^ 9223372036854775808 : Nat) : Int)) := bits_xor_u64_nat t.b 9223372036854775808 HNB.out (by decide)
          have HXL : Hid (t.b ^^^ 9223372036854775808 < 18446744073709551616) := Nat.xor_lt_two_pow (n := 64) HNB.out (by decide)
          have HXN : Hid (t.b ^^^ 9223372036854775808 ≠ t.b) := fun e => by
            have h1 : t.b ^^^ (t.b ^^^ 9223372036854775808) = t.b ^^^ t.b := by rw [e]
            rw [← Nat.xor_assoc, Nat.xor_self, Nat.zero_xor] at h1
            cases h1
          have cc : w2.cell? ⟨w.heap.size, 4, none⟩ = some (.int .u64 (t.b : Nat)) := blk_cell HQ0.out.p (by rw [← HCV.out]; rfl)
          have ff := blk_frozen 4 HQ0.out.p
          have HOS : Hid (Osw w (w2.setCell ⟨w.heap.size, 4, none⟩ (.int .u64 (bits BinOp.xor IntKind.u64 (t.b : Int) 9223372036854775808))) lo hi t (t.xb (t.b ^^^ 9223372036854775808)) (vcs (t.xb (t.b ^^^ 9223372036854775808)) (.slice ay t.y.length cy) (.slice ak t.ks.length ck) (.slice ai t.is.length ci))) := Osw.plain HW.out HQV.out HTS.out 4 _ (by rw [HXO.out]; rfl) ⟨HBD.out.n, HXL.out, HBD.out.s, HBD.out.y, HBD.out.l, HBD.out.d⟩ rfl rfl rfl (fun hc => Oth.bits hc HXN.out) (by rw [tmuch_eq, tmuch_eq t]; exact Nat.le_add_right _ 2)
          go_wp2_with fail
          go_meet
          case rel => exact ⟨_, _, HOS⟩
        by_cases h5 : t.k = 5
        · as_aux_lemma =>
          have g2 : (t.k == 2) = false := beq_eq_false_iff_ne.2 h2
          have g3 : (t.k == 3) = false := beq_eq_false_iff_ne.2 h3
          have g4 : (t.k == 4) = false := beq_eq_false_iff_ne.2 h4
          have g5 : (t.k == 5) = true := beq_iff_eq.2 h5
          clear h2 h3 h4 h5
          have hsz : t.s.size ≤ 100000000 := by have := tmuch_eq t; have := HM.out; omega
          have HSA : Hid ((t.s ++ ⟨#[120]⟩).size = t.s.size + 1) := by show _ = _; rw [ByteArray.size_append]; rfl
          have g9 : ¬ 9223372036854775807 < t.s.size + 1 := by omega
          have cc : w2.cell? ⟨w.heap.size, 5, none⟩ = some (.string t.s) := blk_cell HQ0.out.p (by rw [← HCV.out]; rfl)
          have ff := blk_frozen 5 HQ0.out.p
          have HOS : Hid (Osw w (w2.setCell ⟨w.heap.size, 5, none⟩ (.string (t.s ++ ⟨#[120]⟩))) lo hi t (t.xs (t.s ++ ⟨#[120]⟩)) (vcs (t.xs (t.s ++ ⟨#[120]⟩)) (.slice ay t.y.length cy) (.slice ak t.ks.length ck) (.slice ai t.is.length ci))) := Osw.plain HW.out HQV.out HTS.out 5 _ rfl ⟨HBD.out.n, HBD.out.b, by show (t.s ++ ⟨#[120]⟩).size ≤ _; rw [HSA.out]; omega, HBD.out.y, HBD.out.l, HBD.out.d⟩ rfl rfl rfl (fun hc => Oth.text hc HSA.out) (by
            rw [tmuch_eq, tmuch_eq t]
            show 1 + t.ks.length + t.y.length / 64 + (t.s ++ ⟨#[120]⟩).size / 64 + t.l.d.length / 64 + (t.ks.map fun k => k.size / 64).sum + tmuchL t.is ≤ _
            rw [HSA.out]
            omega)
          clear hsz
          go_wp2_with fail
          go_meet
          case rel => exact ⟨_, _, HOS⟩
        by_cases h6 : t.k = 6
        · as_aux_lemma =>
          have g2 : (t.k == 2) = false := beq_eq_false_iff_ne.2 h2
          have g3 : (t.k == 3) = false := beq_eq_false_iff_ne.2 h3
          have g4 : (t.k == 4) = false := beq_eq_false_iff_ne.2 h4
          have g5 : (t.k == 5) = false := beq_eq_false_iff_ne.2 h5
          have g6 : (t.k == 6) = true := beq_iff_eq.2 h6
          clear h2 h3 h4 h5 h6
          have cc : w2.cell? ⟨w.heap.size, 6, none⟩ = some (.slice ay t.y.length cy) := blk_cell HQ0.out.p (by rw [← HCV.out]; rfl)
          have HYL : Hid (t.y.length ≤ 100000000) := by have := tmuch_eq t; have := HM.out; show _ ≤ _; omega
          have HLO : Hid (lo ≤ w2.heap.size) := by have := HWL.out; have := HLH.out; have := HW.out; have := HQ0.out.size; show _ ≤ _; omega
          go_wp2_with (at_builtin; refine append_byte6 rfl _ _ rfl lo _ t.y.length (bv t.y) rfl HY2.out 0 _ rfl rfl (by have := HYL.out; omega) HLO.out ?_)
          intro v7 w7 ho7 hg7 hv7
          obtain ⟨a7, c7, hs7⟩ := own_slice ho7
          subst hs7
          have hz7 := HQ0.out.app HW.out hg7 (fun q hq => ⟨(HY2.out.lt q hq).1, HGY.out q hq⟩)
          have cc7 : w7.cell? ⟨w.heap.size, 6, none⟩ = some (.slice ay t.y.length cy) := blk_cell hz7.p (by rw [← HCV.out]; rfl)
          have ff7 := blk_frozen 6 hz7.p
          have HOS := hide (Osw.bytes HW.out HQV.out HBD.out HYB.out HY2.out HGY.out HK2.out HGK.out HKL.out HKS.out HV2.out HGI.out HIL.out HL.out H13.out HAB.out HOY.out HCS2.out HYL.out ho7 hg7 (by simpa using hv7))
          clear ho7 hg7 hv7 hz7 cc
          go_wp2_with fail
          go_meet
          case rel => exact ⟨_, _, HOS⟩
        by_cases h8 : t.k = 8
        · as_aux_lemma =>
          have g2 : (t.k == 2) = false := beq_eq_false_iff_ne.2 h2
          have g3 : (t.k == 3) = false := beq_eq_false_iff_ne.2 h3
          have g4 : (t.k == 4) = false := beq_eq_false_iff_ne.2 h4
          have g5 : (t.k == 5) = false := beq_eq_false_iff_ne.2 h5
          have g6 : (t.k == 6) = false := beq_eq_false_iff_ne.2 h6
          have g8 : (t.k == 8) = true := beq_iff_eq.2 h8
          have HK8 := hide h8
          clear h2 h3 h4 h5 h6 h8
          have cc : w2.cell? ⟨w.heap.size, 12, none⟩ = some (.slice ai t.is.length ci) := blk_cell HQ0.out.p HC0.out
          have HLO : Hid (lo ≤ (w2.alloc (.cells (vcs (tk 1) (.slice none 0 0) (.slice none 0 0) (.slice none 0 0)) 29)).heap.size) := by have := HWL.out; have := HLH.out; have := HW.out; have := HQ0.out.size; show _ ≤ _; simp; omega
          have HVA := hide (HV2.out.alloc (.cells (vcs (tk 1) (.slice none 0 0) (.slice none 0 0) (.slice none 0 0)) 29))
          have HGA := hide (heap_alloc_new w2 (.cells (vcs (tk 1) (.slice none 0 0) (.slice none 0 0) (.slice none 0 0)) 29))
          have HO1 : Hid (one13 (vcs (tk 1) (.slice none 0 0) (.slice none 0 0) (.slice none 0 0))) := ⟨rfl, by decide⟩
          go_wp2_with (first
            | (refine wpList_val1 rfl rfl (vcs (tk 1) (.slice none 0 0) (.slice none 0 0) (.slice none 0 0)) rfl rfl ?_)
            | (at_builtin; refine append_val rfl _ _ rfl lo _ t.is.length (vfl L) rfl HVA.out w2.heap.size (vcs (tk 1) (.slice none 0 0) (.slice none 0 0) (.slice none 0 0)) HO1.out rfl HGA.out (by omega) HLO.out ?_))
          intro v7 w7 ho7 hg7 hv7
          obtain ⟨a7, c7, hs7⟩ := own_slice ho7
          subst hs7
          have hz7 := HQ0.out.app HW.out hg7 (fun q hq => ⟨(HV2.out.lt q hq).1, HGI.out q hq⟩)
          have cc7 : w7.cell? ⟨w.heap.size, 12, none⟩ = some (.slice ai t.is.length ci) := blk_cell hz7.p HC0.out
          have ff7 := blk_frozen 12 hz7.p
          have HOS := hide (Osw.items HW.out HCT.out HK8.out HQV.out HBD.out HYB.out HY2.out HGY.out HK2.out HGK.out HKL.out HKS.out HV2.out HGI.out hlen HL.out H13.out HAB.out HOI.out HCS2.out rfl ho7 hg7 (by simpa using hv7))
          clear ho7 hg7 hv7 hz7 cc
          go_wp2_with fail
          go_meet
          case rel => exact ⟨_, _, HOS⟩
        by_cases h9 : t.k = 9
        · as_aux_lemma =>
          have g2 : (t.k == 2) = false := beq_eq_false_iff_ne.2 h2
          have g3 : (t.k == 3) = false := beq_eq_false_iff_ne.2 h3
          have g4 : (t.k == 4) = false := beq_eq_false_iff_ne.2 h4
          have g5 : (t.k == 5) = false := beq_eq_false_iff_ne.2 h5
          have g6 : (t.k == 6) = false := beq_eq_false_iff_ne.2 h6
          have g8 : (t.k == 8) = false := beq_eq_false_iff_ne.2 h8
          have g9 : (t.k == 9) = true := beq_iff_eq.2 h9
          have HK9 := hide h9
          clear h2 h3 h4 h5 h6 h8 h9
          have hkm := (chk_trk HCT.out).m HK9.out
          have HKI := hide hkm.1
          clear hkm
          have cc : w2.cell? ⟨w.heap.size, 11, none⟩ = some (.slice ak t.ks.length ck) := blk_cell HQ0.out.p (by rw [← HCV.out]; rfl)
          have cd : w2.cell? ⟨w.heap.size, 12, none⟩ = some (.slice ai t.is.length ci) := blk_cell HQ0.out.p HC0.out
          by_cases h0 : t.ks.length = 0
          · as_aux_lemma =>
            have gA : ((t.ks.length : Int) == 0) = true := beq_iff_eq.2 (by omega)
            have HR2r := hide HQ0.out.r
            have HZ2 : Hid (zv.size = (vcs (tk 8) (.slice none 0 0) (.slice none 0 0) (.slice none 0 0)).size) := rfl
            have HI2 : Hid ((Tryd.prog.info? 29).map (·.size) = some (vcs (tk 8) (.slice none 0 0) (.slice none 0 0) (.slice none 0 0)).size) := infoV
            have HN2 : Hid ((vcs (tk 8) (.slice none 0 0) (.slice none 0 0) (.slice none 0 0)).all (·.oneCell') = true) := (tk_tis w2 (fun _ => False) 8).tin.all1
            go_wp2_with (first
              | (refine wpList_valAt rfl rfl w.heap.size 0 cs rfl HON.out.1 HXL.out ?_)
              | (refine wpList_storeRow rfl rfl (w.heap.size + 1) zv (vcs (tk 8) (.slice none 0 0) (.slice none 0 0) (.slice none 0 0)) 29 rfl rfl HR2r.out HI2.out HZ2.out HN2.out ?_))
            have hkr := row_kp w2 (w.heap.size + 1) (vcs (tk 8) (.slice none 0 0) (.slice none 0 0) (.slice none 0 0))
            have hw := HW.out
            exact bodyPost_ret (end_oth rfl (row_same HR2r.out) rfl rfl) rfl (OthP.mk (vcs (tk 8) (.slice none 0 0) (.slice none 0 0) (.slice none 0 0)) true ⟨rfl, by decide⟩ (HQ0.out.k.trans hkr (fun q hq e => by omega)) fun ht => ⟨tk 8, tk_tis _ _ 8, Oth.kind (by decide) (by decide) (by decide) (by rw [HK9.out]; decide) (fun _ => HK9.out)⟩)
          · as_aux_lemma =>
            have gA : ((t.ks.length : Int) == 0) = false := beq_eq_false_iff_ne.2 (by omega)
            have h0i : 0 < t.is.length := by have := HKI.out; omega
            obtain ⟨gk, hak, hck⟩ : ∃ g, ak = some ⟨g, 0, none⟩ ∧ t.ks.length ≤ ck := by
              rcases HK.out.2 with ⟨e, h1⟩ | ⟨g, cap, cur, e, _, _, h1, _⟩
              · omega
              · injection e with e1 e2 e3
                exact ⟨g, e1, by omega⟩
            obtain ⟨gi, hai, hci⟩ : ∃ g, ai = some ⟨g, 0, none⟩ ∧ t.is.length ≤ ci := by
              rcases HV.out.2 with ⟨e, h1⟩ | ⟨g, cap, cur, e, _, _, h1, _⟩
              · omega
              · injection e with e1 e2 e3
                exact ⟨g, e1, by omega⟩
            subst hak hai
            have HOS := hide (Osw.less HW.out HCT.out HK9.out h0i HQV.out HBD.out HYB.out HY2.out HGY.out HK2.out (HGK.out gk rfl) HKL.out HKS.out HV2.out (HGI.out gi rfl) hlen HL.out H13.out HAB.out HCS2.out)
            have ff := blk_frozen 11 HQ0.out.p
            have hz3 := HQ0.out.set 11 (.slice (some ⟨gk, 0, none⟩) (t.ks.length - 1) ck)
            have cd3 : (w2.setCell ⟨w.heap.size, 11, none⟩ (.slice (some ⟨gk, 0, none⟩) (t.ks.length - 1) ck)).cell? ⟨w.heap.size, 12, none⟩ = some (.slice (some ⟨gi, 0, none⟩) t.is.length ci) := blk_cell hz3.p (by rw [← HCV.out]; rfl)
            have fd3 := blk_frozen 12 hz3.p
            have e1 : IntKind.i64.wrap ((t.ks.length : Int) - 1) = ((t.ks.length - 1 : Nat) : Int) := by rw [IntKind.wrap_i64]; omega
            have e2 : IntKind.i64.wrap ((t.is.length : Int) - 1) = ((t.is.length - 1 : Nat) : Int) := by rw [IntKind.wrap_i64]; omega
            have e3 : t.ks.length - 1 ≤ ck := by omega
            have e4 : t.is.length - 1 ≤ ci := by omega
            clear hz3
            go_wp2_with fail
            go_meet
            case rel => exact ⟨_, _, HOS⟩
        by_cases h1 : t.k = 1
        · as_aux_lemma =>
          have g2 : (t.k == 2) = false := beq_eq_false_iff_ne.2 h2
          have g3 : (t.k == 3) = false := beq_eq_false_iff_ne.2 h3
          have g4 : (t.k == 4) = false := beq_eq_false_iff_ne.2 h4
          have g5 : (t.k == 5) = false := beq_eq_false_iff_ne.2 h5
          have g6 : (t.k == 6) = false := beq_eq_false_iff_ne.2 h6
          have g8 : (t.k == 8) = false := beq_eq_false_iff_ne.2 h8
          have g9 : (t.k == 9) = false := beq_eq_false_iff_ne.2 h9
          have g1 : (t.k == 1) = true := beq_iff_eq.2 h1
          have HK1 := hide h1
          clear h2 h3 h4 h5 h6 h8 h9 h1
          have HR2r := hide HQ0.out.r
          have HZ2 : Hid (zv.size = (vcs (tk 2) (.slice none 0 0) (.slice none 0 0) (.slice none 0 0)).size) := rfl
          have HI2 : Hid ((Tryd.prog.info? 29).map (·.size) = some (vcs (tk 2) (.slice none 0 0) (.slice none 0 0) (.slice none 0 0)).size) := infoV
          have HN2 : Hid ((vcs (tk 2) (.slice none 0 0) (.slice none 0 0) (.slice none 0 0)).all (·.oneCell') = true) := (tk_tis w2 (fun _ => False) 2).tin.all1
          go_wp2_with (first
            | (refine wpList_valAt rfl rfl w.heap.size 0 cs rfl HON.out.1 HXL.out ?_)
            | (refine wpList_storeRow rfl rfl (w.heap.size + 1) zv (vcs (tk 2) (.slice none 0 0) (.slice none 0 0) (.slice none 0 0)) 29 rfl rfl HR2r.out HI2.out HZ2.out HN2.out ?_))
          have hkr := row_kp w2 (w.heap.size + 1) (vcs (tk 2) (.slice none 0 0) (.slice none 0 0) (.slice none 0 0))
          have hw := HW.out
          exact bodyPost_ret (end_oth rfl (row_same HR2r.out) rfl rfl) rfl (OthP.mk (vcs (tk 2) (.slice none 0 0) (.slice none 0 0) (.slice none 0 0)) true ⟨rfl, by decide⟩ (HQ0.out.k.trans hkr (fun q hq e => by omega)) fun ht => ⟨tk 2, tk_tis _ _ 2, Oth.kind (by decide) (by decide) (by decide) (by rw [HK1.out]; decide) (fun h => by cases h)⟩)
        as_aux_lemma =>
          have g2 : (t.k == 2) = false := beq_eq_false_iff_ne.2 h2
          have g3 : (t.k == 3) = false := beq_eq_false_iff_ne.2 h3
          have g4 : (t.k == 4) = false := beq_eq_false_iff_ne.2 h4
          have g5 : (t.k == 5) = false := beq_eq_false_iff_ne.2 h5
          have g6 : (t.k == 6) = false := beq_eq_false_iff_ne.2 h6
          have g8 : (t.k == 8) = false := beq_eq_false_iff_ne.2 h8
          have g9 : (t.k == 9) = false := beq_eq_false_iff_ne.2 h9
          have g1 : (t.k == 1) = false := beq_eq_false_iff_ne.2 h1
          have HXL : Hid (∀ k v, cs[k]? = some v → w2.cell? ⟨w.heap.size, 0 + k, none⟩ = some v) := fun k v hv => by rw [Nat.zero_add]; exact blk_cell HQ0.out.p hv
          have HR2r := hide HQ0.out.r
          have HZ2 : Hid (zv.size = (cs).size) := by show _ = _; rw [HON.out.1]; rfl
          have HI2 : Hid ((Tryd.prog.info? 29).map (·.size) = some (cs).size) := by show _ = _; rw [HON.out.1]; exact infoV
          have HN2 : Hid ((cs).all (·.oneCell') = true) := HONA.out
          go_wp2_with (first
            | (refine wpList_valAt rfl rfl w.heap.size 0 cs rfl HON.out.1 HXL.out ?_)
            | (refine wpList_storeRow rfl rfl (w.heap.size + 1) zv (cs) 29 rfl rfl HR2r.out HI2.out HZ2.out HN2.out ?_))
          have hkr := row_kp w2 (w.heap.size + 1) (cs)
          have hw := HW.out
          exact bodyPost_ret (end_oth HON.out.1 (row_same HR2r.out) rfl rfl) rfl (OthP.mk (cs) false HON.out (HQ0.out.k.trans hkr (fun q hq e => by omega)) fun ht => by cases ht)
      case rest =>
        obtain ⟨c', t', HOS⟩ := hcut
        obtain ⟨w4, hw4⟩ : ∃ x, x = wc := ⟨_, rfl⟩
        subst hw4
        have HC1 := hide HOS.out.v.tin.size13
        have HCA := hide HOS.out.v.tin.all1
        have HCO : Hid (one13 c') := ⟨HC1.out, fun x hx => by
          have h := HCA.out
          rw [Array.all_eq_true'] at h
          exact h x (by simpa using hx)⟩
        have HM4 : Hid (tmuch t' ≤ 100000) := by have := HOS.out.m; have := HM.out; show _ ≤ _; omega
        have HINc : Hid ((Tryd.prog.info? 29).map (·.size) = some c'.size) := by show _ = _; rw [HC1.out]; exact infoV
        have HZVc : Hid (zv.size = c'.size) := by show _ = _; rw [HC1.out]; rfl
        have HBW : Hid (Below W.heap.size W w4) := by
          have hW := HBB.out.size
          have hl := HWL.out
          exact HBB.out.trans (HOS.out.z.k.below hW (fun q e => by omega))
        clear HY2 HK2 HV2 HCS2 HQV HTS HQ0 c0 HY HK HV HCS HOY HOK HOI HGY HGK HGI
        go_wp2_with fail
        refine heldStart (S := fun wy => wy.heap[w.heap.size]? = some (.cells c' 29 (0, 0))) (by kernel_rfl) ?_
        have hS : w4.drew.heap[w.heap.size]? = some (.cells c' 29 (0, 0)) := HOS.out.z.p
        refine heldTake 0 _ rfl (by kernel_rfl) (by kernel_rfl) (by kernel_rfl) (fun _ _ _ h => h) rfl hS (fun wy hy => exec_valAt (g := w.heap.size) (off := 0) (cs := c') rfl rfl HC1.out (fun k x hx => by rw [Nat.zero_add]; exact blk_cell hy hx)) ?_
        (try simp only [Act.put]); (try simp only [List.setIfInBounds_toArray, List.set_cons_zero, List.set_cons_succ])
        refine heldTake 1 _ rfl (by kernel_rfl) (by kernel_rfl) (by kernel_rfl) (fun _ _ _ h => h) rfl hS (fun wy hy => exec_valAt (g := w.heap.size) (off := 0) (cs := c') rfl rfl HC1.out (fun k x hx => by rw [Nat.zero_add]; exact blk_cell hy hx)) ?_
        (try simp only [Act.put]); (try simp only [List.setIfInBounds_toArray, List.set_cons_zero, List.set_cons_succ])
        refine heldStep 2 rfl (by kernel_rfl) (fun K hK => ?_)
        go_simp
        refine (check6_any t' w4.drew c' (HOS.out.v.kp ((Kp.refl _ w4).drew)).tin HM4.out (HT.out.next HBW.out.drew)).mono ?_
        rintro e we ⟨rfl, hbe⟩
        have HBE : Hid (Below w4.heap.size w4 we) := (Below.refl w4.heap.size w4).drew.trans hbe
        have HOE := hide (HOS.out.next HW.out HBE.out)
        refine (Hid.out hK) _ _ HOE.out.z.p (fun hS2 => ?_)
        clear hK K hS hbe
        (try simp only [Act.put]); (try simp only [List.setIfInBounds_toArray, List.set_cons_zero, List.set_cons_succ])
        refine heldStep 3 rfl (by kernel_rfl) (fun K hK => ?_)
        go_simp
        refine (num6_any _ we).mono ?_
        rintro e wf ⟨rfl, hwf⟩
        have hwf2 := hwf.symm
        subst hwf2
        refine (Hid.out hK) _ _ hS2 (fun hS3 => ?_)
        clear hK K hS2
        (try simp only [Act.put]); (try simp only [List.setIfInBounds_toArray, List.set_cons_zero, List.set_cons_succ])
        refine heldTake 4 _ rfl (by kernel_rfl) (by kernel_rfl) (by kernel_rfl) (fun _ _ _ h => h) rfl hS3 (fun wy hy => by first | (go_simp; done) | (go_simp; rfl) | rfl) ?_
        (try simp only [Act.put]); (try simp only [List.setIfInBounds_toArray, List.set_cons_zero, List.set_cons_succ])
        refine heldStep 5 rfl (by kernel_rfl) (fun K hK => ?_)
        refine step_storeRow rfl rfl (w.heap.size + 1) zv c' 29 rfl rfl HOE.out.z.r HINc.out HZVc.out HCA.out ?_
        have hrk := row_kp we (w.heap.size + 1) c'
        refine (Hid.out hK) _ _ ((hrk.block _ (blk_lt hS3) (by omega)).trans hS3) (fun hS4 => ?_)
        clear hK K hrk
        (try simp only [Act.put]); (try simp only [List.setIfInBounds_toArray, List.set_cons_zero, List.set_cons_succ])
        refine heldTake 6 _ rfl (by kernel_rfl) (by kernel_rfl) (by kernel_rfl) (fun _ _ _ h => h) rfl hS4 (fun wy hy => by first | (go_simp; done) | (go_simp; rfl) | rfl) ?_
        (try simp only [Act.put]); (try simp only [List.setIfInBounds_toArray, List.set_cons_zero, List.set_cons_succ])
        refine heldDone (by kernel_rfl) ?_
        clear hS3 hS4
        go_wp2_with fail
        have hkr := row_kp we (w.heap.size + 1) c'
        have hw := HW.out
        exact bodyPost_ret (end_oth HC1.out (row_same HOE.out.z.r) rfl rfl) rfl (OthP.mk c' _ HCO.out (HOE.out.z.k.trans hkr (fun q hq e => by omega)) fun ht => ⟨t', (HOE.out.v.kp (hkr.mono (fun q _ e => by omega))).mono (fun q e => by omega), HOE.out.o (by have h := beq_iff_eq.1 ht; omega)⟩)
theorem oth6_any (W : World) (hT : Tabs W) (t : Tv) (w : World) (lo hi n : Nat) (c : Array Value) (hts : Nts w lo hi t c) (hw : hi ≤ w.heap.size) (hWl : W.heap.size ≤ lo) (hlh : lo ≤ hi) (hB : Below W.heap.size W w) (hct : chkf t 0 = 0) (hm : tmuch t ≤ 30000) (hn : n < 1048576) :
    Calls Tryd.prog 18 #[.agg c, .int .i64 (n : Nat)] w (OthP w lo hi t) := by
  have h : ∀ N, OthC W N := by
    intro N
    induction N with
    | zero => exact fun t h => absurd h (by omega)
    | succ N ih =>
      intro t htN w lo hi n c h1 h2 h3 h4 h5 h6 h7 h8
      exact other_step W hT (SizeOf.sizeOf t) (fun u hu => ih u (by omega)) t rfl w lo hi n c h1 h2 h3 h4 h5 h6 h7 h8
  exact h _ t (Nat.lt_succ_self _) w lo hi n c hts hw hWl hlh hB hct hm hn
end
section
open Go.RowKit Go
set_option maxRecDepth 1000000 in
theorem within7_any (m : Int) (w : World) : Calls Tryd.prog 10 #[.int .i64 m, .int .i64 1048576] w fun e w' => ∃ k : Nat, k < 1048576 ∧ e = .returned (.int .i64 (k : Nat)) ∧ w' = w := by
  have h1 : -1048576 < m.tmod 1048576 ∧ m.tmod 1048576 < 1048576 := by
    by_cases h : 0 ≤ m
    · rw [Int.tmod_eq_emod_of_nonneg h]; omega
    · have e : m = -(-m) := by omega
      rw [e, Int.neg_tmod, Int.tmod_eq_emod_of_nonneg (by omega)]; omega
  by_cases hneg : m.tmod 1048576 < 0
  · go_enter Tryd.func10, Tryd.ntmps10
    go_wp2
    go_ret
    refine ⟨(m.tmod 1048576 + 1048576).toNat, by omega, ?_, rfl⟩
    rw [Int.toNat_of_nonneg (by omega)]
    rfl
  · go_enter Tryd.func10, Tryd.ntmps10
    go_wp2
    go_ret
    refine ⟨(m.tmod 1048576).toNat, by omega, ?_, rfl⟩
    rw [Int.toNat_of_nonneg (by omega)]
    rfl
/-- A variable that holds the other value. -/
structure Uvr (wx : World) (g : Nat) (c : Array Value) (ok : Bool) (t : Tv) : Prop where
  x : wx.heap[g]? = some (.cells c 29 (0, 0))
  o : one13 c
  t : ok = true → ∃ t', Tin wx t' c ∧ Oth t t'
theorem Uvr.next {wx wy : World} {g : Nat} {c : Array Value} {ok : Bool} {t : Tv} (h : Uvr wx g c ok t) (hb : Below wx.heap.size wx wy) : Uvr wy g c ok t :=
  ⟨(hb.block _ (blk_lt h.x)).trans h.x, h.o, fun e => by obtain ⟨t', h1, h2⟩ := h.t e; exact ⟨t', h1.move (keep_below hb), h2⟩⟩
theorem Trt.kp {w wx wy : World} {cs : Array Value} {N : Int} {S : Nat → Prop} (h : Trt w wx cs N) (hk : Kp S wx wy) (hs : ∀ q, S q → w.heap.size < q) : Trt w wy cs N :=
  ⟨h.b.trans (hk.below h.b.size (fun q e => Nat.le_of_lt (hs q e))), (hk.block _ (blk_lt h.p) (fun e => Nat.lt_irrefl _ (hs _ e))).trans h.p⟩
theorem Teq.symm {a b : Tv} (h : Teq a b) : Teq b a := by
  obtain ⟨s, h1, h2⟩ := h
  exact ⟨s, h2, h1⟩
set_option maxRecDepth 1000000 in
set_option maxHeartbeats 8000000 in
theorem vunlike_any (w : World) (cs : Array Value) (N : Int) (t : Tv) (ht : Tin w t cs) (hT : Tabs w) : Calls Tryd.prog 4 #[.agg (cs.push (.int .i64 N))] w fun e w' => e = .returned (.bool true) ∧ Below w.heap.size w w' := by
  have HT := hide hT
  have HTN := hide ht
  have HSZ := hide ht.size13
  have HQ0 : Hid (Trt w (w.alloc (.cells (cs.push (.int .i64 N)) 31)) cs N) := ⟨below_alloc4 w _, heap_alloc_new w _⟩
  clear ht hT
  generalize hcp : cs.push (.int .i64 N) = cp at *
  go_enter Tryd.func4, Tryd.ntmps4
  go_upto_region 1 with fail
  generalize w.alloc (.cells cp 31) = w1 at *
  clear hcp
  have HV1 := hide HQ0.out.va
  have HG1 := hide (heap_alloc_new w1 (.cells cs 29))
  have HQ1 := hide (HQ0.out.next (below_alloc4 w1 (.cells cs 29)))
  go_wp2_with (first
    | (refine wpList_valAt rfl rfl w.heap.size 0 cs rfl HSZ.out HV1.out ?_)
    | (refine wpList_val1 rfl rfl cs HSZ.out rfl ?_))
  refine (much_any [t] _ _ 20000 (vsl_one (HTN.out.move (keep_below HQ1.out.b)) HG1.out) (by omega)).mono ?_
  rintro e w2 ⟨r, rfl, hmu, hb2⟩
  have HMU := hide hmu
  have HQ2 := hide (HQ1.out.next hb2)
  clear hmu hb2 HQ1 HG1 HQ0 HV1
  by_cases hr : 20000 < r
  · as_aux_lemma =>
    have g0 : (20000 : Int) < (r : Int) := by omega
    go_wp2_with fail
    refine (wakes_any w2 (HT.out.next HQ2.out.b)).mono ?_
    rintro e w3 ⟨rfl, hb3⟩
    have HQ3 := hide (HQ2.out.next hb3)
    clear hb3
    go_wp2_with fail
    go_ret
    exact ⟨rfl, HQ3.out.b⟩
  have g0 : ¬ (20000 : Int) < (r : Int) := by omega
  have g0d : decide ((20000 : Int) < (r : Int)) = false := decide_eq_false g0
  have HM : Hid (tmuch t ≤ 20000) := by
    have h1 := HMU.out.eq (by omega)
    have h2 : tmuchL [t] = tmuch t := by rw [tmuchL, tmuchL]; omega
    show _ ≤ _
    omega
  have HV2 := hide HQ2.out.va
  clear HMU hr
  go_wp2_with (refine wpList_valAt rfl rfl w.heap.size 0 cs rfl HSZ.out HV2.out ?_)
  refine (check6_any t w2 cs (HTN.out.move (keep_below HQ2.out.b)) (by have := HM.out; omega) (HT.out.next HQ2.out.b)).mono ?_
  rintro e w3 ⟨rfl, hb3⟩
  have HQ3 := hide (HQ2.out.next hb3)
  clear hb3 HQ2 HV2
  go_wp2_with fail
  refine (num6_any _ w3).mono ?_
  rintro e w4 ⟨rfl, hw4⟩
  have hw4 := hw4.symm
  subst hw4
  by_cases hz : chkf t 0 = 0
  case neg => as_aux_lemma =>
    have g1 : ((chkf t 0 : Int) != 0) = true := by rw [nat_ne0]; simp [hz]
    clear hz
    generalize chkf t 0 = z at *
    go_wp2_with fail
    refine (wakes_any w3 (HT.out.next HQ3.out.b)).mono ?_
    rintro e w4 ⟨rfl, hb4⟩
    have HQ4 := hide (HQ3.out.next hb4)
    clear hb4
    go_wp2_with fail
    go_ret
    exact ⟨rfl, HQ4.out.b⟩
  have HCZ := hide hz
  have HTK := hide (chk_trk hz)
  rw [hz]
  clear hz
  go_wp2_with fail
  go_cut [3, 4] from 18 to 27 (fun xx oo wx => ∃ (gx : Nat) (c : Array Value) (ok : Bool), xx = .pointer (some ⟨gx, 0, none⟩) ∧ oo = .bool ok ∧ Hid (Trt w wx cs N) ∧ Hid (Uvr wx gx c ok t))
  case first => as_aux_lemma =>
    refine heldStart (S := fun wy => Trt w wy cs N) (by kernel_rfl) ?_
    have hS : Trt w w3.drew cs N := HQ3.out.next (by refine Below.drew ?_; exact Below.refl _ _)
    refine heldTake 0 _ rfl (by kernel_rfl) (by kernel_rfl) (by kernel_rfl) (fun _ _ _ h => h) rfl hS (fun wy hy => by first | (go_simp; done) | (go_simp; rfl) | rfl) ?_
    (try simp only [Act.put]); (try simp only [List.setIfInBounds_toArray, List.set_cons_zero, List.set_cons_succ])
    refine heldTake 1 _ rfl (by kernel_rfl) (by kernel_rfl) (by kernel_rfl) (fun _ _ _ h => h) rfl hS (fun wy hy => exec_valAt (g := w.heap.size) (off := 0) (cs := cs) rfl rfl HSZ.out hy.va) ?_
    (try simp only [Act.put]); (try simp only [List.setIfInBounds_toArray, List.set_cons_zero, List.set_cons_succ])
    refine heldTake 3 _ rfl (by kernel_rfl) (by kernel_rfl) (by kernel_rfl) (fun _ _ _ h => h) rfl hS (fun wy hy => by first | (go_simp; done) | (go_simp; rfl) | rfl) ?_
    (try simp only [Act.put]); (try simp only [List.setIfInBounds_toArray, List.set_cons_zero, List.set_cons_succ])
    refine heldTake 4 _ rfl (by kernel_rfl) (by kernel_rfl) (by kernel_rfl) (fun _ _ _ h => h) rfl hS (fun wy hy => by have h0 := hy.n HSZ.out; first | (go_simp; done) | (go_simp; rfl) | rfl) ?_
    (try simp only [Act.put]); (try simp only [List.setIfInBounds_toArray, List.set_cons_zero, List.set_cons_succ])
    generalize w3.drew = w4 at *
    refine wpAnyH_ready (rs := [2, 10]) (by kernel_rfl) (by simp) ?_
    refine AllReadyH.cons rfl (fun K hK => ?_) (AllReadyH.cons rfl (fun K hK => ?_) AllReadyH.nil)
    · as_aux_lemma =>
      go_simp
      refine (copyNts_any t w4 cs (HTN.out.move (keep_below hS.b)) (by have := HM.out; omega)).mono ?_
      rintro e we ⟨c, rfl, hnt, hbe⟩
      have HNT := hide hnt
      have HLH : Hid (w4.heap.size ≤ we.heap.size) := hbe.size
      have HWL : Hid (w.heap.size < w4.heap.size) := blk_lt hS.p
      have hSe : Trt w we cs N := hS.next hbe
      refine (Shut.out hK) _ _ hSe (fun hS2 => ?_)
      clear hK K hnt hbe hS hSe
      have hS := hS2
      clear hS2
      (try simp only [Act.put]); (try simp only [List.setIfInBounds_toArray, List.set_cons_zero, List.set_cons_succ])
      refine wpAnyH_ready (rs := [5, 10]) (by kernel_rfl) (by simp) ?_
      refine AllReadyH.cons rfl (fun K hK => ?_) (AllReadyH.cons rfl (fun K hK => ?_) AllReadyH.nil)
      · as_aux_lemma =>
        go_simp
        refine (within7_any N _).mono ?_
        rintro e wd ⟨k, hk, rfl, hwd⟩
        have hwd2 := hwd.symm
        subst hwd2
        refine (Shut.out hK) _ _ hS (fun hS2 => ?_)
        clear hK K hS2
        (try simp only [Act.put]); (try simp only [List.setIfInBounds_toArray, List.set_cons_zero, List.set_cons_succ])
        refine wpAnyH_ready (rs := [6, 10]) (by kernel_rfl) (by simp) ?_
        refine AllReadyH.cons rfl (fun K hK => ?_) (AllReadyH.cons rfl (fun K hK => ?_) AllReadyH.nil)
        · as_aux_lemma =>
          go_simp
          refine (oth6_any w HT.out t we w4.heap.size we.heap.size k c HNT.out (Nat.le_refl _) (by have := HWL.out; omega) HLH.out hS.b HCZ.out (by have := HM.out; omega) hk).mono ?_
          rintro e wo ⟨c2, ok, rfl, hox, hkx, hux⟩
          have hSe : Trt w wo cs N := hS.kp hkx (fun q e => by have := HWL.out; omega)
          have HS1 := hide hox.1
          have HA1 : Hid (c2.all (·.oneCell') = true) := by
            show _ = _
            rw [Array.all_eq_true']
            intro x hx
            exact hox.2 x (by simpa using hx)
          have HIN : Hid ((Tryd.prog.info? 29).map (·.size) = some c2.size) := by show _ = _; rw [HS1.out]; exact infoV
          have HZV : Hid (zv.size = c2.size) := by show _ = _; rw [HS1.out]; rfl
          have HG0 := hide (heap_alloc_new wo (.cells zv 29))
          have HQA : Hid (Trt w (wo.alloc (.cells zv 29)) cs N) := hSe.next (below_alloc4 wo _)
          have HQZ : Hid (Trt w ((wo.alloc (.cells zv 29)).setRow wo.heap.size c2) cs N) := hSe.next (itm_mk wo c2).b
          have HVZ : Hid (Uvr ((wo.alloc (.cells zv 29)).setRow wo.heap.size c2) wo.heap.size c2 ok t) := ⟨(itm_mk wo c2).r, hox, fun e => by
            obtain ⟨t2, h1, h2⟩ := hux e
            exact ⟨t2, h1.tin.move (keep_below (itm_mk wo c2).b), h2⟩⟩
          refine (Shut.out hK) _ _ hSe (fun hS2 => ?_)
          clear hK K hox hkx hux hS hSe
          have hS := hS2
          clear hS2
          (try simp only [Act.put]); (try simp only [List.setIfInBounds_toArray, List.set_cons_zero, List.set_cons_succ])
          refine heldTake 7 _ rfl (by kernel_rfl) (by kernel_rfl) (by kernel_rfl) (fun _ _ _ h => h) rfl hS (fun wy hy => by first | (go_simp; done) | (go_simp; rfl) | rfl) ?_
          (try simp only [Act.put]); (try simp only [List.setIfInBounds_toArray, List.set_cons_zero, List.set_cons_succ])
          refine heldTake 8 _ rfl (by kernel_rfl) (by kernel_rfl) (by kernel_rfl) (fun _ _ _ h => h) rfl hS (fun wy hy => by first | (go_simp; done) | (go_simp; rfl) | rfl) ?_
          (try simp only [Act.put]); (try simp only [List.setIfInBounds_toArray, List.set_cons_zero, List.set_cons_succ])
          refine heldTake 9 _ rfl (by kernel_rfl) (by kernel_rfl) (by kernel_rfl) (fun _ _ _ h => h) rfl hS (fun wy hy => by first | (go_simp; done) | (go_simp; rfl) | rfl) ?_
          (try simp only [Act.put]); (try simp only [List.setIfInBounds_toArray, List.set_cons_zero, List.set_cons_succ])
          refine heldStep 10 rfl (by kernel_rfl) (fun K hK => ?_)
          go_simp
          refine (Hid.out hK) _ (wo.alloc (.cells zv 29)) HQA.out (fun hS3 => ?_)
          clear hK K hS
          (try simp only [Act.put]); (try simp only [List.setIfInBounds_toArray, List.set_cons_zero, List.set_cons_succ])
          refine heldStep 11 rfl (by kernel_rfl) (fun K hK => ?_)
          refine step_storeRow rfl rfl wo.heap.size zv c2 29 rfl rfl HG0.out HIN.out HZV.out HA1.out ?_
          refine (Hid.out hK) _ _ HQZ.out (fun hS4 => ?_)
          clear hK K hS3
          (try simp only [Act.put]); (try simp only [List.setIfInBounds_toArray, List.set_cons_zero, List.set_cons_succ])
          refine heldTake 12 _ rfl (by kernel_rfl) (by kernel_rfl) (by kernel_rfl) (fun _ _ _ h => h) rfl hS4 (fun wy hy => by first | (go_simp; done) | (go_simp; rfl) | rfl) ?_
          (try simp only [Act.put]); (try simp only [List.setIfInBounds_toArray, List.set_cons_zero, List.set_cons_succ])
          refine heldDone (by kernel_rfl) ?_
          clear hS4
          go_wp2_with fail
          go_meet
          case rel => exact ⟨_, c2, ok, rfl, rfl, HQZ, HVZ⟩
        · as_aux_lemma =>
          go_simp
          have HGX : Hid ((we.alloc (.cells zv 29)).heap[we.heap.size]? = some (.cells zv 29 (0, 0))) := heap_alloc_new we (.cells zv 29)
          have HBX : Hid (Below we.heap.size we (we.alloc (.cells zv 29))) := below_alloc4 we _
          have HXS : Hid ((we.alloc (.cells zv 29)).heap.size = we.heap.size + 1) := by show _ = _; simp
          have hSA : Trt w (we.alloc (.cells zv 29)) cs N := hS.next (below_alloc4 we _)
          have HWG : Hid (w.heap.size < we.heap.size) := blk_lt hS.p
          have HNT : Hid (Nts (we.alloc (.cells zv 29)) w4.heap.size we.heap.size t c) := HNT.out.kept HBX.out
          refine (Shut.out hK) _ _ hSA (fun hS2 => ?_)
          clear hK K hS hSA
          have hS := hS2
          clear hS2
          (try simp only [Act.put]); (try simp only [List.setIfInBounds_toArray, List.set_cons_zero, List.set_cons_succ])
          unfold zv at HGX HBX HXS hS HNT
          generalize we.alloc (.cells #[.int .i64 0, .bool false, .bool false, .int .u64 0, .int .u64 0, .string ⟨#[]⟩, .slice none 0 0, .int .i64 0, .int .u64 0, .int .u64 0, .string ⟨#[]⟩, .slice none 0 0, .slice none 0 0] 29) = wa at *
          have HGX : Hid (wa.heap[we.heap.size]? = some (.cells zv 29 (0, 0))) := HGX
          refine heldStep 6 rfl (by kernel_rfl) (fun K hK => ?_)
          go_simp
          refine (oth6_any w HT.out t wa w4.heap.size we.heap.size k c HNT.out (by have := HXS.out; omega) (by have := HWL.out; omega) HLH.out hS.b HCZ.out (by have := HM.out; omega) hk).mono ?_
          rintro e wo ⟨c2, ok, rfl, hox, hkx, hux⟩
          have hSe : Trt w wo cs N := hS.kp hkx (fun q e => by have := HWL.out; omega)
          have HS1 := hide hox.1
          have HA1 : Hid (c2.all (·.oneCell') = true) := by
            show _ = _
            rw [Array.all_eq_true']
            intro x hx
            exact hox.2 x (by simpa using hx)
          have HIN : Hid ((Tryd.prog.info? 29).map (·.size) = some c2.size) := by show _ = _; rw [HS1.out]; exact infoV
          have HZV : Hid (zv.size = c2.size) := by show _ = _; rw [HS1.out]; rfl
          have HG0 : Hid (wo.heap[we.heap.size]? = some (.cells zv 29 (0, 0))) := (hkx.block _ (blk_lt HGX.out) (fun e => by have := HLH.out; have := HXS.out; omega)).trans HGX.out
          have hrk := row_kp wo (we.heap.size) c2
          have HQZ : Hid (Trt w (wo.setRow (we.heap.size) c2) cs N) := hSe.kp hrk (fun q e => by have := HWG.out; omega)
          have HVZ : Hid (Uvr (wo.setRow (we.heap.size) c2) (we.heap.size) c2 ok t) := ⟨row_same HG0.out, hox, fun e => by
            obtain ⟨t2, h1, h2⟩ := hux e
            exact ⟨t2, (h1.kp (hrk.mono (fun q _ e => by have := HLH.out; have := HXS.out; omega))).tin, h2⟩⟩
          refine (Hid.out hK) _ _ hSe (fun hS2 => ?_)
          clear hK K hox hkx hux hS hSe hrk
          have hS := hS2
          clear hS2
          (try simp only [Act.put]); (try simp only [List.setIfInBounds_toArray, List.set_cons_zero, List.set_cons_succ])
          refine heldTake 7 _ rfl (by kernel_rfl) (by kernel_rfl) (by kernel_rfl) (fun _ _ _ h => h) rfl hS (fun wy hy => by first | (go_simp; done) | (go_simp; rfl) | rfl) ?_
          (try simp only [Act.put]); (try simp only [List.setIfInBounds_toArray, List.set_cons_zero, List.set_cons_succ])
          refine heldTake 8 _ rfl (by kernel_rfl) (by kernel_rfl) (by kernel_rfl) (fun _ _ _ h => h) rfl hS (fun wy hy => by first | (go_simp; done) | (go_simp; rfl) | rfl) ?_
          (try simp only [Act.put]); (try simp only [List.setIfInBounds_toArray, List.set_cons_zero, List.set_cons_succ])
          refine heldTake 9 _ rfl (by kernel_rfl) (by kernel_rfl) (by kernel_rfl) (fun _ _ _ h => h) rfl hS (fun wy hy => by first | (go_simp; done) | (go_simp; rfl) | rfl) ?_
          (try simp only [Act.put]); (try simp only [List.setIfInBounds_toArray, List.set_cons_zero, List.set_cons_succ])
          refine heldStep 11 rfl (by kernel_rfl) (fun K hK => ?_)
          refine step_storeRow rfl rfl (we.heap.size) zv c2 29 rfl rfl HG0.out HIN.out HZV.out HA1.out ?_
          refine (Hid.out hK) _ _ HQZ.out (fun hS4 => ?_)
          clear hK K hS
          (try simp only [Act.put]); (try simp only [List.setIfInBounds_toArray, List.set_cons_zero, List.set_cons_succ])
          refine heldTake 12 _ rfl (by kernel_rfl) (by kernel_rfl) (by kernel_rfl) (fun _ _ _ h => h) rfl hS4 (fun wy hy => by first | (go_simp; done) | (go_simp; rfl) | rfl) ?_
          (try simp only [Act.put]); (try simp only [List.setIfInBounds_toArray, List.set_cons_zero, List.set_cons_succ])
          refine heldDone (by kernel_rfl) ?_
          clear hS4
          go_wp2_with fail
          go_meet
          case rel => exact ⟨_, c2, ok, rfl, rfl, HQZ, HVZ⟩
      · as_aux_lemma =>
        go_simp
        have HGX : Hid ((we.alloc (.cells zv 29)).heap[we.heap.size]? = some (.cells zv 29 (0, 0))) := heap_alloc_new we (.cells zv 29)
        have HBX : Hid (Below we.heap.size we (we.alloc (.cells zv 29))) := below_alloc4 we _
        have HXS : Hid ((we.alloc (.cells zv 29)).heap.size = we.heap.size + 1) := by show _ = _; simp
        have hSA : Trt w (we.alloc (.cells zv 29)) cs N := hS.next (below_alloc4 we _)
        have HWG : Hid (w.heap.size < we.heap.size) := blk_lt hS.p
        have HNT : Hid (Nts (we.alloc (.cells zv 29)) w4.heap.size we.heap.size t c) := HNT.out.kept HBX.out
        refine (Shut.out hK) _ _ hSA (fun hS2 => ?_)
        clear hK K hS hSA
        have hS := hS2
        clear hS2
        (try simp only [Act.put]); (try simp only [List.setIfInBounds_toArray, List.set_cons_zero, List.set_cons_succ])
        unfold zv at HGX HBX HXS hS HNT
        generalize we.alloc (.cells #[.int .i64 0, .bool false, .bool false, .int .u64 0, .int .u64 0, .string ⟨#[]⟩, .slice none 0 0, .int .i64 0, .int .u64 0, .int .u64 0, .string ⟨#[]⟩, .slice none 0 0, .slice none 0 0] 29) = wa at *
        have HGX : Hid (wa.heap[we.heap.size]? = some (.cells zv 29 (0, 0))) := HGX
        refine heldStep 5 rfl (by kernel_rfl) (fun K hK => ?_)
        go_simp
        refine (within7_any N _).mono ?_
        rintro e wd ⟨k, hk, rfl, hwd⟩
        have hwd2 := hwd.symm
        subst hwd2
        refine (Hid.out hK) _ _ hS (fun hS2 => ?_)
        clear hK K hS2
        (try simp only [Act.put]); (try simp only [List.setIfInBounds_toArray, List.set_cons_zero, List.set_cons_succ])
        refine heldStep 6 rfl (by kernel_rfl) (fun K hK => ?_)
        go_simp
        refine (oth6_any w HT.out t wa w4.heap.size we.heap.size k c HNT.out (by have := HXS.out; omega) (by have := HWL.out; omega) HLH.out hS.b HCZ.out (by have := HM.out; omega) hk).mono ?_
        rintro e wo ⟨c2, ok, rfl, hox, hkx, hux⟩
        have hSe : Trt w wo cs N := hS.kp hkx (fun q e => by have := HWL.out; omega)
        have HS1 := hide hox.1
        have HA1 : Hid (c2.all (·.oneCell') = true) := by
          show _ = _
          rw [Array.all_eq_true']
          intro x hx
          exact hox.2 x (by simpa using hx)
        have HIN : Hid ((Tryd.prog.info? 29).map (·.size) = some c2.size) := by show _ = _; rw [HS1.out]; exact infoV
        have HZV : Hid (zv.size = c2.size) := by show _ = _; rw [HS1.out]; rfl
        have HG0 : Hid (wo.heap[we.heap.size]? = some (.cells zv 29 (0, 0))) := (hkx.block _ (blk_lt HGX.out) (fun e => by have := HLH.out; have := HXS.out; omega)).trans HGX.out
        have hrk := row_kp wo (we.heap.size) c2
        have HQZ : Hid (Trt w (wo.setRow (we.heap.size) c2) cs N) := hSe.kp hrk (fun q e => by have := HWG.out; omega)
        have HVZ : Hid (Uvr (wo.setRow (we.heap.size) c2) (we.heap.size) c2 ok t) := ⟨row_same HG0.out, hox, fun e => by
          obtain ⟨t2, h1, h2⟩ := hux e
          exact ⟨t2, (h1.kp (hrk.mono (fun q _ e => by have := HLH.out; have := HXS.out; omega))).tin, h2⟩⟩
        refine (Hid.out hK) _ _ hSe (fun hS2 => ?_)
        clear hK K hox hkx hux hS hSe hrk
        have hS := hS2
        clear hS2
        (try simp only [Act.put]); (try simp only [List.setIfInBounds_toArray, List.set_cons_zero, List.set_cons_succ])
        refine heldTake 7 _ rfl (by kernel_rfl) (by kernel_rfl) (by kernel_rfl) (fun _ _ _ h => h) rfl hS (fun wy hy => by first | (go_simp; done) | (go_simp; rfl) | rfl) ?_
        (try simp only [Act.put]); (try simp only [List.setIfInBounds_toArray, List.set_cons_zero, List.set_cons_succ])
        refine heldTake 8 _ rfl (by kernel_rfl) (by kernel_rfl) (by kernel_rfl) (fun _ _ _ h => h) rfl hS (fun wy hy => by first | (go_simp; done) | (go_simp; rfl) | rfl) ?_
        (try simp only [Act.put]); (try simp only [List.setIfInBounds_toArray, List.set_cons_zero, List.set_cons_succ])
        refine heldTake 9 _ rfl (by kernel_rfl) (by kernel_rfl) (by kernel_rfl) (fun _ _ _ h => h) rfl hS (fun wy hy => by first | (go_simp; done) | (go_simp; rfl) | rfl) ?_
        (try simp only [Act.put]); (try simp only [List.setIfInBounds_toArray, List.set_cons_zero, List.set_cons_succ])
        refine heldStep 11 rfl (by kernel_rfl) (fun K hK => ?_)
        refine step_storeRow rfl rfl (we.heap.size) zv c2 29 rfl rfl HG0.out HIN.out HZV.out HA1.out ?_
        refine (Hid.out hK) _ _ HQZ.out (fun hS4 => ?_)
        clear hK K hS
        (try simp only [Act.put]); (try simp only [List.setIfInBounds_toArray, List.set_cons_zero, List.set_cons_succ])
        refine heldTake 12 _ rfl (by kernel_rfl) (by kernel_rfl) (by kernel_rfl) (fun _ _ _ h => h) rfl hS4 (fun wy hy => by first | (go_simp; done) | (go_simp; rfl) | rfl) ?_
        (try simp only [Act.put]); (try simp only [List.setIfInBounds_toArray, List.set_cons_zero, List.set_cons_succ])
        refine heldDone (by kernel_rfl) ?_
        clear hS4
        go_wp2_with fail
        go_meet
        case rel => exact ⟨_, c2, ok, rfl, rfl, HQZ, HVZ⟩
    · as_aux_lemma =>
      go_simp
      have HGX : Hid ((w4.alloc (.cells zv 29)).heap[w4.heap.size]? = some (.cells zv 29 (0, 0))) := heap_alloc_new w4 (.cells zv 29)
      have HBX : Hid (Below w4.heap.size w4 (w4.alloc (.cells zv 29))) := below_alloc4 w4 _
      have HXS : Hid ((w4.alloc (.cells zv 29)).heap.size = w4.heap.size + 1) := by show _ = _; simp
      have hSA : Trt w (w4.alloc (.cells zv 29)) cs N := hS.next (below_alloc4 w4 _)
      have HWG : Hid (w.heap.size < w4.heap.size) := blk_lt hS.p
      refine (Shut.out hK) _ _ hSA (fun hS2 => ?_)
      clear hK K hS hSA
      have hS := hS2
      clear hS2
      (try simp only [Act.put]); (try simp only [List.setIfInBounds_toArray, List.set_cons_zero, List.set_cons_succ])
      unfold zv at HGX HBX HXS hS
      generalize w4.alloc (.cells #[.int .i64 0, .bool false, .bool false, .int .u64 0, .int .u64 0, .string ⟨#[]⟩, .slice none 0 0, .int .i64 0, .int .u64 0, .int .u64 0, .string ⟨#[]⟩, .slice none 0 0, .slice none 0 0] 29) = wa at *
      have HGX : Hid (wa.heap[w4.heap.size]? = some (.cells zv 29 (0, 0))) := HGX
      refine heldStep 2 rfl (by kernel_rfl) (fun K hK => ?_)
      go_simp
      refine (copyNts_any t wa cs (HTN.out.move (keep_below hS.b)) (by have := HM.out; omega)).mono ?_
      rintro e we ⟨c, rfl, hnt, hbe⟩
      have HNT := hide hnt
      have HLH : Hid (wa.heap.size ≤ we.heap.size) := hbe.size
      have HWL : Hid (w.heap.size < wa.heap.size) := blk_lt hS.p
      have hSe : Trt w we cs N := hS.next hbe
      have HGX : Hid (we.heap[w4.heap.size]? = some (.cells zv 29 (0, 0))) := (hbe.block _ (blk_lt HGX.out)).trans HGX.out
      refine (Hid.out hK) _ _ hSe (fun hS2 => ?_)
      clear hK K hnt hbe hS hSe
      have hS := hS2
      clear hS2
      (try simp only [Act.put]); (try simp only [List.setIfInBounds_toArray, List.set_cons_zero, List.set_cons_succ])
      refine heldStep 5 rfl (by kernel_rfl) (fun K hK => ?_)
      go_simp
      refine (within7_any N _).mono ?_
      rintro e wd ⟨k, hk, rfl, hwd⟩
      have hwd2 := hwd.symm
      subst hwd2
      refine (Hid.out hK) _ _ hS (fun hS2 => ?_)
      clear hK K hS2
      (try simp only [Act.put]); (try simp only [List.setIfInBounds_toArray, List.set_cons_zero, List.set_cons_succ])
      refine heldStep 6 rfl (by kernel_rfl) (fun K hK => ?_)
      go_simp
      refine (oth6_any w HT.out t we wa.heap.size we.heap.size k c HNT.out (Nat.le_refl _) (by have := HWL.out; omega) HLH.out hS.b HCZ.out (by have := HM.out; omega) hk).mono ?_
      rintro e wo ⟨c2, ok, rfl, hox, hkx, hux⟩
      have hSe : Trt w wo cs N := hS.kp hkx (fun q e => by have := HWL.out; omega)
      have HS1 := hide hox.1
      have HA1 : Hid (c2.all (·.oneCell') = true) := by
        show _ = _
        rw [Array.all_eq_true']
        intro x hx
        exact hox.2 x (by simpa using hx)
      have HIN : Hid ((Tryd.prog.info? 29).map (·.size) = some c2.size) := by show _ = _; rw [HS1.out]; exact infoV
      have HZV : Hid (zv.size = c2.size) := by show _ = _; rw [HS1.out]; rfl
      have HG0 : Hid (wo.heap[w4.heap.size]? = some (.cells zv 29 (0, 0))) := (hkx.block _ (blk_lt HGX.out) (fun e => by have := HLH.out; have := HXS.out; omega)).trans HGX.out
      have hrk := row_kp wo (w4.heap.size) c2
      have HQZ : Hid (Trt w (wo.setRow (w4.heap.size) c2) cs N) := hSe.kp hrk (fun q e => by have := HWG.out; omega)
      have HVZ : Hid (Uvr (wo.setRow (w4.heap.size) c2) (w4.heap.size) c2 ok t) := ⟨row_same HG0.out, hox, fun e => by
        obtain ⟨t2, h1, h2⟩ := hux e
        exact ⟨t2, (h1.kp (hrk.mono (fun q _ e => by have := HLH.out; have := HXS.out; omega))).tin, h2⟩⟩
      refine (Hid.out hK) _ _ hSe (fun hS2 => ?_)
      clear hK K hox hkx hux hS hSe hrk
      have hS := hS2
      clear hS2
      (try simp only [Act.put]); (try simp only [List.setIfInBounds_toArray, List.set_cons_zero, List.set_cons_succ])
      refine heldTake 7 _ rfl (by kernel_rfl) (by kernel_rfl) (by kernel_rfl) (fun _ _ _ h => h) rfl hS (fun wy hy => by first | (go_simp; done) | (go_simp; rfl) | rfl) ?_
      (try simp only [Act.put]); (try simp only [List.setIfInBounds_toArray, List.set_cons_zero, List.set_cons_succ])
      refine heldTake 8 _ rfl (by kernel_rfl) (by kernel_rfl) (by kernel_rfl) (fun _ _ _ h => h) rfl hS (fun wy hy => by first | (go_simp; done) | (go_simp; rfl) | rfl) ?_
      (try simp only [Act.put]); (try simp only [List.setIfInBounds_toArray, List.set_cons_zero, List.set_cons_succ])
      refine heldTake 9 _ rfl (by kernel_rfl) (by kernel_rfl) (by kernel_rfl) (fun _ _ _ h => h) rfl hS (fun wy hy => by first | (go_simp; done) | (go_simp; rfl) | rfl) ?_
      (try simp only [Act.put]); (try simp only [List.setIfInBounds_toArray, List.set_cons_zero, List.set_cons_succ])
      refine heldStep 11 rfl (by kernel_rfl) (fun K hK => ?_)
      refine step_storeRow rfl rfl (w4.heap.size) zv c2 29 rfl rfl HG0.out HIN.out HZV.out HA1.out ?_
      refine (Hid.out hK) _ _ HQZ.out (fun hS4 => ?_)
      clear hK K hS
      (try simp only [Act.put]); (try simp only [List.setIfInBounds_toArray, List.set_cons_zero, List.set_cons_succ])
      refine heldTake 12 _ rfl (by kernel_rfl) (by kernel_rfl) (by kernel_rfl) (fun _ _ _ h => h) rfl hS4 (fun wy hy => by first | (go_simp; done) | (go_simp; rfl) | rfl) ?_
      (try simp only [Act.put]); (try simp only [List.setIfInBounds_toArray, List.set_cons_zero, List.set_cons_succ])
      refine heldDone (by kernel_rfl) ?_
      clear hS4
      go_wp2_with fail
      go_meet
      case rel => exact ⟨_, c2, ok, rfl, rfl, HQZ, HVZ⟩
  case rest =>
    obtain ⟨gx, c, ok, rfl, rfl, HQ5, HX5⟩ := hcut
    obtain ⟨w5, hw5⟩ : ∃ x, x = wc := ⟨_, rfl⟩
    subst hw5
    clear HQ3
    cases hok : ok with
    | false => as_aux_lemma =>
      go_wp2_with fail
      refine (wakes_any w5 (HT.out.next HQ5.out.b)).mono ?_
      rintro e w6 ⟨rfl, hb6⟩
      have HQ6 := hide (HQ5.out.next hb6)
      clear hb6
      go_wp2_with fail
      go_ret
      exact ⟨rfl, HQ6.out.b⟩
    | true => as_aux_lemma =>
      obtain ⟨t2, ht2, ho2⟩ := HX5.out.t hok
      have HO2 := hide ho2
      have HX : Hid (Tvr w5 gx c t2) := ⟨HX5.out.x, ht2⟩
      have HM2 : Hid (tmuch t2 ≤ 100000) := by have := ho2.m; have := HM.out; show _ ≤ _; omega
      have HK2 := hide (chk_trk ho2.c)
      have HE1 : Hid (eqf t t2 = false) := by
        show _ = _
        rw [← Bool.not_eq_true]
        exact fun h => HO2.out.n ((eqf_teq t t2 HTK.out HK2.out).1 h)
      have HE2 : Hid (eqf t2 t = false) := by
        show _ = _
        rw [← Bool.not_eq_true]
        exact fun h => HO2.out.n ((eqf_teq t2 t HK2.out HTK.out).1 h).symm
      have HZX := hide ht2.size13
      clear ht2 ho2 hok HX5
      have HVa := hide HQ5.out.va
      have HVb : Hid (∀ j u, c[j]? = some u → w5.cell? ⟨gx, 0 + j, none⟩ = some u) := fun j u hu => by rw [Nat.zero_add]; exact blk_cell HX.out.x hu
      go_wp2_with (first
        | (refine wpList_valAt rfl rfl w.heap.size 0 cs rfl HSZ.out HVa.out ?_)
        | (refine wpList_valAt rfl rfl gx 0 c rfl HZX.out HVb.out ?_))
      refine (check6_any t2 w5 c HX.out.t HM2.out (HT.out.next HQ5.out.b)).mono ?_
      rintro e w6 ⟨rfl, hbb⟩
      have HQ6 := hide (HQ5.out.next hbb)
      have HX6 := hide (HX.out.next hbb)
      rw [HO2.out.c]
      clear hbb HQ5 HX HVa HVb
      have HVa := hide HQ6.out.va
      have HVb : Hid (∀ j u, c[j]? = some u → w6.cell? ⟨gx, 0 + j, none⟩ = some u) := fun j u hu => by rw [Nat.zero_add]; exact blk_cell HX6.out.x hu
      go_wp2_with fail
      refine (num6_any _ w6).mono ?_
      rintro e w7 ⟨rfl, hw7⟩
      have hw7 := hw7.symm
      subst hw7
      go_wp2_with (first
        | (refine wpList_valAt rfl rfl w.heap.size 0 cs rfl HSZ.out HVa.out ?_)
        | (refine wpList_valAt rfl rfl gx 0 c rfl HZX.out HVb.out ?_))
      refine (equal6_any t t2 w6 cs c (HTN.out.move (keep_below HQ6.out.b)) HX6.out.t (by have := HM.out; omega) HM2.out).mono ?_
      rintro e w8 ⟨rfl, hbb⟩
      have HQ8 := hide (HQ6.out.next hbb)
      have HX8 := hide (HX6.out.next hbb)
      rw [HE1.out]
      clear hbb HQ6 HX6 HVa HVb
      have HVa := hide HQ8.out.va
      have HVb : Hid (∀ j u, c[j]? = some u → w8.cell? ⟨gx, 0 + j, none⟩ = some u) := fun j u hu => by rw [Nat.zero_add]; exact blk_cell HX8.out.x hu
      go_wp2_with (first
        | (refine wpList_valAt rfl rfl w.heap.size 0 cs rfl HSZ.out HVa.out ?_)
        | (refine wpList_valAt rfl rfl gx 0 c rfl HZX.out HVb.out ?_))
      refine (equal6_any t2 t w8 c cs HX8.out.t (HTN.out.move (keep_below HQ8.out.b)) HM2.out (by have := HM.out; omega)).mono ?_
      rintro e w9 ⟨rfl, hbb⟩
      have HQ9 := hide (HQ8.out.next hbb)
      rw [HE2.out]
      clear hbb HQ8 HX8 HVa HVb
      go_wp2_with fail
      refine (wakes_any w9 (HT.out.next HQ9.out.b)).mono ?_
      rintro e w10 ⟨rfl, hb10⟩
      have HQ10 := hide (HQ9.out.next hb10)
      clear hb10
      go_wp2_with fail
      go_ret
      exact ⟨rfl, HQ10.out.b⟩
end
section
open Go.ChangeShapes Go.WideShapes Go.ChangeAt Go.RowKit Go.Deep Go.Joins Go
theorem Tryd.cellsTurn : Tryd.prog.cellsOf 31 = 14 := by kernel_rfl
set_option maxRecDepth 100000 in
theorem turn_open {H : Type} {enc : TypeId × Value → H} {w : World} {base b0 : Nat} {r : Reach} {held : Bool} {v : Value} {d : DataW H} {p : List MemPlace} (hv : Value.okWide Tryd.prog w r b0 31 v) (h : DataW.Trod enc Tryd.prog w base (fun _ => true) held 31 v d p) (hW : (d.weights Tryd.prog 31).all (· ≤ reachBytes) = true) : ∃ (cs : Array Value) (N : Int) (t : Tv), v = .agg (cs.push (.int .i64 N)) ∧ Tin w t cs := by
  obtain ⟨cp, rfl, hsz⟩ := okWide_struct Tryd.underlying31 hv
  rw [Tryd.cellsTurn] at hsz
  obtain ⟨l⟩ := cp
  simp at hsz
  match l, hsz with
  | [c0, c1, c2, c3, c4, c5, c6, c7, c8, c9, c10, c11, c12, c13], _ =>
    obtain ⟨fuel, hf⟩ := h
    obtain ⟨y0, y1, n, hx, _, e0, e1⟩ := trod_struct2 Tryd.underlying31 hf
    have g0 : DataW.trod enc Tryd.prog w base (fun _ => true) held n 29 [c0, c1, c2, c3, c4, c5, c6, c7, c8, c9, c10, c11, c12] = some y0 := by simpa [Value.cells, Tryd.cellsValue] using e0
    have g1 : DataW.trod enc Tryd.prog w base (fun _ => true) held n 3 [c13] = some y1 := by simpa [Value.cells, Tryd.cellsValue, Tryd.cells_int] using e1
    obtain ⟨n0, f0, _, _⟩ := DataW.trod_int (fuel := n) (cs := [c13]) Tryd.underlying3 g1
    have hd : d = .agg [y0.1, y1.1] := by simp only [Prod.mk.injEq] at hx; exact hx.1
    have hWE : (DataW.weightsEach Tryd.prog [29, 3] [y0.1, y1.1]).all (· ≤ reachBytes) = true := by
      rw [hd] at hW
      simp only [DataW.weights, Tryd.underlying31] at hW
      exact hW
    obtain ⟨t, ht⟩ := value_open n _ y0 g0 (weight_each hWE (j := 0) rfl rfl)
    simp at f0
    subst f0
    exact ⟨#[c0, c1, c2, c3, c4, c5, c6, c7, c8, c9, c10, c11, c12], _, t, rfl, ht⟩
end
section
open Go.ChangeShapes Go.WideShapes Go.ChangeAt Go.RowKit Go.Deep Go.Joins
set_option maxRecDepth 100000 in
theorem vunlike_lifted (os : Os) (started : os.Started) (H : Type) (enc : TypeId × Value → H) :
    ReturnsInHanded {} Tryd.checked os 4 .any (fun w args => (Rows.valueUnlikeSpec.pre enc Tryd.prog Tryd.f4 Rows.valueUnlikeRow.domain false w args ∧ laidMet Tryd.prog Rows.valueUnlikeRow.laid w) ∧ sizedMet enc Tryd.prog Tryd.f4 (OpenSpec.ofChange Rows.valueUnlikeSpec) false w args)
      (Rows.valueUnlikeSpec.post enc Tryd.prog Tryd.f4 false true false false) := by
  refine returnsInHanded_of_change_and (C := Tryd.checked) (X := fun w _ => laidMet Tryd.prog Rows.valueUnlikeRow.laid w) (fun _ _ _ hh h => h.of_heap hh) Tryd.own started (by kernel_rfl) Tryd.func4
    (ChangeSpec.witness_at (enc := enc) (C := Tryd.checked) (os := os) (X := fun w _ => laidMet Tryd.prog Rows.valueUnlikeRow.laid w) false (laidWorld6 os) #[.agg #[.int .i64 0, .bool false, .bool false, .int .u64 0, .int .u64 0, .string ⟨#[]⟩, .slice none 0 0, .int .i64 0, .int .u64 0, .int .u64 0, .string ⟨#[]⟩, .slice none 0 0, .slice none 0 0, .int .i64 0]] 8 rfl (by kernel_rfl) (by kernel_rfl) (by kernel_rfl) (by kernel_rfl) (by kernel_rfl) (laid_met6 os _)) ?_
  intro W base args ds gs before hval0 hW _ hsz0 hLd _
  have hval : ∀ (j : Nat) t v, Tryd.f4.params[j]? = some t → args[j]? = some v → Value.okWide Tryd.prog W .any base t v := hval0
  have hsz : (DataW.weightsEach Tryd.prog (Tryd.f4.params.toList ++ Rows.valueUnlikeSpec.plain.varTypes Tryd.prog) (ds ++ gs)).all (· ≤ reachBytes) = true := hsz0
  have hW' := hW
  have hcb : Tabs W := tabs_of_laid hLd
  obtain ⟨p, q, hA0, hV, rfl, hfz, hnd⟩ := hW
  have hA : DataW.TrodAll enc Tryd.prog W 0 (fun _ => true) true Tryd.f4.params.toList args.toList ds p := hA0
  rw [Tryd.params4] at hA hval hsz
  obtain ⟨v0, d0, rfl, rfl, h0⟩ := trodAll_one hA
  obtain ⟨rfl, rfl⟩ := trodVars_none hV
  have k0 := h0
  have lt0 : ∀ x ∈ p, x.block < W.heap.size := by obtain ⟨m, hm⟩ := k0; exact DataW.trod_lt m _ _ _ hm
  have hwalk : Calls Tryd.prog 4 #[v0] W fun e w' => e = .returned (.bool true) ∧ Below W.heap.size W w' := by
    have hs1 : (d0.weights Tryd.prog 31).all (· ≤ reachBytes) = true := by
      have e : DataW.weightsEach Tryd.prog ([31] ++ Rows.valueUnlikeSpec.plain.varTypes Tryd.prog) ([d0] ++ []) = d0.weights Tryd.prog 31 ++ DataW.weightsEach Tryd.prog (Rows.valueUnlikeSpec.plain.varTypes Tryd.prog) [] := rfl
      rw [e, List.all_append, Bool.and_eq_true] at hsz
      exact hsz.1
    obtain ⟨cs, N, t, rfl, ht⟩ := turn_open (hval 0 31 v0 rfl rfl) h0 hs1
    exact vunlike_any W cs N t ht hcb
  clear hA0 hval0
  refine hwalk.mono fun e W' ⟨he, bel⟩ => ?_
  subst he
  exact ⟨_, rfl, _, _, _, [], _, [], hW', trodAll_mk1 (shut_bool Tryd.underlying4 _), trodAll_mk1 (Below.trod Tryd.laidOut (by kernel_rfl) (of_decide_eq_true (by kernel_rfl)) k0 bel lt0), rfl, bel.frame _, fun h => by cases h⟩

theorem vunlike_row : Rows.ValueUnlikeSaid :=
  OpenClaim.holds_of_wide 4 Tryd.f4 rfl rfl rfl rfl rfl rfl rfl ⟨rfl, rfl, rfl, rfl, rfl⟩ rfl rfl rfl rfl rfl (by kernel_rfl) Tryd.func4 (by kernel_rfl)
    (of_decide_eq_true (by kernel_rfl)) (by unfold Func.isWrapper; first | (rw [if_pos (by decide +kernel)]; kernel_rfl) | (rw [if_neg (by decide +kernel)]; exact ⟨rfl, rfl⟩))
    (fun os started H enc _ => vunlike_lifted os started H enc)

theorem vunlike_holds : Rows.ValueUnlikeCardSaid :=
  Claim7.holds_tied_plain_at .later [] [.data, .pinned] true (true, "c3b5d75da8264cfe2a43bd4922afda82fb4d9f1c27894df3f60246eb69fb2251") false
    vunlike_row (fun _ h => by cases h) (by kernel_rfl) (fun _ h => by cases h) valueUnlike_row_tie rfl ⟨rfl, rfl⟩ (by kernel_rfl) rfl
    (fun f fn hf hfn => by
      obtain rfl : f = 4 := Option.some.inj ((show Tryd.prog.funcNamed "trellis/trellislaw6.ValueUnlike" = some 4 by kernel_rfl).symm.trans hf) |>.symm
      obtain rfl : fn = Tryd.f4 := (Option.some.inj (Tryd.func4.symm.trans hfn)).symm
      exact ⟨by kernel_rfl, fun j t ht => by
        rw [Tryd.params4] at ht
        have h3 : t = 31 := by
          rcases j with _ | j
          · simpa using ht.symm
          · simp at ht
        subst h3
        exact (show Tryd.prog.wantsStandIn 31 = false by kernel_rfl)⟩)
    (by kernel_rfl)
#print axioms vunlike_holds
end
end Go.Proofs.YtibcepokeaaoiabDoor

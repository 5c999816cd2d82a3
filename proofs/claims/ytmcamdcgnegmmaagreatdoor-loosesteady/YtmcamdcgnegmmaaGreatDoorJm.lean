import Derived.Test.YtmcamdcgnegmmaaGreatDoorJk
import Derived.Test.YtmcamdcgnegmmaaGreatDoorJl
import Derived.Test.YtmcamdcgnegmmaaGreatDoorJj
import Derived.Test.YtmcamdcgnegmmaaGreatDoorJa
import Derived.Test.YtmcamdcgnegmmaaGreatDoorJb
import Derived.Test.YtmcamdcgnegmmaaGreatDoorJg
set_option maxRecDepth 1000000
set_option maxHeartbeats 16000000
namespace Go.Proofs.YtmcamdcgnegmmaaGreatDoor
section
open Go.RowKit Go
theorem Itg.notes {w wx w2 : World} {N0 g : Nat} {v : Value} {b : List Nat} {dp p op : Nat} {vn vx v' : Value} {ns ms : List (Nat × Nat)} (h : Itg w wx N0 g v b dp p op vn vx ns) (h6 : w2.ownsRow N0 55 2 v' ms.length (gfl (ms.map ntc))) (h7 : Kp (fun q => vx.ownBlock = some q) wx w2) (h8 : v'.ownBlock = vx.ownBlock ∨ ∀ q, v'.ownBlock = some q → wx.heap.size ≤ q) : Itg w (w2.setCell ⟨g, 4, none⟩ v') N0 g v b dp p op vn v' ms := by
  have hgL := blk_lt h.i.r.blk
  have hgb := (h7.block g hgL (fun e => h.i.ne g e rfl)).trans h.i.r.blk
  refine h.trans ⟨?_, ?_, h8⟩
  · have hks : Kp (fun q => q = g) w2 (w2.setCell ⟨g, 4, none⟩ v') := (Kp.refl (fun q => q = g) w2).setCell _ _ (fun _ => rfl)
    have hgN := h.i.g
    have hall : Kp (fun q => N0 ≤ q) wx (w2.setCell ⟨g, 4, none⟩ v') := (h7.mono (fun q _ e => (h.i.o.lt q e).1)).trans hks (fun q _ e => by omega)
    have hblk : (w2.setCell ⟨g, 4, none⟩ v').heap[g]? = some (.cells (rcl (itc v dp v') p op) 60 (0, 0)) := by
      rw [← itc_notes v dp vx v' p op]
      exact blk_set 4 _ hgb
    have hne2 : ∀ q, v'.ownBlock = some q → ¬ q = g := fun q e eq => by
      rcases h8 with h1 | h1
      · exact h.i.ne q (h1 ▸ e) eq
      · have := h1 q e
        omega
    exact ⟨⟨hblk, h.i.r.z, rfl, rfl, fun wy hy => h.i.bs wy (hall.trans hy (fun q _ e => by omega)), h.i.r.hb, h.i.r.hp, h.i.r.ho⟩, hks.owns h6 hne2, hgN, fun wy hy => h.i.bs wy (hall.trans hy (fun _ _ e => e))⟩
  · exact (h7.mono (fun _ _ e => .inr e)).trans ((Kp.refl (fun q => q = g) w2).setCell _ _ (fun _ => rfl)) (fun _ _ e => .inl e)
theorem prtgJ_len {b : List Nat} {dp mj op : Nat} (hm : mj = 2 ∨ mj = 3) : ∀ (j p : Nat) (s : List Nat × Int) (ns : List (Nat × Nat)) (x : (List Nat × Int) × List (Nat × Nat) × Nat), p ≤ b.length → lprtg stJ b dp mj op j p s ns = .ok x → x.1.1.length ≤ s.1.length + (x.2.2 - p) ∧ p ≤ x.2.2 ∧ x.2.2 ≤ b.length ∧ ns.length ≤ x.2.1.length ∧ x.2.1.length ≤ ns.length + 2 * (x.2.2 - p)
  | 0, _, _, _, _, _, h => by cases h
  | j + 1, p, s, ns, x, hp, h => by
    unfold lprtg at h
    by_cases h1 : b[p]? = some 255
    · rw [if_pos h1] at h
      injection h with h
      subst h
      have := (List.getElem?_eq_some_iff.1 h1).1
      exact ⟨by show s.1.length ≤ _; omega, by show p ≤ p + 1; omega, by show p + 1 ≤ _; omega, Nat.le_refl _, by show ns.length ≤ _; omega⟩
    · rw [if_neg h1] at h
      cases hl : lpiec b dp mj p op with
      | error e => rw [hl] at h; cases h
      | ok y =>
        rw [hl] at h
        have h2 := (piec_hd hl).1
        have h3 : y.2 + y.1.n ≤ b.length := ((piec_ris b dp mj p op hm).ok y hl).2
        obtain ⟨h4, h5, h6, h7, h8⟩ := prtgJ_len hm j (y.2 + y.1.n) _ _ x h3 h
        have h9 := not_len y.2 y.1 ns
        have h10 : ns.length ≤ (lnot y.2 y.1 ns).length := by unfold lnot; rw [List.length_append]; omega
        have h11 : (stJ s p ((b.drop y.2).take y.1.n)).1.length ≤ s.1.length + y.1.n := by
          show (s.1 ++ (b.drop y.2).take y.1.n).length ≤ _
          rw [List.length_append, List.length_take]
          omega
        exact ⟨by omega, by omega, h6, by omega, by omega⟩
theorem joined_len {b : List Nat} {dp J op p : Nat} {h : HR} {ns : List (Nat × Nat)} {x : (List Nat × Int) × List (Nat × Nat) × Nat} (hm : h.m = 2 ∨ h.m = 3) (hd : Hdo b dp op (h, p)) (hp : p ≤ b.length) (hx : lallg stJ b dp J op p h ([], -1) ns = .ok x) : x.1.1.length ≤ b.length ∧ p ≤ x.2.2 ∧ x.2.2 ≤ b.length ∧ ns.length ≤ x.2.1.length ∧ x.2.1.length ≤ ns.length + 2 * (x.2.2 - p) := by
  unfold lallg at hx
  by_cases h1 : h.i = 31
  · rw [if_pos h1] at hx
    obtain ⟨h4, h5, h6, h7, h8⟩ := prtgJ_len hm J p _ _ x hp hx
    have h9 : x.1.1.length ≤ 0 + (x.2.2 - p) := h4
    exact ⟨by omega, h5, h6, h7, h8⟩
  · rw [if_neg h1] at hx
    injection hx with hx
    subst hx
    have ht : p + h.n ≤ b.length := hd.t (by unfold ltel; rcases hm with e | e <;> simp [e, h1])
    refine ⟨?_, by show p ≤ p + h.n; omega, ht, Nat.le_refl _, by show ns.length ≤ _; omega⟩
    show ([] ++ (b.drop p).take h.n).length ≤ _
    rw [List.nil_append, List.length_take]
    omega

def KeyP (w : World) (N0 g : Nat) (v : Value) (b : List Nat) (dp op : Nat) (vn : Value) (r : Lx (ByteArray × List (Nat × Nat) × Nat)) (e : Ending) (w' : World) : Prop := (∃ x vx, r = .ok x ∧ e = .returned (.string x.1) ∧ Itg w w' N0 g v b dp x.2.2 op vn vx x.2.1) ∨ ∃ c q, r = .error (c, q) ∧ e = gup c q ∧ Kp (fun q => q = g ∨ vn.ownBlock = some q) w w'
theorem key9_any {w : World} {N0 g : Nat} {v : Value} {b : List Nat} {dp p op : Nat} {vn : Value} {ns : List (Nat × Nat)} (hI : Itp w N0 g v b dp p op vn ns) (hT : Vtb N0 w) (hq : ∀ x ∈ b, x < 256) (hbl : b.length ≤ 1000000) (J : Nat) (hJ : b.length + 1 ≤ J) (hn : ns.length + 3 * (b.length - p) ≤ 999990)
    {lo B nB : Nat} {vk : Value} {ks L : List ByteArray} (hk : w.ownsRow lo 9 1 vk ks.length (ks.map fun s => .string s)) (hkm : ks.length ≤ 1000000) (hM : Mtx w B nB L) (hL : ∀ s, memb L s = memb ks s) : Calls Tryz.prog 45 #[.pointer (some ⟨g, 0, none⟩), vk, .map (some B)] w (KeyP w N0 g v b dp op vn (lkey b dp J op p ks ns)) := by
  obtain ⟨LS, hLS⟩ : ∃ LS, LS = lkey b dp J op p ks ns := ⟨_, rfl⟩
  rw [← hLS]
  unfold lkey at hLS
  have HLS := hide hLS
  have c1 : w.cell? ⟨g, 1, none⟩ = some (.int .i64 (p : Nat)) := blk_cell hI.r.blk (rcl_1 hI.r.z)
  have HI := hide hI
  have HTT := hide hT
  have HNN := hide hn
  have HJJ := hide hJ
  have HQ := hide hq
  have HBL := hide hbl
  have HN0 : Hid (N0 ≤ w.heap.size) := by have h1 := hI.g; have h2 := blk_lt hI.r.blk; show _ ≤ _; omega
  have HGL : Hid (g < w.heap.size) := blk_lt hI.r.blk
  obtain ⟨a0, cap0, hvk, -⟩ := own_formG hk
  subst hvk
  have HK := hide hk
  have HKM := hide hkm
  have HM := hide hM
  have HL := hide hL
  obtain ⟨PC, hpc⟩ : ∃ PC, PC = litem b dp p op := ⟨_, rfl⟩
  have HHD : Hid (∀ x, PC = .ok x → p < x.2 ∧ x.2 ≤ b.length ∧ p < b.length ∧ Hdo b dp op x ∧ x.1.u ≤ x.2) := fun x hx => by rw [hpc] at hx; have h1 := item_at hx; exact ⟨h1.1, h1.2.1, h1.2.2.1, h1.2.2.2.2, (item_ok hx).1⟩
  rw [← hpc] at HLS
  have HPC := hide hpc.symm
  clear hpc hI hT hq hbl hJ hn hLS hk hkm hM hL
  cases PC with
  | error x =>
    as_aux_lemma =>
    obtain ⟨c, q⟩ := x
    have HL3 : Hid (LS = .error (c, q)) := HLS.out
    have HCI := hide (item9_no HI.out.r HPC.out)
    clear HLS HHD HK HM HL HTT
    go_enter Tryz.func45, Tryz.ntmps45
    go_wp2_with fail
    refine HCI.out.mono ?_
    rintro e w3 ⟨rfl, hk3⟩
    have HKE : Hid (Kp (fun q => q = g ∨ vn.ownBlock = some q) w w3) := hk3.mono (fun _ _ e => .inl e)
    clear hk3 HCI
    go_wp2_with fail
    exact ⟨rfl, .inr ⟨c, q, HL3.out, rfl, HKE.out⟩⟩
  | ok x =>
    obtain ⟨⟨ym, yi, yn, yu, ys, ye⟩, yp⟩ := x
    have HHY := hide (HHD.out _ rfl)
    have HL3 : Hid (LS = if ym ≠ 3 then .error (95, p) else lbind (lallg stJ b dp J op yp ⟨ym, yi, yn, yu, ys, ye⟩ ([], -1) (lnot yp ⟨ym, yi, yn, yu, ys, ye⟩ ns)) fun x => if memb ks (nstr x.1.1) = true then .error (95, p) else if x.1.2 ≠ -1 then .error (95, x.1.2.toNat) else .ok (nstr x.1.1, (if lfal ks (nstr x.1.1) = true then lput x.2.1 (lnot yp ⟨ym, yi, yn, yu, ys, ye⟩ ns).length (p, 4) else x.2.1), x.2.2)) := HLS.out
    have HCI := hide (item9_ok HI.out.r HPC.out)
    clear HLS HHD
    go_enter Tryz.func45, Tryz.ntmps45
    go_wp2_with fail
    refine HCI.out.mono ?_
    rintro e w3 ⟨rfl, hr3, hk3⟩
    have h33 := HI.out.rdr hr3 hk3
    have HI3 := hide h33
    have HK3 := hide (h33.k.owns HK.out (fun q e e2 => by
      rcases e2 with e2 | e2
      · exact own_not HK.out HI.out.r.blk (by decide) (e2 ▸ e)
      · exact own_apart HK.out HI.out.o (by decide) e e2))
    have HM3 := hide (HM.out.block (h33.k.block _ HM.out.lt (fun e2 => by
      rcases e2 with e2 | e2
      · exact HM.out.nocells HI.out.r.blk e2.symm
      · obtain ⟨c9, hc9⟩ := own_block_type HI.out.o e2
        exact HM.out.nocells hc9 rfl)))
    have HT3 := hide (HTT.out.itg HI.out h33)
    have HYV : Hid (HR.val ⟨ym, yi, yn, yu, ys, ye⟩ = .agg #[.int .i64 (ym : Nat), .int .i64 (yi : Nat), .int .u64 (yn : Nat), .int .i64 (yu : Nat), .bool ys]) := rfl
    have HNO := hide (noted9_any HI3.out.i (by have h1 := HNN.out; omega) ⟨ym, yi, yn, yu, ys, ye⟩ HHY.out.2.2.2.2)
    rw [HYV.out] at HNO
    clear hr3 hk3 h33 HCI HK HM c1
    simp only [HYV.out]
    go_wp2_with fail
    refine HNO.out.mono ?_
    rintro e w4 ⟨rfl, hP⟩
    obtain ⟨vx4, h44⟩ := hP.out
    have hI4 := HI3.out.trans h44
    have hK4 := h44.k.owns HK3.out (fun q e e2 => by
      rcases e2 with e2 | e2
      · exact own_not HK3.out HI3.out.i.r.blk (by decide) (e2 ▸ e)
      · exact own_apart HK3.out HI3.out.i.o (by decide) e e2)
    have hM4 := HM3.out.block (h44.k.block _ HM3.out.lt (fun e2 => by
      rcases e2 with e2 | e2
      · exact HM3.out.nocells HI3.out.i.r.blk e2.symm
      · obtain ⟨c9, hc9⟩ := own_block_type HI3.out.i.o e2
        exact HM3.out.nocells hc9 rfl))
    have hT4 := HT3.out.itg HI3.out.i h44
    have hba := below_alloc4 w4 (.cells #[.int .i64 0, .int .i64 0, .int .u64 0, .int .i64 0, .bool false] 66)
    have hIa := hI4.trans (hI4.i.next hba)
    have HAL := hide (heap_alloc_new w4 (.cells #[.int .i64 0, .int .i64 0, .int .u64 0, .int .i64 0, .bool false] 66))
    have HI5s : Hid ((Tryz.prog.info? 66).map (·.size) = some (#[.int .i64 (ym : Nat), .int .i64 (yi : Nat), .int .u64 (yn : Nat), .int .i64 (yu : Nat), .bool ys] : Array Value).size) := infoHd
    have HA5 : Hid ((#[.int .i64 (ym : Nat), .int .i64 (yi : Nat), .int .u64 (yn : Nat), .int .i64 (yu : Nat), .bool ys] : Array Value).all (·.oneCell') = true) := by show _ = _; simp [Value.oneCell']
    have hws : w.heap.size ≤ w4.heap.size := hI4.k.size
    have HI5 := hide (hIa.setB (c' := #[.int .i64 (ym : Nat), .int .i64 (yi : Nat), .int .u64 (yn : Nat), .int .i64 (yu : Nat), .bool ys]) HAL.out (by decide) hws HN0.out)
    have HY5 := hide (row_same (cs := #[.int .i64 (ym : Nat), .int .i64 (yi : Nat), .int .u64 (yn : Nat), .int .i64 (yu : Nat), .bool ys]) HAL.out)
    have hkp5 : Kp (fun q => q = w4.heap.size) w4 ((w4.alloc (.cells #[.int .i64 0, .int .i64 0, .int .u64 0, .int .i64 0, .bool false] 66)).setRow w4.heap.size #[.int .i64 (ym : Nat), .int .i64 (yi : Nat), .int .u64 (yn : Nat), .int .i64 (yu : Nat), .bool ys]) := ((Kp.of_below (S := fun _ => False) hba).mono (fun _ _ e => e.elim)).trans (row_kp _ _ _) (fun _ _ e => e)
    have HK5 := hide (hkp5.owns hK4 (fun q e e2 => by have := (hK4.lt q e).2; omega))
    have HM5 := hide (hM4.kp hkp5 (fun e => by have := hM4.lt; omega))
    have HT5 := hide (hT4.kp hkp5 (fun q e => by have h1 := HN0.out; omega))
    have HWS : Hid (w.heap.size ≤ w4.heap.size) := hws
    clear hP h44 hI4 hK4 hM4 hT4 hba hIa hws hkp5 HI3 HK3 HM3 HT3 HNO
    go_upto_region 3 with (refine wpList_storeRow rfl rfl w4.heap.size #[.int .i64 0, .int .i64 0, .int .u64 0, .int .i64 0, .bool false] #[.int .i64 (ym : Nat), .int .i64 (yi : Nat), .int .u64 (yn : Nat), .int .i64 (yu : Nat), .bool ys] 66 rfl rfl HAL.out HI5s.out rfl HA5.out ?_)
    clear HAL HI5s HA5
    generalize (w4.alloc (.cells #[.int .i64 0, .int .i64 0, .int .u64 0, .int .i64 0, .bool false] 66)).setRow w4.heap.size #[.int .i64 (ym : Nat), .int .i64 (yi : Nat), .int .u64 (yn : Nat), .int .i64 (yu : Nat), .bool ys] = w5 at *
    have c0 : w5.cell? ⟨w4.heap.size, 0, none⟩ = some (.int .i64 (ym : Nat)) := blk_cell (j := 0) HY5.out rfl
    by_cases hy3 : ym = 3
    · have g2 : ((ym : Int) != 3) = false := by rw [bne_eq_false_iff_eq]; omega
      have HL6 := hide (HL3.out.trans (if_neg (fun h => h hy3)))
      have hlb := not_len yp ⟨ym, yi, yn, yu, ys, ye⟩ ns
      have HM3 : Hid ((⟨ym, yi, yn, yu, ys, ye⟩ : HR).m = 3) := hy3
      have HCJ := hide (joined9_any valid9_any HI5.out.i HT5.out HQ.out ⟨ym, yi, yn, yu, ys, ye⟩ J HJJ.out (.inr hy3) HHY.out.2.2.2.1 HHY.out.2.2.2.2 (by have h1 := HNN.out; have h2 := HHY.out; omega))
      rw [HYV.out] at HCJ
      obtain ⟨NB, hNB⟩ : ∃ NB, NB = (lnot yp ⟨ym, yi, yn, yu, ys, ye⟩ ns).length := ⟨_, rfl⟩
      obtain ⟨MS, hMS⟩ : ∃ MS, MS = lnot yp ⟨ym, yi, yn, yu, ys, ye⟩ ns := ⟨_, rfl⟩
      rw [← hMS] at hNB hlb HCJ HL6 HI5
      have HNB : Hid (NB = MS.length ∧ MS.length ≤ ns.length + 2) := ⟨hNB, hlb⟩
      rw [← hNB] at HL6
      obtain ⟨an, capn, hvn, -⟩ := own_formG HI5.out.i.o
      rw [← hNB] at hvn
      subst hvn
      have c4 : w5.cell? ⟨g, 4, none⟩ = some (.slice an NB capn) := blk_cell (j := 4) HI5.out.i.r.blk rfl
      have HIH := hide infoHd
      have HAG : Hid (∀ w, (isAgg 66).run Tryz.prog w = .ok true w) := aggHd
      have HCA : Hid (∀ j x, (#[.int .i64 (ym : Nat), .int .i64 (yi : Nat), .int .u64 (yn : Nat), .int .i64 (yu : Nat), .bool ys] : Array Value)[j]? = some x → w5.cell? ⟨w4.heap.size, 0 + j, none⟩ = some x) := fun j x hj => by rw [Nat.zero_add]; exact blk_cell HY5.out hj
      clear hy3 HL3 hNB hMS hlb
      go_wp2_with (refine wpList_aggAt rfl rfl HIH.out HAG.out w4.heap.size 0 #[.int .i64 (ym : Nat), .int .i64 (yi : Nat), .int .u64 (yn : Nat), .int .i64 (yu : Nat), .bool ys] rfl rfl HCA.out ?_)
      refine HCJ.out.mono ?_
      rintro e w6 (⟨x, vx6, hx, rfl, h66⟩ | ⟨c, q, hx, he', hk⟩)
      · have HI6 := hide (HI5.out.trans h66)
        have HK6 := hide (h66.k.owns HK5.out (fun q e e2 => by
          rcases e2 with e2 | e2
          · exact own_not HK5.out HI5.out.i.r.blk (by decide) (e2 ▸ e)
          · exact own_apart HK5.out HI5.out.i.o (by decide) e e2))
        have HM6 := hide (HM5.out.block (h66.k.block _ HM5.out.lt (fun e2 => by
          rcases e2 with e2 | e2
          · exact HM5.out.nocells HI5.out.i.r.blk e2.symm
          · obtain ⟨c9, hc9⟩ := own_block_type HI5.out.i.o e2
            exact HM5.out.nocells hc9 rfl)))
        have hxl := joined_len (.inr HM3.out) HHY.out.2.2.2.1 HHY.out.2.1 hx
        have hlen := hxl.1
        have hnat := joined_nat hx
        obtain ⟨⟨xs, z⟩, ms, q⟩ := x
        rw [hx] at HL6
        have HL8 : Hid (LS = if memb ks (nstr xs) = true then .error (95, p) else if z ≠ -1 then .error (95, z.toNat) else .ok (nstr xs, (if lfal ks (nstr xs) = true then lput ms NB (p, 4) else ms), q)) := HL6.out
        have HSZ : Hid ((nstr xs).size ≤ 140737488351232) := by show _ ≤ _; rw [show (nstr xs).size = xs.length from by unfold nstr; rw [strOfNums_size]; simp]; have h1 := HBL.out; have h2 : xs.length ≤ b.length := hlen; omega
        have HLE : Hid (NB ≤ ms.length ∧ ms.length ≤ 999999) := ⟨by have h1 := HNB.out; have h2 : MS.length ≤ ms.length := hxl.2.2.2.1; omega, by have h1 := HNB.out; have h2 : ms.length ≤ MS.length + 2 * (q - yp) := hxl.2.2.2.2; have h5 : q ≤ b.length := hxl.2.2.1; have h3 := HNN.out; have h4 := HHY.out; omega⟩
        have HZN : Hid (z = -1 ∨ ∃ n : Nat, z = n) := hnat
        generalize nstr xs = tx at *
        clear hx h66 hlen hxl hnat HCJ HCA HI5 HK5 HM5 HL6 c0 c4 g2 HIH HAG HYV HY5
        have HGU := hide fun (k : Nat) (wz : World) => giveUp_any wz 95 k
        have HMB : Hid (memb L tx = memb ks tx) := HL.out tx
        have HI7 : Hid (Itg w (w6.alloc (.cells #[] 91)) N0 g v b dp q op vn vx6 ms) := HI6.out.trans (HI6.out.i.next (below_alloc4 w6 _))
        have HK7 := hide ((Kp.of_below (S := fun _ => False) (below_alloc4 w6 (.cells #[] 91))).owns HK6.out (fun _ _ e => e))
        cases hmb : memb ks tx with
        | true =>
          as_aux_lemma =>
          rw [hmb] at HMB
          have HL9 : Hid (LS = .error (95, p)) := by show _ = _; rw [HL8.out, if_pos hmb]
          have HKE := hide HI7.out.k
          clear hmb HL8 HI6 HK6 HK7
          go_upto_region 8 with (refine wpList_lookS (hgd := by rfl) rfl rfl rfl HM6.out HSZ.out ?_; rw [HMB.out])
          generalize w6.alloc (.cells #[] 91) = w7 at *
          go_wp2_with fail
          refine (HGU.out p w7).mono ?_
          rintro e w8 ⟨rfl, rfl⟩
          go_wp2_with fail
          exact ⟨rfl, .inr ⟨95, p, HL9.out, rfl, HKE.out⟩⟩
        | false =>
          rw [hmb] at HMB
          have HL9 : Hid (LS = if z ≠ -1 then .error (95, z.toNat) else .ok (tx, (if lfal ks tx = true then lput ms NB (p, 4) else ms), q)) := by show _ = _; rw [HL8.out, if_neg (by rw [hmb]; decide)]
          clear hmb HL8
          go_upto_region 8 with (refine wpList_lookS (hgd := by rfl) rfl rfl rfl HM6.out HSZ.out ?_; rw [HMB.out])
          generalize w6.alloc (.cells #[] 91) = w7 at *
          clear HI6 HK6 HM6 HMB
          by_cases hz : z = -1
          · subst hz
            have HLA := hide (HL9.out.trans (if_neg (fun h => h rfl)))
            clear HL9
            cases hks : ks with
            | nil =>
              as_aux_lemma =>
              have HLB : Hid (LS = .ok (tx, ms, q)) := by show _ = _; rw [HLA.out, hks]; rfl
              subst hks
              clear HLA
              go_wp2_with fail
              first
                | exact bodyPost_ret (results_tmp (t := 6) rfl _ _ _) rfl (.inl ⟨_, _, HLB.out, rfl, HI7.out⟩)
                | (go_ret; exact .inl ⟨_, _, HLB.out, rfl, HI7.out⟩)
            | cons k0 kr =>
              obtain ⟨m, hm⟩ : ∃ m, ks.length = m + 1 := ⟨kr.length, by rw [hks]; rfl⟩
              obtain ⟨last, hla⟩ : ∃ s, ks[m]? = some s := ⟨_, List.getElem?_eq_getElem (by omega)⟩
              have hgl : ks.getLast? = some last := by rw [List.getLast?_eq_getElem?, hm]; exact hla
              have HLB : Hid (LS = .ok (tx, (if (!bfr (sl last) (sl tx)) = true then lput ms NB (p, 4) else ms), q)) := by
                show _ = _
                rw [HLA.out]
                unfold lfal
                rw [hgl]
              rw [← hks]
              have hK7 := HK7.out
              rw [hm] at hK7 ⊢
              have hkb : ∃ kb, a0 = some ⟨kb, 0, none⟩ := by
                rcases hK7.2 with ⟨hv, h0⟩ | ⟨g', cap', cur', hv, -⟩
                · omega
                · injection hv with e1 _ _
                  exact ⟨g', e1⟩
              obtain ⟨kb, rfl⟩ := hkb
              have ck : w7.cell? ⟨kb, m, none⟩ = some (.string last) := (own_cell hK7 (by rw [List.getElem?_map, hla]; rfl)).1
              have k5 : ((m + 1 : Nat) : Int) - 1 = (m : Int) := by omega
              have k6 : (0 : Int) < ((m + 1 : Nat) : Int) := by omega
              have k7 : (m : Int) < ((m + 1 : Nat) : Int) := by omega
              have k8 : IntKind.i64.wrap (m : Int) = (m : Int) := by rw [IntKind.wrap_i64]; have := HKM.out; omega
              have k9 : wrap64 (m : Int) = (m : Int) := by have := HKM.out; unfold wrap64; omega
              clear hks hgl hla HLA hK7
              go_upto_region 13 with fail
              have HB67 := fun (wz : World) => before_any last tx wz
              have HBF := hide HB67
              clear HB67
              cases hbf : bfr (sl last) (sl tx) with
              | true =>
                as_aux_lemma =>
                have HLC : Hid (LS = .ok (tx, ms, q)) := by show _ = _; rw [HLB.out, hbf]; rfl
                rw [hbf] at HBF
                clear hbf HLB
                go_wp2_with fail
                refine (HBF.out w7).mono ?_
                rintro e w7 ⟨rfl, rfl⟩
                go_wp2_with fail
                first
                  | exact bodyPost_ret (results_tmp (t := 6) rfl _ _ _) rfl (.inl ⟨_, _, HLC.out, rfl, HI7.out⟩)
                  | (go_ret; exact .inl ⟨_, _, HLC.out, rfl, HI7.out⟩)
              | false =>
                as_aux_lemma =>
                have HLC : Hid (LS = .ok (tx, lput ms NB (p, 4), q)) := by show _ = _; rw [HLB.out, hbf]; rfl
                rw [hbf] at HBF
                clear hbf HLB
                obtain ⟨a6, cap6, hv6, -⟩ := own_formG HI7.out.i.o
                subst hv6
                have hba := below_alloc4 w7 (.cells #[.int .i64 (p : Nat), .int .i64 4] 55)
                have hI8 := HI7.out.trans (HI7.out.i.next hba)
                have c4 : w7.cell? ⟨g, 4, none⟩ = some (.slice a6 ms.length cap6) := blk_cell (j := 4) HI7.out.i.r.blk rfl
                have HIN := hide (insert9_any (x := (p, 4)) hI8.i.o (heap_alloc_new w7 (.cells #[.int .i64 (p : Nat), .int .i64 4] 55)) (fun e => by have := (HI7.out.i.o.lt _ e).2; omega) (by have h1 := HN0.out; have h2 := hI8.k.size; omega) NB HLE.out.1 (by have := HLE.out; omega))
                have HI8 := hide hI8
                clear hba hI8
                go_wp2_with fail
                refine (HBF.out w7).mono ?_
                rintro e w7 ⟨rfl, rfl⟩
                go_wp2_with fail
                refine HIN.out.mono ?_
                rintro e w9 ⟨v', rfl, hP⟩
                have hgb := (hP.out.2.1.block g (blk_lt HI8.out.i.r.blk) (fun e => HI8.out.i.ne g e rfl)).trans HI8.out.i.r.blk
                have c4b : w9.cell? ⟨g, 4, none⟩ = some (.slice a6 ms.length cap6) := blk_cell (j := 4) hgb rfl
                have f4 : w9.frozen? ⟨g, 4, none⟩ = false := blk_frozen 4 hgb
                have HI9 := hide (HI8.out.notes hP.out.1 hP.out.2.1 hP.out.2.2)
                obtain ⟨a9, cap9, hv9, -⟩ := own_formG hP.out.1
                subst hv9
                clear hP hgb HIN HI8
                go_wp2_with fail
                first
                  | exact bodyPost_ret (results_tmp (t := 6) rfl _ _ _) rfl (.inl ⟨_, _, HLC.out, rfl, HI9.out⟩)
                  | (go_ret; exact .inl ⟨_, _, HLC.out, rfl, HI9.out⟩)
          · have hzn : ∃ n : Nat, z = n := HZN.out.resolve_left hz
            as_aux_lemma =>
            obtain ⟨n, rfl⟩ := hzn
            have g7 : ((n : Int) != -1) = true := by rw [bne_iff_ne]; omega
            have HLA : Hid (LS = .error (95, n)) := by show _ = _; rw [HL9.out, if_pos hz]; rfl
            have HKE := hide HI7.out.k
            clear hz HL9
            go_wp2_with fail
            refine (HGU.out n w7).mono ?_
            rintro e w8 ⟨rfl, rfl⟩
            go_wp2_with fail
            exact ⟨rfl, .inr ⟨95, n, HLA.out, rfl, HKE.out⟩⟩
      · as_aux_lemma =>
        rw [hx] at HL6
        have HL7 : Hid (LS = .error (c, q)) := HL6.out
        have HKE : Hid (Kp (fun q => q = g ∨ vn.ownBlock = some q) w w6) := HI5.out.kout hk
        unfold gup at he'
        subst he'
        clear hk hx HCJ HCA HI5 HL6
        go_wp2_with fail
        exact ⟨rfl, .inr ⟨c, q, HL7.out, rfl, HKE.out⟩⟩
    · as_aux_lemma =>
      have g2 : ((ym : Int) != 3) = true := by rw [bne_iff_ne]; omega
      have HL6 : Hid (LS = .error (95, p)) := by show _ = _; rw [HL3.out, if_pos hy3]
      have HKE := hide HI5.out.k
      have HGU := hide (giveUp_any w5 95 p)
      clear hy3 HL3
      go_wp2_with fail
      refine HGU.out.mono ?_
      rintro e w6 ⟨rfl, rfl⟩
      go_wp2_with fail
      exact ⟨rfl, .inr ⟨95, p, HL6.out, rfl, HKE.out⟩⟩
end
section
open Go.RowKit Go
theorem blt_totE : ∀ (x y : List Nat), x.length = y.length → blt x y = false → blt y x = false → x = y
  | [], [], _, _, _ => rfl
  | [], _ :: _, h, _, _ => by simp at h
  | _ :: _, [], h, _, _ => by simp at h
  | a :: x, b :: y, h, h1, h2 => by
    simp only [blt] at h1 h2
    by_cases e : a = b
    · rw [if_pos e] at h1
      rw [if_pos e.symm] at h2
      rw [e, blt_totE x y (by simpa using h) h1 h2]
    · rw [if_neg e] at h1
      rw [if_neg (fun h => e h.symm)] at h2
      simp at h1 h2
      omega
theorem bfr_totE {x y : List Nat} (h1 : bfr x y = false) (h2 : bfr y x = false) : x = y := by
  unfold bfr at *
  by_cases e : x.length = y.length
  · rw [if_pos e] at h1
    rw [if_pos e.symm] at h2
    exact blt_totE x y e h1 h2
  · rw [if_neg e] at h1
    rw [if_neg (fun h => e h.symm)] at h2
    simp at h1 h2
    omega
theorem sl_injE {s t : ByteArray} (h : sl s = sl t) : s = t := by rw [← nstr_sl s, h, nstr_sl]
theorem bfr_tot9 {x y : ByteArray} (h1 : bfr (sl x) (sl y) = false) (h2 : bfr (sl y) (sl x) = false) : x = y := sl_injE (bfr_totE h1 h2)
theorem bfr_one9 (x y : ByteArray) : bfr (sl x) (sl y) = false ∨ bfr (sl y) (sl x) = false := by
  cases h1 : bfr (sl x) (sl y) with
  | false => exact .inl rfl
  | true =>
    cases h2 : bfr (sl y) (sl x) with
    | false => exact .inr rfl
    | true =>
      have := bfr_tr _ _ _ h1 h2
      rw [bfr_self] at this
      cases this
theorem keys_one {l1 l2 : List ByteArray} (hp : l1.Perm l2) (h1 : l1.Pairwise fun x y => bfr (sl y) (sl x) = false) (h2 : l2.Pairwise fun x y => bfr (sl y) (sl x) = false) : l1 = l2 :=
  List.Perm.eq_of_pairwise (fun _ _ _ _ ha hb => bfr_tot9 hb ha) h1 h2 hp
theorem srt_keys (ks : List ByteArray) (ts : List Tv) (hl : ts.length = ks.length) : ((lsrt ks ts).map (·.1)).Perm ks ∧ ((lsrt ks ts).map (·.1)).Pairwise fun x y => bfr (sl y) (sl x) = false := by
  unfold lsrt
  have hp := List.mergeSort_perm (ks.zip ts) (fun x y => !bfr (sl y.1) (sl x.1))
  constructor
  · have h := hp.map (·.1)
    rwa [List.map_fst_zip (by omega)] at h
  · have h := List.pairwise_mergeSort (le := fun (x y : ByteArray × Tv) => !bfr (sl y.1) (sl x.1)) (fun _ _ _ h1 h2 => by
      simp only [Bool.not_eq_true'] at h1 h2 ⊢
      exact bfr_nt _ _ _ h2 h1) (fun a b => by
      rcases bfr_one9 a.1 b.1 with h | h <;> simp [h]) (ks.zip ts)
    rw [List.pairwise_map]
    exact h.imp (fun h => by simpa using h)
theorem srt_len (ks : List ByteArray) (ts : List Tv) (hl : ts.length = ks.length) : (lsrt ks ts).length = ks.length := by
  have h := (srt_keys ks ts hl).1.length_eq
  rwa [List.length_map] at h
theorem srt_side {β : Type} (ks : List ByteArray) (ts : List Tv) (L : List β) (ht : ts.length = ks.length) (hL : L.length = ks.length) (hn : ks.Nodup) (d' : List (ByteArray × β)) (hp : d'.Perm (ks.zip L)) (hs : d'.Pairwise fun x y => bfr (sl y.1) (sl x.1) = false) :
    d'.map (·.1) = (lsrt ks ts).map (·.1) ∧ ∃ σ : Nat → Nat, (∀ i, i < ks.length → σ i < ks.length ∧ ((lsrt ks ts).map (·.2))[i]? = ts[σ i]? ∧ (d'.map (·.2))[i]? = L[σ i]?) ∧ ∀ i j, i < ks.length → j < ks.length → σ i = σ j → i = j := by
  have hk := srt_keys ks ts ht
  have hk2 : (d'.map (·.1)).Perm ks := by
    have h := hp.map (·.1)
    rwa [List.map_fst_zip (by omega)] at h
  have he : d'.map (·.1) = (lsrt ks ts).map (·.1) := keys_one (hk2.trans hk.1.symm) (by rw [List.pairwise_map]; exact hs) hk.2
  have hnl := srt_len ks ts ht
  have hdl : d'.length = ks.length := by
    have h := congrArg List.length he
    rw [List.length_map, List.length_map, hnl] at h
    exact h
  refine ⟨he, ?_⟩
  have hnk : ((lsrt ks ts).map (·.1)).Nodup := hk.1.nodup_iff.2 hn
  have hz : ∀ i, i < ks.length → ∃ s, s < ks.length ∧ ks[s]? = ((lsrt ks ts).map (·.1))[i]? ∧ ((lsrt ks ts).map (·.2))[i]? = ts[s]? ∧ (d'.map (·.2))[i]? = L[s]? := fun i hi => by
    have h1 : (lsrt ks ts)[i]'(by omega) ∈ ks.zip ts := (List.mergeSort_perm (ks.zip ts) _).mem_iff.1 (List.getElem_mem _)
    obtain ⟨s, hs1, e1⟩ := List.getElem_of_mem h1
    have h2 : d'[i]'(by omega) ∈ ks.zip L := hp.mem_iff.1 (List.getElem_mem _)
    obtain ⟨s2, hs2, e2⟩ := List.getElem_of_mem h2
    rw [List.getElem_zip] at e1 e2
    rw [List.length_zip] at hs1 hs2
    have hss : s < ks.length := by omega
    have hss2 : s2 < ks.length := by omega
    have e3 : ks[s] = ks[s2] := by
      have h3 : (d'.map (·.1))[i]? = ((lsrt ks ts).map (·.1))[i]? := by rw [he]
      rw [List.getElem?_map, List.getElem?_map, List.getElem?_eq_getElem (by omega), List.getElem?_eq_getElem (by omega)] at h3
      simp only [Option.map_some, Option.some.injEq] at h3
      rw [← e1, ← e2] at h3
      exact h3.symm
    have e4 : s = s2 := (List.getElem?_inj hss hn).1 (by rw [List.getElem?_eq_getElem hss, List.getElem?_eq_getElem hss2, e3])
    subst e4
    refine ⟨s, hss, ?_, ?_, ?_⟩
    · rw [List.getElem?_eq_getElem hss, List.getElem?_map, List.getElem?_eq_getElem (l := lsrt ks ts) (by omega), ← e1]
      rfl
    · rw [List.getElem?_map, List.getElem?_eq_getElem (l := lsrt ks ts) (by omega), List.getElem?_eq_getElem (l := ts) (by omega), ← e1]
      rfl
    · rw [List.getElem?_map, List.getElem?_eq_getElem (l := d') (by omega), List.getElem?_eq_getElem (l := L) (by omega), ← e2]
      rfl
  refine ⟨fun i => if hi : i < ks.length then (hz i hi).choose else 0, fun i hi => ?_, fun i j hi hj e => ?_⟩
  · dsimp only
    rw [dif_pos hi]
    exact ⟨(hz i hi).choose_spec.1, (hz i hi).choose_spec.2.2.1, (hz i hi).choose_spec.2.2.2⟩
  · dsimp only at e
    rw [dif_pos hi, dif_pos hj] at e
    have h1 := (hz i hi).choose_spec.2.1
    have h2 := (hz j hj).choose_spec.2.1
    rw [e, h2] at h1
    have hl : ((lsrt ks ts).map (·.1)).length = ks.length := by rw [List.length_map, hnl]
    exact ((List.getElem?_inj (by omega) hnk).1 h1.symm)
end
section
open Go.RowKit Go
theorem Lit.kpS {lo : Nat} {wx wy : World} {vx vi : Value} {ts : List Tv} {L : List (Array Value)} {E : Nat → Nat → Prop} {S : Nat → Prop} (h : Lit lo wx vx vi ts L E) (hk : Kp S wx wy) (h1 : ∀ q, vi.ownBlock = some q → ¬ S q) (h2 : ∀ i, i < ts.length → ∀ q, E i q → ¬ S q) : Lit lo wy vx vi ts L E := by
  have hs := hk.size
  exact ⟨hk.owns h.o h1, h.l, h.c, fun i hi q e => by have := h.d i hi q e; exact ⟨this.1, by omega, this.2.2⟩, h.j, fun i u c hu hc => (h.v i u c hu hc).kp hk (fun q e => h2 i (List.getElem?_eq_some_iff.1 hu).1 q e)⟩
structure EnL (w wx : World) (N0 g : Nat) (v : Value) (b : List Nat) (dp o2 : Nat) (vn : Value) (hh : Array Value) (B : Nat) (vk vi : Value) (q : Nat) (ks : List ByteArray) (ts : List Tv) (ms : List (Nat × Nat)) (vx : Value) (L : List (Array Value)) (E : Nat → Nat → Prop) : Prop where
  i : Itg w wx N0 g v b dp q o2 vn vx ms
  h : wx.heap[w.heap.size]? = some (.cells hh 66 (0, 0))
  l : Lit w.heap.size wx vx vi ts L E
  k : wx.ownsRow w.heap.size 9 1 vk ks.length (ks.map fun s => .string s)
  d : ∀ i, i < ts.length → ∀ r, E i r → vk.ownBlock ≠ some r ∧ B < r
section
variable {w wx wy : World} {N0 g : Nat} {v : Value} {b : List Nat} {dp o2 p p' op op' : Nat} {vn : Value} {hh : Array Value} {B nB lo n : Nat} {vk vk' vi vi' : Value} {q q' : Nat} {ks Lm : List ByteArray} {ts : List Tv} {ns ns' ms ms' : List (Nat × Nat)} {vx vx' : Value} {L : List (Array Value)} {E : Nat → Nat → Prop} {xs : List Value}
theorem Itp.kown (h : Itp wx N0 g v b dp p op vx ns) (hk : wx.ownsRow lo 9 1 vk n xs) (h2 : Kp (fun q => q = g ∨ vx.ownBlock = some q) wx wy) : wy.ownsRow lo 9 1 vk n xs :=
  h2.owns hk (fun q e e2 => by
    rcases e2 with e2 | e2
    · exact own_not hk h.r.blk (by decide) (e2 ▸ e)
    · exact own_apart hk h.o (by decide) e e2)
theorem Itp.kmst (h : Itp wx N0 g v b dp p op vx ns) (hM : Mtx wx B nB Lm) (h2 : Kp (fun q => q = g ∨ vx.ownBlock = some q) wx wy) : Mtx wy B nB Lm :=
  hM.block (h2.block _ hM.lt (fun e2 => by
    rcases e2 with e2 | e2
    · exact hM.nocells h.r.blk e2.symm
    · obtain ⟨c9, hc9⟩ := own_block_type h.o e2
      exact hM.nocells hc9 rfl))
theorem EnL.itg (h : EnL w wx N0 g v b dp o2 vn hh B vk vi q ks ts ms vx L E) (hg : g < w.heap.size) (h2 : Itg wx wy N0 g v b dp q' o2 vx vx' ms') : EnL w wy N0 g v b dp o2 vn hh B vk vi q' ks ts ms' vx' L E :=
  ⟨h.i.trans h2, h.i.i.keptB h.h (by decide) h2.k, h.l.itg h.i.i hg h2, h.i.i.kown h.k h2.k, h.d⟩
theorem EnL.next (h : EnL w wx N0 g v b dp o2 vn hh B vk vi q ks ts ms vx L E) (hg : g < w.heap.size) (hb : Below wx.heap.size wx wy) : EnL w wy N0 g v b dp o2 vn hh B vk vi q ks ts ms vx L E := h.itg hg (h.i.i.next hb)
theorem EnL.mapd (h : EnL w wx N0 g v b dp o2 vn hh B vk vi q ks ts ms vx L E) (hg : g < w.heap.size) (hN : N0 ≤ w.heap.size) (hB : w.heap.size ≤ B) (hM : Mtx wx B nB Lm) (hk : Kp (fun r => r = B) wx wy) : EnL w wy N0 g v b dp o2 vn hh B vk vi q ks ts ms vx L E := by
  have hno : ∀ {lo e s v n xs}, wx.ownsRow lo e s v n xs → v.ownBlock ≠ some B := fun ho e2 => by
    obtain ⟨c9, hc9⟩ := own_block_type ho e2
    exact hM.nocells hc9 rfl
  exact ⟨h.i.kpS hk (fun r e => ⟨by omega, fun e2 => hno h.i.i.o (e ▸ e2)⟩) hg hN, (hk.block _ (blk_lt h.h) (fun e => hM.nocells h.h e)).trans h.h, h.l.kpS hk (fun r e e2 => hno h.l.o (e2 ▸ e)) (fun i hi r e e2 => by have := (h.d i hi r e).2; omega), hk.owns h.k (fun r e e2 => hno h.k (e2 ▸ e)), h.d⟩
theorem EnL.keyd (h : EnL w wx N0 g v b dp o2 vn hh B vk vi q ks ts ms vx L E) (hg : g < w.heap.size) (hN : N0 ≤ w.heap.size) {ks' : List ByteArray} (ho : wy.ownsRow w.heap.size 9 1 vk' ks'.length (ks'.map fun s => .string s)) (hk : Kp (fun r => vk.ownBlock = some r) wx wy) (hv : vk'.ownBlock = vk.ownBlock ∨ ∀ r, vk'.ownBlock = some r → wx.heap.size ≤ r) : EnL w wy N0 g v b dp o2 vn hh B vk' vi q ks' ts ms vx L E :=
  ⟨h.i.kpS hk (fun r e => ⟨(h.k.lt r e).1, own_apart h.k h.i.i.o (by decide) e⟩) hg hN, (hk.block _ (blk_lt h.h) (fun e => own_not h.k h.h (by decide) e)).trans h.h, h.l.kpS hk (fun r e e2 => own_apart h.k h.l.o (by decide) e2 e) (fun i hi r e e2 => (h.d i hi r e).1 e2), ho, fun i hi r e => ⟨fun e2 => by
    rcases hv with hv | hv
    · exact (h.d i hi r e).1 (hv ▸ e2)
    · have h1 := hv r e2
      have h2 := (h.l.d i hi r e).2.1
      omega, (h.d i hi r e).2⟩⟩
theorem EnL.itmd (h : EnL w wx N0 g v b dp o2 vn hh B vk vi q ks ts ms vx L E) (hg : g < w.heap.size) (hN : N0 ≤ w.heap.size) {D : Nat → Prop} {t : Tv} {c : Array Value} {B0 : Nat} (hNs : Nos wx B0 D t c) (hB0 : w.heap.size ≤ B0) (hBB : B < B0) (hD : ∀ r, D r → B0 ≤ r ∧ r < wx.heap.size ∧ vx.ownBlock ≠ some r) (hE : ∀ i, i < ts.length → ∀ r, E i r → r < B0) (hvi : ∀ r, vi.ownBlock = some r → r < B0) (hvk : ∀ r, vk.ownBlock = some r → r < B0)
    (ho : wy.ownsRow w.heap.size 41 13 vi' (ts.length + 1) (vfl L ++ c.toList)) (hk : Kp (fun r => vi.ownBlock = some r) wx wy) (hv : vi'.ownBlock = vi.ownBlock ∨ ∀ r, vi'.ownBlock = some r → wx.heap.size ≤ r) : EnL w wy N0 g v b dp o2 vn hh B vk vi' q ks (ts ++ [t]) ms vx (L ++ [c]) (fun i => if i < ts.length then E i else D) :=
  ⟨h.i.kpS hk (fun r e => ⟨(h.l.o.lt r e).1, own_apart h.l.o h.i.i.o (by decide) e⟩) hg hN, (hk.block _ (blk_lt h.h) (fun e => own_not h.l.o h.h (by decide) e)).trans h.h, h.l.put hNs hB0 hD hE hvi ho hk hv, hk.owns h.k (fun r e e2 => own_apart h.k h.l.o (by decide) e e2), fun i hi r e => by
    by_cases hi2 : i < ts.length
    · rw [if_pos hi2] at e
      exact h.d i hi2 r e
    · rw [if_neg hi2] at e
      have h1 := (hD r e).1
      exact ⟨fun e2 => by have := hvk r e2; omega, by omega⟩⟩
end
theorem key_new {b : List Nat} {dp J op p : Nat} {ks : List ByteArray} {ns : List (Nat × Nat)} {x : ByteArray × List (Nat × Nat) × Nat} (h : lkey b dp J op p ks ns = .ok x) : memb ks x.1 = false := by
  unfold lkey at h
  cases h1 : litem b dp p op with
  | error e => rw [h1] at h; cases h
  | ok y =>
    rw [h1] at h
    change (if y.1.m ≠ 3 then _ else _) = _ at h
    split at h
    · cases h
    · cases h2 : lallg stJ b dp J op y.2 y.1 ([], -1) (lnot y.2 y.1 ns) with
      | error e => rw [h2] at h; cases h
      | ok z =>
        rw [h2] at h
        change (if memb ks (nstr z.1.1) = true then _ else _) = _ at h
        split at h
        · cases h
        · rename_i h3
          split at h
          · cases h
          · injection h with h
            subst h
            simpa using h3
theorem key_size {b : List Nat} {dp J op p : Nat} {ks : List ByteArray} {ns : List (Nat × Nat)} {x : ByteArray × List (Nat × Nat) × Nat} (h : lkey b dp J op p ks ns = .ok x) : x.1.size ≤ b.length := by
  unfold lkey at h
  cases h1 : litem b dp p op with
  | error e => rw [h1] at h; cases h
  | ok y =>
    rw [h1] at h
    change (if y.1.m ≠ 3 then _ else _) = _ at h
    by_cases hm : y.1.m = 3
    · rw [if_neg (fun e => e hm)] at h
      cases h2 : lallg stJ b dp J op y.2 y.1 ([], -1) (lnot y.2 y.1 ns) with
      | error e => rw [h2] at h; cases h
      | ok z =>
        have h4 := (joined_len (.inr hm) (item_at h1).2.2.2.2 (item_at h1).2.1 h2).1
        rw [h2] at h
        change (if memb ks (nstr z.1.1) = true then _ else _) = _ at h
        split at h
        · cases h
        · split at h
          · cases h
          · injection h with h
            subst h
            show (nstr z.1.1).size ≤ _
            rw [show (nstr z.1.1).size = z.1.1.length from by unfold nstr; rw [strOfNums_size]; simp]
            exact h4
    · rw [if_pos hm] at h
      cases h
theorem memb_app {ks : List ByteArray} {Lm : List ByteArray} {s : ByteArray} (h : ∀ t, memb Lm t = memb ks t) : ∀ t, memb (putL Lm s) t = memb (ks ++ [s]) t := fun t => by
  rw [Bool.eq_iff_iff, memb_iff, memb_iff, putL_mem, List.mem_append, List.mem_singleton, ← memb_iff (L := Lm), h t, memb_iff]
  exact or_comm
end
section
open Go.RowKit Go
theorem infoStr3 : (Tryz.prog.info? 9).map (fun i => (i.zero, i.size, i.bytes)) = some (some (.string ⟨#[]⟩), 1, 16) := by kernel_rfl
theorem gfl_str (ks : List ByteArray) : gfl (ks.map fun s => #[Value.string s]) = ks.map fun s => .string s := by
  induction ks with
  | nil => simp [gfl]
  | cons s r ih =>
    have e : gfl ((s :: r).map fun s => #[Value.string s]) = .string s :: gfl (r.map fun s => #[Value.string s]) := by simp [gfl]
    rw [e, ih]
    rfl
theorem appS9 {wz : World} {lo : Nat} {a0 : Option Addr} {n0 cap0 : Nat} {ks : List ByteArray} {s : ByteArray} {G : Nat} (h : wz.ownsRow lo 9 1 (.slice a0 n0 cap0) ks.length (ks.map fun s => .string s)) (hkn : n0 = ks.length) (hg : wz.heap[G]? = some (.cells #[.string s] 9 (0, 0))) (hn : n0 ≤ 1000000) (hlo : lo ≤ wz.heap.size) (ops : Array Oper) (rest : List Oper) (o : Oper) (ac : Act) (Q : Exit → Act → World → Prop) (s' y' : Operand) (h1 : o.guard = none) (h2 : o.op = .call { callee := .builtin .append, args := #[s', y'], argTypes := #[38, 38] }) (h3 : ac.eval s' = .slice a0 n0 cap0) (h4 : ac.eval y' = .slice (some ⟨G, 0, none⟩) 1 1) (h5 : ∀ a' n' c' w', n' = n0 + 1 → w'.ownsRow lo 9 1 (.slice a' n' c') (ks ++ [s]).length ((ks ++ [s]).map fun s => .string s) → Kp (fun q => (Value.slice a0 n0 cap0).ownBlock = some q) wz w' → ((Value.slice a' n' c').ownBlock = (Value.slice a0 n0 cap0).ownBlock ∨ ∀ q, (Value.slice a' n' c').ownBlock = some q → wz.heap.size ≤ q) → wpList Tryz.prog ops Q rest (ac.put o.dst (.slice a' n' c')) w') : wpList Tryz.prog ops Q (o :: rest) ac wz := by
  have hlen : (ks.map fun s => #[Value.string s]).length = ks.length := by rw [List.length_map]
  refine append_g infoStr3 Tryz.underlying38 rfl (by decide) (by decide) h1 h2 h3 (L := ks.map fun s => #[Value.string s]) (B := lo) (by rw [hlen, gfl_str]; exact h) h4 hg rfl (by intro u hu; simp at hu; subst hu; rfl) (by rw [hlen]; omega) hlo (fun v' w' h6 h7 h8 => ?_)
  obtain ⟨a', c', hv', _⟩ := own_formG h6
  subst hv'
  rw [hlen, ← hkn] at h6 h8 ⊢
  refine h5 _ _ _ w' rfl ?_ (kp_grown9 h7) (h8.imp id (fun e q eq => ?_))
  · rw [List.length_append, List.length_singleton, ← hkn, ← gfl_str, List.map_append]
    exact h6
  · rw [e] at eq
    have := Option.some.inj eq
    omega
theorem EnL.sorted {w wx wy : World} {N0 g : Nat} {v : Value} {b : List Nat} {dp o2 : Nat} {vn : Value} {hh : Array Value} {B kb ib ck ci q : Nat} {ks : List ByteArray} {ts : List Tv} {ms : List (Nat × Nat)} {vx : Value} {L : List (Array Value)} {E : Nat → Nat → Prop} (h : EnL w wx N0 g v b dp o2 vn hh B (.slice (some ⟨kb, 0, none⟩) ks.length ck) (.slice (some ⟨ib, 0, none⟩) ks.length ci) q ks ts ms vx L E) (hg : g < w.heap.size) (hN : N0 ≤ w.heap.size) (hl : ts.length = ks.length) (hn : ks.Nodup) {d' : Array (ByteArray × Array Value)} (hB : Byk w.heap.size kb ib ck ci wy d') (hs : Srd blt9 (ks.zip L).toArray d') (hk : Kp (fun r => r = kb ∨ r = ib) wx wy) : ∃ L' E', Itg w wy N0 g v b dp q o2 vn vx ms ∧ wy.ownsRow w.heap.size 9 1 (.slice (some ⟨kb, 0, none⟩) ks.length ck) ((lsrt ks ts).map (·.1)).length (((lsrt ks ts).map (·.1)).map fun s => .string s) ∧ Lit w.heap.size wy vx (.slice (some ⟨ib, 0, none⟩) ks.length ci) ((lsrt ks ts).map (·.2)) L' E' ∧ ∀ i, i < ((lsrt ks ts).map (·.2)).length → ∀ r, E' i r → r ≠ kb := by
  obtain ⟨hz, hp, hso⟩ := hs
  have hLl : L.length = ks.length := by rw [h.l.l, hl]
  have hdz : d'.size = ks.length := by rw [hz, List.size_toArray, List.length_zip]; omega
  have hdl : d'.toList.length = ks.length := by rw [Array.length_toList, hdz]
  have hpw : d'.toList.Pairwise fun x y => bfr (sl y.1) (sl x.1) = false := by
    rw [List.pairwise_iff_getElem]
    intro i j hi hj hij
    have h1 := hso i j (Nat.zero_le _) hij (by rw [List.size_toArray, List.length_zip]; omega)
    have hi2 : i < d'.size := by simpa using hi
    have hj2 : j < d'.size := by simpa using hj
    rw [getElem!_pos d' i hi2, getElem!_pos d' j hj2] at h1
    simpa [blt9] using h1
  obtain ⟨hke, σ, hσ, hinj⟩ := srt_side ks ts L hl hLl hn d'.toList hp hpw
  have hnl := srt_len ks ts hl
  have hsl : ((lsrt ks ts).map (·.2)).length = ks.length := by rw [List.length_map, hnl]
  have hkl : ((lsrt ks ts).map (·.1)).length = ks.length := by rw [List.length_map, hnl]
  have hs := hk.size
  refine ⟨d'.toList.map (·.2), fun i => E (σ i), ?_, ?_, ?_, fun i hi r e eq => ?_⟩
  · refine h.i.kpS hk (fun r e => ?_) hg hN
    rcases e with e | e
    · subst e
      exact ⟨(h.k.lt _ rfl).1, own_apart h.k h.i.i.o (by decide) rfl⟩
    · subst e
      exact ⟨(h.l.o.lt _ rfl).1, own_apart h.l.o h.i.i.o (by decide) rfl⟩
  · rw [hkl, ← hke, List.map_map]
    have h1 := hB.k
    rw [hdz] at h1
    exact h1
  · refine ⟨?_, by rw [List.length_map, hsl, hdl], fun c hc => ?_, fun i hi r e => ?_, fun i j hij hj r e e2 => ?_, fun i u c hu hc => ?_⟩
    · rw [hsl]
      have h1 := hB.i
      rw [hdz] at h1
      exact h1
    · obtain ⟨x, hx, rfl⟩ := List.mem_map.1 hc
      exact hB.c x hx
    · rw [hsl] at hi
      have h1 := h.l.d (σ i) (by rw [hl]; exact (hσ i hi).1) r e
      exact ⟨h1.1, by omega, h1.2.2⟩
    · rw [hsl] at hj
      have hi : i < ks.length := by omega
      have hne : σ i ≠ σ j := fun e3 => by have := hinj i j hi hj e3; omega
      rcases Nat.lt_or_gt_of_ne hne with h3 | h3
      · exact h.l.j _ _ h3 (by rw [hl]; exact (hσ j hj).1) r e e2
      · exact h.l.j _ _ h3 (by rw [hl]; exact (hσ i hi).1) r e2 e
    · have hi : i < ks.length := by
        have := (List.getElem?_eq_some_iff.1 hu).1
        omega
      have h1 := hσ i hi
      rw [h1.2.1] at hu
      rw [h1.2.2] at hc
      refine (h.l.v _ u c hu hc).kp hk (fun r e e2 => ?_)
      have h2 := h.l.d (σ i) (by rw [hl]; exact h1.1) r e
      rcases e2 with e2 | e2
      · exact (h.d (σ i) (by rw [hl]; exact h1.1) r e).1 (by rw [e2]; rfl)
      · exact h2.2.2.1 (by rw [e2]; rfl)
  · rw [hsl] at hi
    exact (h.d (σ i) (by rw [hl]; exact (hσ i hi).1) r e).1 (by rw [eq]; rfl)
def EntP (w : World) (N0 g : Nat) (v : Value) (b : List Nat) (dp op : Nat) (vn : Value) (r : Lx ((List ByteArray × List Tv) × List (Nat × Nat) × Nat)) (e : Ending) (w' : World) : Prop := (∃ x vx vk vi L E, r = .ok x ∧ e = .returned (.tuple #[vk, vi]) ∧ Itg w w' N0 g v b dp x.2.2 op vn vx x.2.1 ∧ w'.ownsRow w.heap.size 9 1 vk ((lsrt x.1.1 x.1.2).map (·.1)).length (((lsrt x.1.1 x.1.2).map (·.1)).map fun s => .string s) ∧ Lit w.heap.size w' vx vi ((lsrt x.1.1 x.1.2).map (·.2)) L E ∧ (∀ i, i < ((lsrt x.1.1 x.1.2).map (·.2)).length → ∀ r, E i r → vk.ownBlock ≠ some r) ∧ (∀ s ∈ (lsrt x.1.1 x.1.2).map (·.1), s.size ≤ 1000000) ∧ (lsrt x.1.1 x.1.2).length ≤ 1000000) ∨ ∃ c q, r = .error (c, q) ∧ e = gup c q ∧ Kp (fun q => q = g ∨ vn.ownBlock = some q) w w'
end
section
open Go.RowKit Go
def EnR (w wx : World) (N0 g : Nat) (v : Value) (b : List Nat) (dp o2 : Nat) (vn : Value) (hh : Array Value) (B J k : Nat) (f : Nat → List (Nat × Nat) → Lx (Tv × List (Nat × Nat) × Nat)) (h : HR) (LS : Lx ((List ByteArray × List Tv) × List (Nat × Nat) × Nat)) (vk vi : Value) (n1 n2 : Nat) : Prop := ∃ j q ks ts ms vx L E pe Lm, EnL w wx N0 g v b dp o2 vn hh B vk vi q ks ts ms vx L E ∧ Mtx wx B ks.length Lm ∧ (∀ s, memb Lm s = memb ks s) ∧ ks.Nodup ∧ LS = lents f b dp J o2 h j q ks ts ms ∧ lins (fun q => lskip b dp J k q o2) b h 2 j ks.length q = .ok pe ∧ ts.length = ks.length ∧ ks.length ≤ q ∧ b.length + 1 ≤ q + j ∧ ms.length + 3 * (b.length - q) ≤ 999990 ∧ Vtb N0 wx ∧ n1 = ks.length ∧ n2 = ts.length ∧ ∀ s ∈ ks, s.size ≤ 1000000
theorem entries9_any {f : Nat → List (Nat × Nat) → Lx (Tv × List (Nat × Nat) × Nat)} {w : World} {N0 g : Nat} {v : Value} {b : List Nat} {dp p op : Nat} {vn : Value} {ns : List (Nat × Nat)} (hI : Itp w N0 g v b dp p op vn ns) (hT : Vtb N0 w) (hop : op < dp) (hq : ∀ x ∈ b, x < 256) (hbl : b.length ≤ 1000000) (h : HR) (hn : h.n ≤ 1000000) (J k : Nat) (hJ : b.length + 1 ≤ J) (hns : ns.length + 3 * (b.length - p) ≤ 999990)
    (hF : ∀ (wx : World) (q : Nat) (ms : List (Nat × Nat)) (vx : Value) (q' : Nat), Itp wx N0 g v b dp q (op + 1) vx ms → Vtb N0 wx → ms.length + 3 * (b.length - q) ≤ 999990 → lskip b dp J k q (op + 1) = .ok q' → Calls Tryz.prog 20 #[.pointer (some ⟨g, 0, none⟩)] wx (TreP wx N0 g v b dp (op + 1) vx (f q ms)))
    (hG : Folw b f (fun q => lskip b dp J k q (op + 1))) (hR : ∀ q q', q ≤ b.length → lskip b dp J k q (op + 1) = .ok q' → q < q' ∧ q' ≤ b.length)
    (hS : ∃ pe, lins (fun q => lskip b dp J k q (op + 1)) b h 2 J 0 p = .ok pe) : Calls Tryz.prog 30 #[.pointer (some ⟨g, 0, none⟩), h.val] w (EntP w N0 g v b dp op vn (lents f b dp J (op + 1) h J p [] [] ns)) := by
  obtain ⟨LS, hLS⟩ : ∃ LS, LS = lents f b dp J (op + 1) h J p [] [] ns := ⟨_, rfl⟩
  rw [← hLS]
  have HRS : Hid (∀ w, _) := fun w => roomS9 w h hn
  have HRV : Hid (∀ w, _) := fun w => roomV9 w h hn
  obtain ⟨hm', hi, hn', hu', hs, he⟩ := h
  simp only [HR.val] at HRS HRV
  obtain ⟨w1, hw1⟩ : ∃ w1, w1 = w.alloc (.cells #[.int .i64 (hm' : Nat), .int .i64 (hi : Nat), .int .u64 (hn' : Nat), .int .i64 (hu' : Nat), .bool hs] 66) := ⟨_, rfl⟩
  have hb1 : Below w.heap.size w w1 := hw1 ▸ below_alloc4 w _
  have hg1 := heap_alloc_new w (.cells #[.int .i64 (hm' : Nat), .int .i64 (hi : Nat), .int .u64 (hn' : Nat), .int .i64 (hu' : Nat), .bool hs] 66)
  rw [← hw1] at hg1
  have HH1 := hide hg1
  have HI1 := hide (hI.next hb1)
  have HT1 := hide (hT.itg hI HI1.out)
  have HB1 := hide hb1
  have HGW : Hid (g < w.heap.size) := blk_lt hI.r.blk
  have HN0 : Hid (N0 ≤ w.heap.size) := by have h1 := hI.g; have h2 := HGW.out; show _ ≤ _; omega
  have HOD : Hid (op < dp ∧ dp ≤ 1024) := ⟨hop, hI.r.ho.2⟩
  have HBL := hide hbl
  have HJJ := hide hJ
  have HNS := hide hns
  have HPB := hide hI.r.hp
  have HQ := hide hq
  obtain ⟨o2, ho2⟩ : ∃ o2, o2 = op + 1 := ⟨_, rfl⟩
  have HLS := hide hLS
  have HSS := hide hS
  have HGG := hide hG
  have HFF := hide hF
  have HRR := hide hR
  rw [← ho2] at HFF HLS HSS HGG HRR
  have k1 : (op : Int) + 1 = (o2 : Int) := by omega
  have k4 : wrap64 (o2 : Int) = (o2 : Int) := by have h1 := HOD.out; unfold wrap64; omega
  have k2 : (o2 : Int) - 1 = (op : Int) := by omega
  have k5 : wrap64 (op : Int) = (op : Int) := by have h1 := HOD.out; unfold wrap64; omega
  have HO2 := hide ho2
  have HI := hide infoHd
  have HAG : Hid (∀ w, (isAgg 66).run Tryz.prog w = .ok true w) := aggHd
  simp only [HR.val]
  clear hI hT hop hbl hn hJ hns hF hG hS hLS hb1 hg1 ho2 hq hR
  go_enter Tryz.func30, Tryz.ntmps30
  go_upto_region 1 with fail
  rw [← hw1]
  clear hw1
  have hbd : Below w1.heap.size w1 w1.drew := by
    refine Below.drew ?_
    exact Below.refl _ _
  refine heldStart (S := fun wy => wy.heap[w.heap.size]? = some (.cells #[.int .i64 (hm' : Nat), .int .i64 (hi : Nat), .int .u64 (hn' : Nat), .int .i64 (hu' : Nat), .bool hs] 66 (0, 0))) (by kernel_rfl) ?_
  have hS := (hbd.block _ (blk_lt HH1.out)).trans HH1.out
  have HBD := hide hbd
  clear hbd
  generalize w1.drew = w2 at *
  refine heldTake 0 _ rfl (by kernel_rfl) (by kernel_rfl) (by kernel_rfl) (fun _ _ _ h => h) rfl hS (fun wy hy => exec_aggAt HI.out HAG.out rfl rfl rfl (fun j u hu => by rw [Nat.zero_add]; exact blk_cell hy hu)) ?_
  (try simp only [Act.put]); (try simp only [LsA, Ls0, LsS])
  refine heldTake 2 _ rfl (by kernel_rfl) (by kernel_rfl) (by kernel_rfl) (fun _ _ _ h => h) rfl hS (fun wy hy => exec_aggAt HI.out HAG.out rfl rfl rfl (fun j u hu => by rw [Nat.zero_add]; exact blk_cell hy hu)) ?_
  (try simp only [Act.put]); (try simp only [LsA, Ls0, LsS])
  refine heldStep 1 rfl (by kernel_rfl) (fun K1 hK1 => ?_)
  go_simp
  refine (HRS.out w2).mono ?_
  rintro e w2b ⟨u, rfl, hko, hb2⟩
  obtain ⟨ak, ck, hu, -⟩ := own_formG hko
  subst hu
  have hS1 := (hb2.block _ (blk_lt hS)).trans hS
  refine (Hid.out hK1) _ _ hS1 (fun hS2 => ?_)
  clear hK1 K1 hS
  have hS := hS2
  clear hS2
  (try simp only [Act.put]); (try simp only [LsA, Ls0, LsS])
  clear hS1
  have HKO := hide hko
  have HB2 := hide hb2
  clear hko hb2
  refine heldStep 3 rfl (by kernel_rfl) (fun K2 hK2 => ?_)
  go_simp
  refine (HRV.out w2b).mono ?_
  rintro e w3 ⟨u, rfl, hio, hb3⟩
  obtain ⟨ai, ci, hu, -⟩ := own_formG hio
  subst hu
  have hS1 := (hb3.block _ (blk_lt hS)).trans hS
  refine (Hid.out hK2) _ _ hS1 (fun hS2 => ?_)
  clear hK2 K2 hS
  have hS := hS2
  clear hS2
  (try simp only [Act.put]); (try simp only [LsA, Ls0, LsS])
  clear hS1
  have hko := (Kp.of_below (S := fun _ => False) hb3).owns HKO.out (fun _ _ e => e)
  have HB3 : Hid (Below w2.heap.size w2 w3) := HB2.out.trans (hb3.mono HB2.out.size)
  have hko : w3.ownsRow w.heap.size 9 1 (.slice ak 0 ck) 0 [] := own_rebase9 hko (by have h1 := HB1.out.size; have h2 := HBD.out.size; omega)
  have hio : w3.ownsRow w.heap.size 41 13 (.slice ai 0 ci) 0 [] := own_rebase9 hio (by have h1 := HB1.out.size; have h2 := HBD.out.size; have h3 := HB2.out.size; omega)
  have hS3 := hS
  clear hS hb3 HKO HB2
  refine heldTake 4 _ rfl (by kernel_rfl) (by kernel_rfl) (by kernel_rfl) (fun _ _ _ h => h) rfl hS3 (fun wy hy => by first | (go_simp; done) | (go_simp; rfl) | rfl) ?_
  (try simp only [Act.put]); (try simp only [LsA, Ls0, LsS])
  refine heldTake 5 _ rfl (by kernel_rfl) (by kernel_rfl) (by kernel_rfl) (fun _ _ _ h => h) rfl hS3 (fun wy hy => by first | (go_simp; done) | (go_simp; rfl) | rfl) ?_
  (try simp only [Act.put]); (try simp only [LsA, Ls0, LsS])
  refine heldDone (by kernel_rfl) ?_
  have HI3 := hide (HI1.out.trans (HI1.out.i.next (HBD.out.trans (HB3.out.mono HBD.out.size))))
  have HT3 := hide (HT1.out.itg HI1.out.i (HI1.out.i.next (HBD.out.trans (HB3.out.mono HBD.out.size))))
  have HSZ : Hid (w.heap.size ≤ w3.heap.size) := by have h1 := HB1.out.size; have h2 := HBD.out.size; have h3 := HB3.out.size; show _ ≤ _; omega
  have HE3 : Hid (EnL w w3 N0 g v b dp op vn #[.int .i64 (hm' : Nat), .int .i64 (hi : Nat), .int .u64 (hn' : Nat), .int .i64 (hu' : Nat), .bool hs] w3.heap.size (.slice ak 0 ck) (.slice ai 0 ci) p [] [] ns vn [] (fun _ _ => False)) := ⟨HI3.out, hS3, Lit.start hio, hko, fun _ h => by simp at h⟩
  clear hS3 hko hio HI1 HT1 HH1 HB1 HBD HB3 HI3
  obtain ⟨w4, hw4⟩ : ∃ w4, w4 = w3.alloc (.map #[] 0) := ⟨_, rfl⟩
  obtain ⟨B, hB⟩ : ∃ B, B = w3.heap.size := ⟨_, rfl⟩
  have hb4 : Below w3.heap.size w3 w4 := hw4 ▸ below_alloc4 w3 _
  have HM4 : Hid (Mtx w4 B 0 []) := by show Mtx _ _ _ _; rw [hw4, hB]; exact Mtx.made w3
  have HT4 := hide (HT3.out.itg HE3.out.i.i (HE3.out.i.i.next hb4))
  have HE4 := hide (HE3.out.itg HGW.out (HE3.out.i.i.next hb4))
  rw [← hB] at HE4 HSZ
  have hmm := @run_makeMap Tryz.prog
  go_upto_region 3 with fail
  clear hmm
  rw [← hw4, ← hB]
  clear hw4 hb4 hB HE3 HT3
  have c3 : w4.cell? ⟨g, 3, none⟩ = some (.int .i64 (op : Nat)) := blk_cell HE4.out.i.i.r.blk (rcl_3 HE4.out.i.i.r.z)
  have f3 : w4.frozen? ⟨g, 3, none⟩ = false := blk_frozen 3 HE4.out.i.i.r.blk
  have hse := HE4.out.i.i.r.set3 o2 (by have := HOD.out; have := HO2.out; omega)
  have hIs := HE4.out.i.i.rdr hse.1 hse.2
  have HM5 := hide (HE4.out.i.i.kmst HM4.out hIs.k)
  have HT5 := hide (HT4.out.itg HE4.out.i.i hIs)
  have HE5 : Hid (EnL w (w4.setCell ⟨g, 3, none⟩ (.int .i64 (o2 : Nat))) N0 g v b dp o2 vn #[.int .i64 (hm' : Nat), .int .i64 (hi : Nat), .int .u64 (hn' : Nat), .int .i64 (hu' : Nat), .bool hs] B (.slice ak 0 ck) (.slice ai 0 ci) p [] [] ns vn [] (fun _ _ => False)) := ⟨HE4.out.i.trans hIs, HE4.out.i.i.keptB HE4.out.h (by decide) hIs.k, HE4.out.l.itg HE4.out.i.i HGW.out hIs, HE4.out.i.i.kown HE4.out.k hIs.k, fun _ h => by simp at h⟩
  clear hse hIs HE4 HM4 HT4
  go_upto_region 4 with fail
  generalize w4.setCell ⟨g, 3, none⟩ (.int .i64 (o2 : Nat)) = w5 at *
  clear c3 f3
  have HX0 : Hid (EnR w w5 N0 g v b dp o2 vn #[.int .i64 (hm' : Nat), .int .i64 (hi : Nat), .int .u64 (hn' : Nat), .int .i64 (hu' : Nat), .bool hs] B J k f ⟨hm', hi, hn', hu', hs, he⟩ LS (.slice ak 0 ck) (.slice ai 0 ci) 0 0) := ⟨J, p, [], [], ns, vn, [], _, HSS.out.choose, [], HE5.out, HM5.out, fun _ => rfl, List.nodup_nil, HLS.out, HSS.out.choose_spec, rfl, Nat.zero_le _, by have := HJJ.out; omega, HNS.out, HT5.out, rfl, rfl, fun _ h => by cases h⟩
  clear HE5 HM5 HT5 HLS HSS
  rw [k4]
  go_loopw [6, 7] (fun v6 v7 wx => ∃ a1 n1 c1 a2 n2 c2, v6 = .slice a1 n1 c1 ∧ v7 = .slice a2 n2 c2 ∧ Hid (EnR w wx N0 g v b dp o2 vn #[.int .i64 (hm' : Nat), .int .i64 (hi : Nat), .int .u64 (hn' : Nat), .int .i64 (hu' : Nat), .bool hs] B J k f ⟨hm', hi, hn', hu', hs, he⟩ LS (.slice a1 n1 c1) (.slice a2 n2 c2) n1 n2)) (fun _ _ wx => b.length - rat g wx)
  case atStart => exact ⟨_, _, _, _, _, _, rfl, rfl, HX0⟩
  case round =>
    obtain ⟨a1, n1, c1, a2, n2, c2, rfl, rfl, hrel⟩ := hrel
    obtain ⟨j, q, ks, ts, ms, vx, L, E, pe, Lm, hE4, hM4, hmb, hnd, hls, hin, htk, hkq, hj, hms, hT4, hn1, hn2, hsz⟩ := hrel.out
    subst hn1 hn2
    have hql := hE4.i.i.r.hp
    obtain ⟨j', rfl⟩ : ∃ j', j = j' + 1 := ⟨j - 1, by omega⟩
    have HRt := hide (rat_eq hE4.i.i.r)
    have HE4 := hide hE4
    have HM4 := hide hM4
    have HT4 := hide hT4
    have HLE := hide hls
    have HIN := hide hin
    have HMB := hide hmb
    have HND := hide hnd
    have HKS := hide hsz
    have HJ2 : Hid (b.length + 1 ≤ q + (j' + 1) ∧ ks.length ≤ q ∧ q ≤ b.length ∧ ms.length + 3 * (b.length - q) ≤ 999990) := ⟨hj, hkq, hql, hms⟩
    obtain ⟨nn, hnn⟩ : ∃ nn, nn = ks.length := ⟨_, rfl⟩
    have HNN := hide hnn
    have HTK : Hid (ts.length = ks.length) := htk
    have k6 : IntKind.u64.wrap (nn : Int) = (nn : Int) := by have h1 := HJ2.out; have h2 := HBL.out; rw [IntKind.wrap_u64]; omega
    rw [htk, ← hnn]
    rw [htk, ← hnn] at HE4
    rw [← hnn] at HIN HM4
    clear hE4 hM4 hmb hnd hls hin htk hkq hj hms hT4 hql hrel HX0 hnn hsz
    go_upto_region 5 with fail
    have hbd : Below wr.heap.size wr wr.drew := by
      refine Below.drew ?_
      exact Below.refl _ _
    refine heldStart (S := fun wy => wy.heap[w.heap.size]? = some (.cells #[.int .i64 (hm' : Nat), .int .i64 (hi : Nat), .int .u64 (hn' : Nat), .int .i64 (hu' : Nat), .bool hs] 66 (0, 0))) (by kernel_rfl) ?_
    have hId := HE4.out.i.i.next hbd
    have hE5 := HE4.out.itg HGW.out hId
    have hS := hE5.h
    have HE5 := hide hE5
    have HM5 := hide (HE4.out.i.i.kmst HM4.out hId.k)
    have HT5 := hide (HT4.out.itg HE4.out.i.i hId)
    clear hbd hId HE4 HT4 HM4 hE5
    generalize wr.drew = w4 at *
    refine heldTake 0 _ rfl (by kernel_rfl) (by kernel_rfl) (by kernel_rfl) (fun _ _ _ h => h) rfl hS (fun wy hy => by first | (go_simp; done) | (go_simp; rfl) | rfl) ?_
    (try simp only [Act.put]); (try simp only [LsA, Ls0, LsS])
    refine heldTake 1 _ rfl (by kernel_rfl) (by kernel_rfl) (by kernel_rfl) (fun _ _ _ h => h) rfl hS (fun wy hy => by first | (go_simp; done) | (go_simp; rfl) | rfl) ?_
    (try simp only [Act.put]); (try simp only [LsA, Ls0, LsS])
    refine heldTake 2 _ rfl (by kernel_rfl) (by kernel_rfl) (by kernel_rfl) (fun _ _ _ h => h) rfl hS (fun wy hy => by first | (go_simp; done) | (go_simp; rfl) | rfl) ?_
    (try simp only [Act.put]); (try simp only [LsA, Ls0, LsS])
    refine heldTake 3 _ rfl (by kernel_rfl) (by kernel_rfl) (by kernel_rfl) (fun _ _ _ h => h) rfl hS (fun wy hy => exec_aggAt HI.out HAG.out rfl rfl rfl (fun j u hu => by rw [Nat.zero_add]; exact blk_cell hy hu)) ?_
    (try simp only [Act.put]); (try simp only [LsA, Ls0, LsS])
    refine heldTake 4 _ rfl (by kernel_rfl) (by kernel_rfl) (by kernel_rfl) (fun _ _ _ h => h) rfl hS (fun wy hy => by first | (go_simp; done) | (go_simp; rfl) | rfl) ?_
    (try simp only [Act.put]); (try simp only [LsA, Ls0, LsS])
    refine heldTake 5 _ rfl (by kernel_rfl) (by kernel_rfl) (by kernel_rfl) (fun _ _ _ h => h) rfl hS (fun wy hy => by first | (go_simp; done) | (go_simp; rfl) | rfl) ?_
    (try simp only [Act.put]); (try simp only [LsA, Ls0, LsS])
    refine heldTake 6 _ rfl (by kernel_rfl) (by kernel_rfl) (by kernel_rfl) (fun _ _ _ h => h) rfl hS (fun wy hy => by first | (go_simp; done) | (go_simp; rfl) | rfl) ?_
    (try simp only [Act.put]); (try simp only [LsA, Ls0, LsS])
    refine heldStep 7 rfl (by kernel_rfl) (fun K1 hK1 => ?_)
    go_simp
    refine (more9_any HE5.out.i.i.r ⟨hm', hi, hn', hu', hs, he⟩ nn).mono ?_
    rintro e w5 ⟨rfl, hr5, hk5⟩
    have h55 := HE5.out.i.i.rdr hr5 hk5
    have hE6 := HE5.out.itg HGW.out h55
    have HM6 := hide (HE5.out.i.i.kmst HM5.out h55.k)
    have HT6 := hide (HT5.out.itg HE5.out.i.i h55)
    have hS1 := hE6.h
    have HE6 := hide hE6
    refine (Hid.out hK1) _ _ hS1 (fun hS2 => ?_)
    clear hK1 K1 hS
    have hS := hS2
    clear hS2
    (try simp only [Act.put]); (try simp only [LsA, Ls0, LsS])
    clear hS1 hr5 hk5 h55 HE5 HM5 HT5 hE6
    refine heldDone (by kernel_rfl) ?_
    clear hS
    have HLM : Hid (lmo b q ⟨hm', hi, hn', hu', hs, he⟩ nn = true → LS = lbind (lkey b dp J o2 q ks ms) fun x => lbind (f x.2.2 x.2.1) fun y => lents f b dp J o2 ⟨hm', hi, hn', hu', hs, he⟩ j' y.2.2 (ks ++ [x.1]) (ts ++ [y.1]) y.2.1) := fun hm => by rw [HLE.out]; exact lents_more (by rw [← HNN.out]; exact hm)
    have HLF : Hid (lmo b q ⟨hm', hi, hn', hu', hs, he⟩ nn = false → LS = .ok ((ks, ts), ms, lmp b q ⟨hm', hi, hn', hu', hs, he⟩)) := fun hm => by rw [HLE.out]; exact lents_end (by rw [← HNN.out]; exact hm)
    have HMP : Hid (lmo b q ⟨hm', hi, hn', hu', hs, he⟩ nn = true → lmp b q ⟨hm', hi, hn', hu', hs, he⟩ = q) := fun hm => (ins_more9 (fun q => lskip b dp J k q o2) b _ 2 j' nn q hm).2
    have HIM : Hid (lmo b q ⟨hm', hi, hn', hu', hs, he⟩ nn = true → ∃ q1 q2, lskip b dp J k q o2 = .ok q1 ∧ lskip b dp J k q1 o2 = .ok q2 ∧ lins (fun q => lskip b dp J k q o2) b ⟨hm', hi, hn', hu', hs, he⟩ 2 j' (nn + 1) q2 = .ok pe) := fun hm => lins_two hm HIN.out
    clear HLE HIN
    generalize lmo b q ⟨hm', hi, hn', hu', hs, he⟩ nn = mo at *
    cases mo with
    | false =>
      as_aux_lemma =>
      have HL7 := hide (HLF.out rfl)
      clear HLM HLF HMP HIM
      generalize lmp b q ⟨hm', hi, hn', hu', hs, he⟩ = q2 at *
      have c3 : w5.cell? ⟨g, 3, none⟩ = some (.int .i64 (o2 : Nat)) := blk_cell HE6.out.i.i.r.blk (rcl_3 HE6.out.i.i.r.z)
      have f3 : w5.frozen? ⟨g, 3, none⟩ = false := blk_frozen 3 HE6.out.i.i.r.blk
      have hse := HE6.out.i.i.r.set3 op (by have := HOD.out; omega)
      have hIs := HE6.out.i.i.rdr hse.1 hse.2
      have HE7 : Hid (EnL w (w5.setCell ⟨g, 3, none⟩ (.int .i64 (op : Nat))) N0 g v b dp op vn #[.int .i64 (hm' : Nat), .int .i64 (hi : Nat), .int .u64 (hn' : Nat), .int .i64 (hu' : Nat), .bool hs] B (.slice a1 nn c1) (.slice a2 nn c2) q2 ks ts ms vx L E) := ⟨HE6.out.i.trans hIs, HE6.out.i.i.keptB HE6.out.h (by decide) hIs.k, HE6.out.l.itg HE6.out.i.i HGW.out hIs, HE6.out.i.i.kown HE6.out.k hIs.k, HE6.out.d⟩
      have HLN : Hid ((∀ s ∈ (lsrt ks ts).map (·.1), s.size ≤ 1000000) ∧ (lsrt ks ts).length ≤ 1000000) := ⟨fun s hs => HKS.out s ((srt_keys ks ts HTK.out).1.mem_iff.1 hs), by rw [srt_len ks ts HTK.out]; have h1 := HJ2.out; have h2 := HBL.out; omega⟩
      clear hse hIs HE6 HM6 HT6
      go_upto_region 10 with fail
      generalize w5.setCell ⟨g, 3, none⟩ (.int .i64 (op : Nat)) = w6 at *
      clear c3 f3
      by_cases h0 : nn = 0
      · subst h0
        have hks0 : ks = [] := List.eq_nil_of_length_eq_zero HNN.out.symm
        have hts0 : ts = [] := List.eq_nil_of_length_eq_zero (by rw [HTK.out, hks0]; rfl)
        subst hks0 hts0
        have HBS := hide (bykSort_none w6 a1 a2 c1 c2 0)
        go_wp2_with fail
        refine HBS.out.mono ?_
        rintro e w7 ⟨rfl, hb7⟩
        have HE8 := hide (HE7.out.next HGW.out hb7)
        have HFN : Hid (EntP w N0 g v b dp op vn LS (.returned (.tuple #[.slice a1 0 c1, .slice a2 0 c2])) w7) := by
          have hl0 : lsrt [] [] = [] := by simp [lsrt]
          exact .inl ⟨_, _, _, _, L, E, HL7.out, rfl, HE8.out.i, by rw [hl0]; exact HE8.out.k, by rw [hl0]; exact HE8.out.l, fun i hi => by rw [hl0] at hi; simp at hi, HLN.out⟩
        clear hb7 HBS HE7 HE8
        go_wp2_with fail
        first
          | exact bodyPost_ret (results_tmp2 (t := 4) (u := 5) rfl _ _ _) rfl HFN.out
          | (go_ret; exact HFN.out)
      · have hkb : ∃ kb, a1 = some ⟨kb, 0, none⟩ := by
          rcases HE7.out.k.2 with ⟨hv, h9⟩ | ⟨g', cap', cur', hv, -⟩
          · have := HNN.out
            omega
          · injection hv with e1 _ _
            exact ⟨g', e1⟩
        have hib : ∃ ib, a2 = some ⟨ib, 0, none⟩ := by
          rcases HE7.out.l.o.2 with ⟨hv, h9⟩ | ⟨g', cap', cur', hv, -⟩
          · have h1 := HNN.out
            have h2 := HTK.out
            omega
          · injection hv with e1 _ _
            exact ⟨g', e1⟩
        obtain ⟨kb, rfl⟩ := hkb
        obtain ⟨ib, rfl⟩ := hib
        have hLl : L.length = ks.length := by rw [HE7.out.l.l, HTK.out]
        have hdz : (ks.zip L).toArray.size = nn := by rw [List.size_toArray, List.length_zip, HNN.out]; omega
        have hki : kb ≠ ib := fun e => own_apart HE7.out.k HE7.out.l.o (by decide) rfl (by rw [e]; rfl)
        have HBY : Hid (Byk w.heap.size kb ib c1 c2 w6 (ks.zip L).toArray) := by
          refine ⟨?_, ?_, fun c hc => HE7.out.l.c _ (List.of_mem_zip (by simpa using hc)).2⟩
          · have h1 := HE7.out.k
            rw [hdz, List.toList_toArray]
            rw [← HNN.out] at h1
            have e : (ks.zip L).map (fun x => Value.string x.1) = ks.map fun s => .string s := by
              have h2 : (ks.zip L).map (·.1) = ks := List.map_fst_zip (by omega)
              conv => rhs; rw [← h2]
              rw [List.map_map]
              rfl
            rw [e]
            exact h1
          · have h1 := HE7.out.l.o
            rw [hdz, List.toList_toArray]
            rw [HTK.out, ← HNN.out] at h1
            have e : (ks.zip L).map (fun x => x.2) = L := List.map_snd_zip (by omega)
            rw [e]
            exact h1
        have HBS := hide (bykSort_any HBY.out hki (by rw [hdz]; have h1 := HJ2.out; have h2 := HBL.out; have h3 := HNN.out; omega))
        rw [hdz] at HBS
        clear hLl hdz hki HBY h0
        go_wp2_with fail
        refine HBS.out.mono ?_
        rintro e w7 ⟨rfl, hP⟩
        obtain ⟨d', hB', hs', hk'⟩ := hP.out
        have HE8 := HE7
        rw [HNN.out] at HE8
        obtain ⟨L', E', hI8, hK8, hL8, hd8⟩ := HE8.out.sorted HGW.out HN0.out HTK.out HND.out hB' hs' hk'
        have HFN : Hid (EntP w N0 g v b dp op vn LS (.returned (.tuple #[.slice (some ⟨kb, 0, none⟩) nn c1, .slice (some ⟨ib, 0, none⟩) nn c2])) w7) := by
          rw [HNN.out]
          exact .inl ⟨_, _, _, _, _, _, HL7.out, rfl, hI8, hK8, hL8, fun i hi r e e2 => hd8 i hi r e (by injection e2 with e2; exact e2.symm), HLN.out⟩
        clear hP hB' hs' hk' HE8 hI8 hK8 hL8 hd8 HE7 HBS
        go_wp2_with fail
        first
          | exact bodyPost_ret (results_tmp2 (t := 4) (u := 5) rfl _ _ _) rfl HFN.out
          | (go_ret; exact HFN.out)
    | true =>
      have HLB := hide (HLM.out rfl)
      have hmq := HMP.out rfl
      rw [hmq] at HE6
      obtain ⟨q1, q2, hq1, hq2, hin'⟩ := HIM.out rfl
      have HQ1 := hide hq1
      have HQ2 := hide hq2
      have HIN := hide hin'
      have HRK : Hid (q < q1 ∧ q1 ≤ b.length ∧ q1 < q2 ∧ q2 ≤ b.length) := by
        have h1 := HRR.out q q1 HJ2.out.2.2.1 hq1
        have h2 := HRR.out q1 q2 h1.2 hq2
        exact ⟨h1.1, h1.2, h2.1, h2.2⟩
      have HFK := hide (key_fol ks ms hq1)
      have hKo := HE6.out.k
      rw [← HNN.out] at hKo
      have HCK := hide (key9_any HE6.out.i.i HT6.out HQ.out HBL.out J HJJ.out HJ2.out.2.2.2 HE6.out.k (by have h1 := HJ2.out; have h2 := HBL.out; omega) HM6.out HMB.out)
      clear hmq hq1 hq2 hin' HLM HLF HMP HIM hKo
      go_wp2_with fail
      refine HCK.out.mono ?_
      rintro e w6 (⟨x, vx7, hx, rfl, h77⟩ | ⟨c, q9, hx, he', hk⟩)
      case inr =>
        as_aux_lemma =>
        rw [hx] at HLB
        have HL7 : Hid (LS = .error (c, q9)) := HLB.out
        have HKE : Hid (Kp (fun q => q = g ∨ vn.ownBlock = some q) w w6) := HE6.out.i.kout hk
        unfold gup at he'
        subst he'
        clear hk hx HCK HLB
        go_wp2_with fail
        exact ⟨rfl, .inr ⟨c, q9, HL7.out, rfl, HKE.out⟩⟩
      have HNW := hide (key_new hx)
      have HZS := hide (key_size hx)
      have HFX := hide (HFK.out.ok x hx)
      rw [hx] at HLB
      obtain ⟨ky, ms1, qx⟩ := x
      have hqx : qx = q1 := HFX.out.1
      subst hqx
      have HMS : Hid (ms1.length ≤ ms.length + 3 * (qx - q)) := HFX.out.2
      have HL7 : Hid (LS = lbind (f qx ms1) fun y => lents f b dp J o2 ⟨hm', hi, hn', hu', hs, he⟩ j' y.2.2 (ks ++ [ky]) (ts ++ [y.1]) y.2.1) := HLB.out
      have HNW2 : Hid (memb ks ky = false) := HNW.out
      have HZS2 : Hid (ky.size ≤ b.length) := HZS.out
      have HE7 := hide (HE6.out.itg HGW.out h77)
      have HM7 := hide (HE6.out.i.i.kmst HM6.out h77.k)
      have HT7 := hide (HT6.out.itg HE6.out.i.i h77)
      have HBW : Hid (w.heap.size ≤ B) := HSZ.out
      clear hx h77 HE6 HM6 HT6 HCK HLB HNW HZS HFX HFK
      simp only []
      go_upto_region 7 with (refine wpList_putS (hgd := by rfl) rfl rfl rfl rfl HM7.out (by have h1 := HZS2.out; have h2 := HBL.out; omega) (by have h1 := HNN.out; have h2 := HJ2.out; have h3 := HBL.out; omega) ?_; intro w7 hM8 hk8)
      have HE8 := hide (HE7.out.mapd HGW.out HN0.out HBW.out HM7.out hk8)
      have HM8 := hide hM8
      have HT8 := hide (HT7.out.kp hk8 (fun r e => by have h1 := HN0.out; have h2 := HBW.out; omega))
      clear hM8 hk8 HE7 HM7 HT7
      have hba := below_alloc4 w7 (.cells #[.string ky] 9)
      have HE9 := hide (HE8.out.next HGW.out hba)
      have HM9 := hide (HM8.out.next hba)
      have HT9 := hide (HT8.out.itg HE8.out.i.i (HE8.out.i.i.next hba))
      have HAS := hide (appS9 HE9.out.k HNN.out (heap_alloc_new w7 (.cells #[.string ky] 9)) (by have h1 := HNN.out; have h2 := HJ2.out; have h3 := HBL.out; omega) (by have h1 := HE9.out.i.k.size; omega))
      clear hba HE8 HM8 HT8
      go_upto_region 8 with (refine HAS.out _ _ _ _ _ _ _ rfl rfl rfl rfl ?_; intro a3 n3 c3 w8 hn3 h6 h7 h8; subst hn3)
      have HE10 := hide (HE9.out.keyd HGW.out HN0.out h6 h7 h8)
      have HM10 := hide (HM9.out.block (h7.block _ HM9.out.lt (fun e => by
        obtain ⟨c9, hc9⟩ := own_block_type HE9.out.k e
        exact HM9.out.nocells hc9 rfl)))
      have HT10 := hide (HT9.out.kp h7 (fun r e => by have h1 := (HE9.out.k.lt r e).1; have h2 := HN0.out; omega))
      clear h6 h7 h8 HE9 HM9 HT9 HAS
      have HCT := hide (HFF.out w8 qx ms1 vx7 q2 HE10.out.i.i HT10.out (by have h1 := HMS.out; have h2 := HJ2.out; have h3 := HRK.out; omega) HQ2.out)
      go_wp2_with fail
      refine HCT.out.mono ?_
      rintro e w9 (⟨x, vx9, c, D, hx, rfl, hI9, hN9, hD9⟩ | ⟨c, q9, hx, he', hk⟩)
      case inr =>
        as_aux_lemma =>
        rw [hx] at HL7
        have HL8 : Hid (LS = .error (c, q9)) := HL7.out
        have HKE : Hid (Kp (fun q => q = g ∨ vn.ownBlock = some q) w w9) := HE10.out.i.kout hk
        unfold gup at he'
        subst he'
        clear hk hx HCT HL7
        go_wp2_with fail
        exact ⟨rfl, .inr ⟨c, q9, HL8.out, rfl, HKE.out⟩⟩
      have HFY := hide ((HGG.out qx ms1 q2 HQ2.out).ok x hx)
      rw [hx] at HL7
      obtain ⟨t, ms2, qy⟩ := x
      have hqy : qy = q2 := HFY.out.1
      subst hqy
      have HMS2 : Hid (ms2.length ≤ ms1.length + 3 * (qy - qx)) := HFY.out.2
      have HL8 : Hid (LS = lents f b dp J o2 ⟨hm', hi, hn', hu', hs, he⟩ j' qy (ks ++ [ky]) (ts ++ [t]) ms2) := HL7.out
      have HE11 := hide (HE10.out.itg HGW.out hI9)
      have HM11 := hide (HE10.out.i.i.kmst HM10.out hI9.k)
      have HT11 := hide (HT10.out.itg HE10.out.i.i hI9)
      have HN11 := hide hN9
      have HO13 := hide hN9.one
      have HD11 := hide hD9
      have HLB6 : Hid ((∀ i, i < ts.length → ∀ q, E i q → q < w8.heap.size) ∧ (∀ q, (Value.slice a2 nn c2).ownBlock = some q → q < w8.heap.size) ∧ (∀ q, (Value.slice a3 (nn + 1) c3).ownBlock = some q → q < w8.heap.size) ∧ w.heap.size ≤ w8.heap.size ∧ B < w8.heap.size) := ⟨fun i hi q e => (HE10.out.l.d i hi q e).2.1, fun q e => (HE10.out.l.o.lt q e).2, fun q e => (HE10.out.k.lt q e).2, HE10.out.i.k.size, HM10.out.lt⟩
      have hba := below_alloc4 w9 (.cells c 41)
      have HBA := hide hba
      have hOA : (w9.alloc (.cells c 41)).ownsRow w.heap.size 41 13 (.slice a2 nn c2) nn (vfl L) := by
        have h1 := (Kp.of_below (S := fun _ => False) hba).owns HE11.out.l.o (fun _ _ e => e)
        rw [HTK.out, ← HNN.out] at h1
        exact h1
      have HAP := hide (appV9 hOA HO13.out (heap_alloc_new w9 (.cells c 41)) (by have h1 := HJ2.out; have h2 := HBL.out; have h3 := HNN.out; omega) (by have h1 := HE11.out.i.k.size; have h2 := hba.size; omega))
      clear hx hI9 hN9 hD9 hba hOA HCT HL7 HFY HE10 HM10 HT10
      go_wp2_with (first
        | (refine wpList_val1 rfl rfl c HO13.out.1 rfl ?_)
        | (refine HAP.out _ _ _ _ _ _ _ rfl rfl rfl rfl ?_; intro a4 n4 c4 w10 hn4 h6 h7 h8; subst hn4))
      have hk68 : Kp (fun q => (Value.slice a2 nn c2).ownBlock = some q) w9 w10 := (Kp.of_below HBA.out).trans h7 (fun _ _ e => e)
      have hE12 := HE11.out.itmd HGW.out HN0.out HN11.out HLB6.out.2.2.2.1 HLB6.out.2.2.2.2 HD11.out HLB6.out.1 HLB6.out.2.1 HLB6.out.2.2.1 (by rw [HTK.out, ← HNN.out]; exact h6) hk68 (h8.imp id (fun h q e => Nat.le_trans HBA.out.size (h q e)))
      have hM12 := HM11.out.block (hk68.block _ HM11.out.lt (fun e => by
        obtain ⟨c9, hc9⟩ := own_block_type HE11.out.l.o e
        exact HM11.out.nocells hc9 rfl))
      have HRA := hide (rat_eq hE12.i.i.r)
      have hln : (ks ++ [ky]).length = nn + 1 := by rw [List.length_append, List.length_singleton, HNN.out]
      have hlt : (ts ++ [t]).length = nn + 1 := by rw [List.length_append, List.length_singleton, HTK.out, HNN.out]
      have HNX : Hid (EnR w w10 N0 g v b dp o2 vn #[.int .i64 (hm' : Nat), .int .i64 (hi : Nat), .int .u64 (hn' : Nat), .int .i64 (hu' : Nat), .bool hs] B J k f ⟨hm', hi, hn', hu', hs, he⟩ LS (.slice a3 (nn + 1) c3) (.slice a4 (nn + 1) c4) (nn + 1) (nn + 1)) := ⟨j', qy, ks ++ [ky], ts ++ [t], ms2, vx9, _, _, pe, putL Lm ky, hE12, by rw [hln]; exact hM12, memb_app HMB.out, by rw [List.nodup_append]; exact ⟨HND.out, by simp, fun a ha c9 hc9 e => by
        rw [List.mem_singleton] at hc9
        have h1 := HNW2.out
        rw [e, hc9] at ha
        rw [memb_iff.2 ha] at h1
        cases h1⟩, HL8.out, by rw [hln]; exact HIN.out, by rw [hln, hlt], by rw [hln]; have h1 := HJ2.out; have h2 := HRK.out; have h3 := HNN.out; omega, by have h1 := HJ2.out; have h2 := HRK.out; omega, by have h1 := HJ2.out; have h2 := HRK.out; have h3 := HMS.out; have h4 := HMS2.out; omega, HT11.out.kp hk68 (fun q e => by have h1 := (HE11.out.l.o.lt q e).1; have h2 := HN0.out; omega), hln.symm, hlt.symm, fun s hs => by
        rcases List.mem_append.1 hs with h | h
        · exact HKS.out s h
        · rw [List.mem_singleton.1 h]
          have h1 := HZS2.out
          have h2 := HBL.out
          omega⟩
      clear hk68 hE12 hM12 hln hlt h6 h7 h8 HAP
      go_roundw
      case rel => repeat (first | exact ⟨⟨_, _, _, _, _, _, rfl, rfl, HNX⟩, rfl⟩ | exact ⟨_, _, _, _, _, _, rfl, rfl, HNX⟩ | exact ⟨⟨_, _, _, _, _, _, rfl, rfl, HNX⟩, rfl, rfl⟩ | apply Exists.intro)
      case measure => have h1 := HRt.out; have h2 := HRA.out; have h3 := HRK.out; have h4 := HJ2.out; omega
end
section
open Go.RowKit Go
theorem near9_zero (w : World) (pw : Int) : Calls Tryz.prog 108 #[.agg #[.int .i64 11, .int .i64 52], .int .u64 ((0 : Nat) : Int), .int .i64 pw] w fun e w' => e = .returned (.int .u64 ((0 : Nat) : Int)) ∧ Below w.heap.size w w' := by
  go_enter Tryz.func108, Tryz.ntmps108
  go_wp2_with fail
  go_ret
  exact ⟨rfl, below_alloc4 w _⟩
theorem finH9 (a : Nat) (ha : a < 31744) : ∃ (N : Nat) (PW : Int), (∀ w, Calls Tryz.prog 109 #[.agg #[.int .i64 5, .int .i64 10], .int .u64 (a : Nat)] w fun e w' => e = .returned (.tuple #[.int .u64 (N : Nat), .int .i64 PW]) ∧ Below w.heap.size w w') ∧ ∀ w, Calls Tryz.prog 108 #[.agg #[.int .i64 11, .int .i64 52], .int .u64 (N : Nat), .int .i64 PW] w fun e w' => e = .returned (.int .u64 (hlfA a : Nat)) ∧ Below w.heap.size w w' := by
  unfold hlfA
  rw [if_pos ha]
  by_cases h0 : a = 0
  · rw [if_pos h0]
    subst h0
    exact ⟨0, -24, fun w => partsS9 w 0 (by omega), fun w => near9_zero w _⟩
  · rw [if_neg h0]
    by_cases h1 : a < 1024
    · rw [if_pos h1]
      exact ⟨a, -24, fun w => partsS9 w a h1, fun w => near9 w a (-24) (by omega) (by omega) (by omega) (by omega)⟩
    · rw [if_neg h1]
      exact ⟨_, _, fun w => partsN9 w a (by omega) ha, fun w => near9 w _ _ (by omega) (by omega) (by omega) (by omega)⟩
theorem or_sign (V : Nat) (hV : V < 9223372036854775808) : bits .or .u64 (V : Int) 9223372036854775808 = ((V + 9223372036854775808 : Nat) : Int) := by
  have h := bits_or_u64_nat V 9223372036854775808 (by omega) (by decide)
  have e : V ||| 9223372036854775808 = V + 9223372036854775808 := by
    have := Nat.two_pow_add_eq_or_of_lt (i := 63) (b := V) (by omega) 1
    rw [Nat.or_comm]
    simpa [Nat.add_comm] using this.symm
  rw [e] at h
  exact h
theorem recast9_any (w : World) (n : Nat) (hn : n < 65536) : Calls Tryz.prog 72 #[.int .u64 (n : Nat), .agg #[.int .i64 5, .int .i64 10], .agg #[.int .i64 11, .int .i64 52]] w fun e w' => e = .returned (.int .u64 (hlf n : Nat)) ∧ Below w.heap.size w w' := by
  obtain ⟨w1, hw1⟩ : ∃ w1, w1 = w.alloc (.cells #[.int .i64 5, .int .i64 10] 135) := ⟨_, rfl⟩
  obtain ⟨w2, hw2⟩ : ∃ w2, w2 = w1.alloc (.cells #[.int .i64 11, .int .i64 52] 135) := ⟨_, rfl⟩
  have hb1 : Below w.heap.size w w1 := hw1 ▸ below_alloc4 w _
  have hb2 : Below w1.heap.size w1 w2 := hw2 ▸ below_alloc4 w1 _
  have hz1 : w1.heap.size = w.heap.size + 1 := by rw [hw1]; simp
  have HB0 : Hid (∀ wy, Below w2.heap.size w2 wy → Below w.heap.size w wy) := fun wy h => hb1.trans ((hb2.trans (h.mono hb2.size)).mono hb1.size)
  have HA1 : Hid (∀ wy, Below w2.heap.size w2 wy → ∀ j u, (#[.int .i64 5, .int .i64 10] : Array Value)[j]? = some u → wy.cell? ⟨w.heap.size, 0 + j, none⟩ = some u) := fun wy h => box_fm hw1 wy ⟨⟨wy, hb2.trans (h.mono hb2.size)⟩, rfl⟩
  have HA2 : Hid (∀ wy, Below w2.heap.size w2 wy → ∀ j u, (#[.int .i64 11, .int .i64 52] : Array Value)[j]? = some u → wy.cell? ⟨w.heap.size + 1, 0 + j, none⟩ = some u) := fun wy h => by rw [← hz1]; exact box_fm hw2 wy ⟨⟨wy, h⟩, rfl⟩
  have HI := hide infoFm
  have HAG : Hid (∀ w, (isAgg 135).run Tryz.prog w = .ok true w) := aggFm
  obtain ⟨m, hm⟩ : ∃ m : Nat, m = n % 32768 := ⟨_, rfl⟩
  have g1 : bits .andNot .u64 (n : Int) 32768 = (m : Int) := by rw [hm]; exact andNot_half n hn
  have HM : Hid (m = n % 32768) := hm
  have HNN := hide hn
  have HBa : Hid (Below w2.heap.size w2 w2) := Below.refl _ _
  have HC1 := hide (HA1.out w2 HBa.out)
  have HSZ : Hid (w1.heap.size = w.heap.size + 1) := hz1
  clear hm hb1 hb2 hn hz1
  go_enter Tryz.func72, Tryz.ntmps72
  go_upto_region 1 with fail
  rw [← hw1, ← hw2]
  clear hw1 hw2
  go_upto_region 2 with (first
    | (refine wpList_aggAt rfl rfl HI.out HAG.out w.heap.size 0 #[.int .i64 5, .int .i64 10] rfl rfl HC1.out ?_)
    | (go_at_call 105; refine (signH9 _).mono ?_; rintro e wa ⟨rfl, hba⟩))
  have HBb : Hid (Below w2.heap.size w2 wa) := HBa.out.trans hba
  have HC2 := hide (HA1.out wa HBb.out)
  clear hba HBa HC1
  by_cases hgt : 31744 < m
  · as_aux_lemma =>
    have c1 : (31744 : Int) < (m : Int) := by omega
    have HR : Hid (hlf n = 9221120237041090560) := hlf_nan (by rw [← HM.out]; exact hgt)
    clear hgt
    go_upto_region 3 with (first
      | (refine wpList_aggAt rfl rfl HI.out HAG.out w.heap.size 0 #[.int .i64 5, .int .i64 10] rfl rfl HC2.out ?_)
      | (go_at_call 106; refine (infH9 _).mono ?_; rintro e wb ⟨rfl, hbb⟩))
    have HBc : Hid (Below w2.heap.size w2 wb) := HBb.out.trans (hbb.mono HBb.out.size)
    have HC3 := hide (HA2.out wb HBc.out)
    clear hbb HBb HC2
    go_wp2_with (first
      | (refine wpList_aggAt rfl rfl HI.out HAG.out (w.heap.size + 1) 0 #[.int .i64 11, .int .i64 52] rfl rfl HC3.out ?_)
      | (go_at_call 107; refine (noneD9 _).mono ?_; rintro e wc ⟨rfl, hbc⟩))
    have HBd : Hid (Below w.heap.size w wc) := HB0.out _ (HBc.out.trans (hbc.mono HBc.out.size))
    go_wp2_with fail
    first
      | exact bodyPost_ret (results_tmp (t := 6) rfl _ _ _) rfl ⟨congrArg (fun z : Nat => Ending.returned (Value.int .u64 (z : Int))) HR.out.symm, HBd.out⟩
      | (go_ret; exact ⟨congrArg (fun z : Nat => Ending.returned (Value.int .u64 (z : Int))) HR.out.symm, HBd.out⟩)
  have c1 : ¬ ((31744 : Int) < (m : Int)) := by omega
  go_upto_region 4 with (first
    | (refine wpList_aggAt rfl rfl HI.out HAG.out w.heap.size 0 #[.int .i64 5, .int .i64 10] rfl rfl HC2.out ?_)
    | (go_at_call 106; refine (infH9 _).mono ?_; rintro e wb ⟨rfl, hbb⟩))
  have HBc : Hid (Below w2.heap.size w2 wb) := HBb.out.trans (hbb.mono HBb.out.size)
  have HC3 := hide (HA2.out wb HBc.out)
  clear hbb HBb HC2 c1
  go_upto_region 5 with (first
    | (refine wpList_aggAt rfl rfl HI.out HAG.out (w.heap.size + 1) 0 #[.int .i64 11, .int .i64 52] rfl rfl HC3.out ?_)
    | (go_at_call 106; refine (infD9 _).mono ?_; rintro e wc ⟨rfl, hbc⟩))
  have HBd : Hid (Below w2.heap.size w2 wc) := HBc.out.trans (hbc.mono HBc.out.size)
  have HC4 := hide (HA1.out wc HBd.out)
  clear hbc HBc HC3
  by_cases hlt : m < 31744
  · as_aux_lemma =>
    have c2 : (m : Int) < 31744 := by omega
    obtain ⟨N, PW, hp, hne⟩ := finH9 m hlt
    have HP := hide hp
    have HNE := hide hne
    obtain ⟨V, hV⟩ : ∃ V, V = hlfA m := ⟨_, rfl⟩
    have HV : Hid (V < 9223372036854775808 ∧ hlf n = V + (if n < 32768 then 0 else 9223372036854775808)) := by
      refine ⟨by rw [hV]; have := hlfA_rng hlt; omega, ?_⟩
      unfold hlf
      rw [← HM.out, if_neg (by omega), hV]
    rw [← hV] at HNE
    clear hp hne hV hlt hgt
    go_upto_region 6 with (first
      | (refine wpList_aggAt rfl rfl HI.out HAG.out w.heap.size 0 #[.int .i64 5, .int .i64 10] rfl rfl HC4.out ?_)
      | (go_at_call 106; refine (infH9 _).mono ?_; rintro e wd ⟨rfl, hbd⟩))
    have HBe : Hid (Below w2.heap.size w2 wd) := HBd.out.trans (hbd.mono HBd.out.size)
    have HC5 : Hid (∀ wq, (∃ t : Ext wd, wq = t.w') → ∀ j u, (#[.int .i64 5, .int .i64 10] : Array Value)[j]? = some u → wq.cell? ⟨w.heap.size, 0 + j, none⟩ = some u) := fun wq ⟨t, ht⟩ => HA1.out wq (ht ▸ HBe.out.trans (t.h.mono HBe.out.size))
    have HC6 : Hid (∀ wq, (∃ t : Ext wd, wq = t.w') → ∀ j u, (#[.int .i64 11, .int .i64 52] : Array Value)[j]? = some u → wq.cell? ⟨w.heap.size + 1, 0 + j, none⟩ = some u) := fun wq ⟨t, ht⟩ => HA2.out wq (ht ▸ HBe.out.trans (t.h.mono HBe.out.size))
    have HX1 : Hid (∀ t : Ext wd, _) := fun t => Calls.ext_below (HP.out t.w')
    have HX2 : Hid (∀ t : Ext wd, _) := fun t => Calls.ext_below (HNE.out t.w')
    clear hbd HBd HC4 HP HNE
    refine region_ext (by kernel_rfl) (by kernel_rfl) ?_
    with_reducible refine wpQuiet_step (fun K hK => ?_)
    refine qstep_exec rfl (.agg #[.int .i64 11, .int .i64 52]) (fun wq hq => exec_aggAt HI.out HAG.out rfl rfl rfl (HC6.out wq hq)) (hK _ ?_)
    clear hK K
    with_reducible refine wpQuiet_step (fun K hK => ?_)
    refine qstep_exec rfl (.agg #[.int .i64 5, .int .i64 10]) (fun wq hq => exec_aggAt HI.out HAG.out rfl rfl rfl (HC5.out wq hq)) (hK _ ?_)
    clear hK K
    with_reducible refine wpQuiet_step (fun K hK => ?_)
    go_simp
    with_reducible refine hK _ ?_
    clear hK K
    with_reducible refine wpQuiet_step (fun K hK => ?_)
    go_simp
    apply Exists.intro
    refine ⟨fun _ => ?_, hK _ ?_⟩
    (go_at_call 109; exact Hid.out HX1 _)
    clear hK K
    with_reducible refine wpQuiet_step (fun K hK => ?_)
    go_simp
    with_reducible refine hK _ ?_
    clear hK K
    with_reducible refine wpQuiet_step (fun K hK => ?_)
    go_simp
    with_reducible refine hK _ ?_
    clear hK K
    with_reducible refine wpQuiet_step (fun K hK => ?_)
    go_simp
    apply Exists.intro
    refine ⟨fun _ => ?_, hK _ ?_⟩
    (go_at_call 108; exact Hid.out HX2 _)
    clear hK K
    with_reducible refine wpQuiet_step (fun K hK => ?_)
    go_simp
    with_reducible refine hK _ ?_
    clear hK K
    refine wpQuiet_nil ?_
    rintro _ ⟨tq, rfl⟩
    have HBf : Hid (Below w2.heap.size w2 tq.w') := HBe.out.trans (tq.h.mono HBe.out.size)
    have HC7 := hide (HA2.out _ HBf.out)
    clear HBe HC5 HC6 HX1 HX2
    generalize tq.w' = we at *
    clear tq
    by_cases hs : n < 32768
    · have c3 : ((m : Int) != (n : Int)) = false := by rw [bne_eq_false_iff_eq]; have := HM.out; omega
      have HR : Hid (hlf n = V) := by show _ = _; rw [HV.out.2, if_pos hs, Nat.add_zero]
      clear hs
      go_wp2_with fail
      first
        | exact bodyPost_ret (results_tmp (t := 6) rfl _ _ _) rfl ⟨congrArg (fun z : Nat => Ending.returned (Value.int .u64 (z : Int))) HR.out.symm, HB0.out _ HBf.out⟩
        | (go_ret; exact ⟨congrArg (fun z : Nat => Ending.returned (Value.int .u64 (z : Int))) HR.out.symm, HB0.out _ HBf.out⟩)
    · have c3 : ((m : Int) != (n : Int)) = true := by rw [bne_iff_ne]; have := HM.out; omega
      have HR : Hid (hlf n = V + 9223372036854775808) := by show _ = _; rw [HV.out.2, if_neg hs]
      have g5 := or_sign V HV.out.1
      clear hs
      go_upto_region 9 with (first
        | (refine wpList_aggAt rfl rfl HI.out HAG.out (w.heap.size + 1) 0 #[.int .i64 11, .int .i64 52] rfl rfl HC7.out ?_)
        | (go_at_call 105; refine (signD9 _).mono ?_; rintro e wf ⟨rfl, hbf⟩))
      have HBg : Hid (Below w.heap.size w wf) := HB0.out _ (HBf.out.trans (hbf.mono HBf.out.size))
      clear hbf
      go_wp2_with fail
      first
        | exact bodyPost_ret (results_tmp (t := 6) rfl _ _ _) rfl ⟨congrArg (fun z : Nat => Ending.returned (Value.int .u64 (z : Int))) HR.out.symm, HBg.out⟩
        | (go_ret; exact ⟨congrArg (fun z : Nat => Ending.returned (Value.int .u64 (z : Int))) HR.out.symm, HBg.out⟩)
  · have c2 : ¬ ((m : Int) < 31744) := by omega
    as_aux_lemma =>
    have hm2 : m = 31744 := by omega
    obtain ⟨V, hV⟩ : ∃ V : Nat, V = 9218868437227405312 := ⟨_, rfl⟩
    have HV : Hid (V < 9223372036854775808 ∧ hlf n = V + (if n < 32768 then 0 else 9223372036854775808)) := by
      refine ⟨by omega, ?_⟩
      unfold hlf
      have hm3 := HM.out
      rw [← hm3, if_neg (by omega), hm2, hV]
      unfold hlfA
      rw [if_neg (by omega)]
    have e0 : (9218868437227405312 : Int) = (V : Int) := by omega
    rw [e0]
    clear e0 hV hlt hgt hm2
    go_upto_region 7 with (first
      | (refine wpList_aggAt rfl rfl HI.out HAG.out w.heap.size 0 #[.int .i64 5, .int .i64 10] rfl rfl HC4.out ?_)
      | (go_at_call 106; refine (infH9 _).mono ?_; rintro e we ⟨rfl, hbd⟩))
    have HBf : Hid (Below w2.heap.size w2 we) := HBd.out.trans (hbd.mono HBd.out.size)
    have HC7 := hide (HA2.out _ HBf.out)
    clear hbd HBd HC4
    by_cases hs : n < 32768
    · have c3 : ((m : Int) != (n : Int)) = false := by rw [bne_eq_false_iff_eq]; have := HM.out; omega
      have HR : Hid (hlf n = V) := by show _ = _; rw [HV.out.2, if_pos hs, Nat.add_zero]
      clear hs
      go_wp2_with fail
      first
        | exact bodyPost_ret (results_tmp (t := 6) rfl _ _ _) rfl ⟨congrArg (fun z : Nat => Ending.returned (Value.int .u64 (z : Int))) HR.out.symm, HB0.out _ HBf.out⟩
        | (go_ret; exact ⟨congrArg (fun z : Nat => Ending.returned (Value.int .u64 (z : Int))) HR.out.symm, HB0.out _ HBf.out⟩)
    · have c3 : ((m : Int) != (n : Int)) = true := by rw [bne_iff_ne]; have := HM.out; omega
      have HR : Hid (hlf n = V + 9223372036854775808) := by show _ = _; rw [HV.out.2, if_neg hs]
      have g5 := or_sign V HV.out.1
      clear hs
      go_upto_region 9 with (first
        | (refine wpList_aggAt rfl rfl HI.out HAG.out (w.heap.size + 1) 0 #[.int .i64 11, .int .i64 52] rfl rfl HC7.out ?_)
        | (go_at_call 105; refine (signD9 _).mono ?_; rintro e wf ⟨rfl, hbf⟩))
      have HBg : Hid (Below w.heap.size w wf) := HB0.out _ (HBf.out.trans (hbf.mono HBf.out.size))
      clear hbf
      go_wp2_with fail
      first
        | exact bodyPost_ret (results_tmp (t := 6) rfl _ _ _) rfl ⟨congrArg (fun z : Nat => Ending.returned (Value.int .u64 (z : Int))) HR.out.symm, HBg.out⟩
        | (go_ret; exact ⟨congrArg (fun z : Nat => Ending.returned (Value.int .u64 (z : Int))) HR.out.symm, HBg.out⟩)
theorem fromHalf9_any (w : World) (n : Nat) (hn : n < 65536) : Calls Tryz.prog 50 #[.int .u16 (n : Nat)] w fun e w' => e = .returned (.float .f64 (hlf n)) ∧ Below w.heap.size w w' := by
  have k1 : IntKind.u64.wrap (n : Int) = (n : Int) := by rw [IntKind.wrap_u64]; omega
  have hfb := frombits_any (hlf n)
  have HRC : Hid (∀ w, _) := fun w => recast9_any w n hn
  clear hn
  go_enter Tryz.func50, Tryz.ntmps50
  go_wp2_with fail
  refine (fmH9 _).mono ?_
  rintro e w1 ⟨rfl, hb1⟩
  go_wp2_with fail
  refine (fmD9 _).mono ?_
  rintro e w2 ⟨rfl, hb2⟩
  have HB2 : Hid (Below w.heap.size w w2) := hb1.trans (hb2.mono hb1.size)
  clear hb1 hb2
  go_wp2_with fail
  refine (HRC.out _).mono ?_
  rintro e w3 ⟨rfl, hb3⟩
  have HB3 : Hid (Below w.heap.size w w3) := HB2.out.trans (hb3.mono HB2.out.size)
  clear hb3 HRC HB2
  go_wp2_with fail
  first
    | exact bodyPost_ret (results_tmp (t := 2) rfl _ _ _) rfl ⟨rfl, HB3.out⟩
    | (go_ret; exact ⟨rfl, HB3.out⟩)
end
end Go.Proofs.YtmcamdcgnegmmaaGreatDoor

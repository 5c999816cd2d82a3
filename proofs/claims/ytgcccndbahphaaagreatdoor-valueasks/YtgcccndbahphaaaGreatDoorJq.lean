import Derived.Test.YtgcccndbahphaaaGreatDoorJn
import Derived.Test.YtgcccndbahphaaaGreatDoorJp
import Derived.Test.YtgcccndbahphaaaGreatDoorJj
import Derived.Test.YtgcccndbahphaaaGreatDoorJo
import Derived.Test.YtgcccndbahphaaaGreatDoorJl
import Derived.Test.YtgcccndbahphaaaGreatDoorJc
import Derived.Test.YtgcccndbahphaaaGreatDoorJd
import Derived.Test.YtgcccndbahphaaaGreatDoorJe
import Derived.Deep.CutBlock
import Derived.Test.YtgcccndbahphaaaGreatDoorJi
import Derived.Lib.ValidLaws
import Derived.Test.YtgcccndbahphaaaGreatDoorJb
namespace Go.Proofs.YtgcccndbahphaaaGreatDoor
section
open Go.RowKit Go
set_option maxRecDepth 1000000 in
set_option maxHeartbeats 2000000 in
theorem finds_any (t : Tv) (key : ByteArray) (w : World) (base B : Nat) (C : Array Value) (f : Fin 4 → Fs) (tt d u : Nat) (cx cv : Array Value) (h : Bkq w base B C f tt d u) (hx : Tin w t cx) (hv : Tin w t cv) (hT : Trk t) (hm : tmuch t ≤ 60000) (htt : tt + 6 * tmuch t < 68719476736) :
    Calls Tryz.prog 11 #[.agg cx, .agg cv, .string key, .pointer (some ⟨B, 0, none⟩)] w fun e w' => e = .returned (.bool true) ∧ Hid (∃ n, n ≤ 6 * tmuch t ∧ Ps w base B f tt d n w') := by
  have HB := hide h
  have HX := hide hx
  have HV := hide hv
  have HT := hide hT
  have HM := hide hm
  have HTT := hide htt
  have HSX := hide hx.size13
  have HSV := hide hv.size13
  have HKL : Hid (t.k = 9 → t.ks.length = t.is.length) := fun e => (hT.m e).1
  have HBL : Hid (∀ q, Ft4 B f q → q < w.heap.size) := fun q e => (h.lt q e).2
  have HBS : Hid (base ≤ w.heap.size) := h.sz
  have HQ := hide (Sq.start h cx cv)
  have HVX := hide HQ.out.vx
  clear h hx hv hT hm htt
  go_enter Tryz.func11, Tryz.ntmps11
  go_wp2_with (refine wpList_valAt rfl rfl w.heap.size 0 cx rfl HSX.out HVX.out ?_)
  clear HVX
  generalize (w.alloc (.cells cx 55)).alloc (.cells cv 55) = w0 at *
  have HZ0 := hide HQ.out.z
  refine (find6V_any t key w0 cx (HX.out.move (keep_below HQ.out.b)) HKL.out (by have := HM.out; omega)).mono ?_
  rintro e w1 ⟨b1, s1, c1, rfl, hr, hn, hb⟩
  have HR1 := hide hr
  have HL1 : Hid (w0.heap.size ≤ w1.heap.size) := hb.size
  replace HQ := hide ((HQ.out.next hb).next (itm_mk w1 c1).b)
  have HV1 := hide (Vn.start hn)
  have HS1 := hide hn.size
  have HA := hide hn.tin.all1
  have HG := hide (heap_alloc_new w1 (.cells zv 55))
  have HIN : Hid ((Tryz.prog.info? 55).map (·.size) = some c1.size) := by show _ = _; rw [HS1.out]; exact infoV
  have HZV : Hid (zv.size = c1.size) := by show _ = _; rw [HS1.out]; rfl
  have HVX := hide HQ.out.vx
  clear hr hn hb
  go_wp2_with (first
    | (refine wpList_storeRow rfl rfl w1.heap.size zv c1 55 rfl rfl HG.out HIN.out HZV.out HA.out ?_)
    | (refine wpList_valAt rfl rfl w.heap.size 0 cx rfl HSX.out HVX.out ?_))
  clear HG HIN HZV HA HVX
  unfold zv at HQ HV1
  generalize (w1.alloc (.cells #[.int .i64 0, .bool false, .bool false, .int .u64 0, .int .u64 0, .string ⟨#[]⟩, .slice none 0 0, .int .i64 0, .int .u64 0, .int .u64 0, .string ⟨#[]⟩, .slice none 0 0, .slice none 0 0] 55)).setRow w1.heap.size c1 = v1 at *
  have HB1 : Hid (w1.heap.size < v1.heap.size) := blk_lt HV1.out.x
  refine (find6V_any t key v1 cx (HX.out.move (keep_below HQ.out.b)) HKL.out (by have := HM.out; omega)).mono ?_
  rintro e w2 ⟨b2, s2, c2, rfl, hr, hn, hb⟩
  have HR2 := hide hr
  have HL2 : Hid (v1.heap.size ≤ w2.heap.size) := hb.size
  replace HQ := hide ((HQ.out.next hb).next (itm_mk w2 c2).b)
  replace HV1 := hide ((HV1.out.next hb).next (itm_mk w2 c2).b)
  have HV2 := hide (Vn.start hn)
  have HS2 := hide hn.size
  have HA := hide hn.tin.all1
  have HG := hide (heap_alloc_new w2 (.cells zv 55))
  have HIN : Hid ((Tryz.prog.info? 55).map (·.size) = some c2.size) := by show _ = _; rw [HS2.out]; exact infoV
  have HZV : Hid (zv.size = c2.size) := by show _ = _; rw [HS2.out]; rfl
  have HVX := hide HQ.out.vv
  clear hr hn hb
  go_wp2_with (first
    | (refine wpList_storeRow rfl rfl w2.heap.size zv c2 55 rfl rfl HG.out HIN.out HZV.out HA.out ?_)
    | (refine wpList_valAt rfl rfl (w.heap.size + 1) 0 cv rfl HSV.out HVX.out ?_))
  clear HG HIN HZV HA HVX
  unfold zv at HQ HV1 HV2
  generalize (w2.alloc (.cells #[.int .i64 0, .bool false, .bool false, .int .u64 0, .int .u64 0, .string ⟨#[]⟩, .slice none 0 0, .int .i64 0, .int .u64 0, .int .u64 0, .string ⟨#[]⟩, .slice none 0 0, .slice none 0 0] 55)).setRow w2.heap.size c2 = v2 at *
  have HB2 : Hid (w2.heap.size < v2.heap.size) := blk_lt HV2.out.x
  refine (rfind_any t key v2 cv (HV.out.move (keep_below HQ.out.b)) HKL.out (by have := HM.out; omega)).mono ?_
  rintro e w3 ⟨b3, s3, c3, rfl, hr, hn, hb⟩
  have HR3 := hide hr
  have HL3 : Hid (v2.heap.size ≤ w3.heap.size) := hb.size
  replace HQ := hide ((HQ.out.next hb).next (itm_mk w3 c3).b)
  replace HV1 := hide ((HV1.out.next hb).next (itm_mk w3 c3).b)
  replace HV2 := hide ((HV2.out.next hb).next (itm_mk w3 c3).b)
  have HV3 := hide (Vw.start (Wq.of_ntv hn) hb.size)
  have HS3 := hide hn.tin.size13
  have HA := hide hn.tin.all1
  have HG := hide (heap_alloc_new w3 (.cells zv 55))
  have HIN : Hid ((Tryz.prog.info? 55).map (·.size) = some c3.size) := by show _ = _; rw [HS3.out]; exact infoV
  have HZV : Hid (zv.size = c3.size) := by show _ = _; rw [HS3.out]; rfl
  clear hr hn hb
  obtain ⟨rfl, rfl⟩ := FdV.one HR1.out HR2.out
  obtain ⟨rfl, rfl⟩ := FdV.one HR2.out HR3.out
  have HMU : Hid (tmuch s3 ≤ tmuch t) := HR3.out.much
  have gb : (b3 != b3) = false := by cases b3 <;> rfl
  have HC1 := hide HV1.out.cells
  have HC3 := hide HV3.out.cells
  go_wp2_with (first
    | (refine wpList_storeRow rfl rfl w3.heap.size zv c3 55 rfl rfl HG.out HIN.out HZV.out HA.out ?_)
    | (refine wpList_valAt rfl rfl w1.heap.size 0 c1 rfl HS1.out HC1.out ?_)
    | (refine wpList_valAt rfl rfl w3.heap.size 0 c3 rfl HS3.out HC3.out ?_))
  clear HG HIN HZV HA HC1 HC3
  unfold zv at HQ HV1 HV2 HV3
  generalize (w3.alloc (.cells #[.int .i64 0, .bool false, .bool false, .int .u64 0, .int .u64 0, .string ⟨#[]⟩, .slice none 0 0, .int .i64 0, .int .u64 0, .int .u64 0, .string ⟨#[]⟩, .slice none 0 0, .slice none 0 0] 55)).setRow w3.heap.size c3 = v3 at *
  have HB3 : Hid (w3.heap.size < v3.heap.size) := blk_lt HV3.out.x
  refine (eqValue_any s3 s3 true (by simp) v3 c1 c3 HV1.out.tin HV3.out.tin).mono ?_
  rintro e v4 ⟨rfl, hb⟩
  have HL4 : Hid (v3.heap.size ≤ v4.heap.size) := hb.size
  replace HQ := hide (HQ.out.next hb)
  replace HV1 := hide (HV1.out.next hb)
  replace HV2 := hide (HV2.out.next hb)
  replace HV3 := hide (HV3.out.next hb)
  have HC1 := hide HV1.out.cells
  clear hb
  go_wp2_with (refine wpList_valAt rfl rfl w1.heap.size 0 c1 rfl HS1.out HC1.out ?_)
  clear HC1
  have hz0 := HZ0.out
  have hz1 := HL1.out
  have hz2 := HB1.out
  have hz3 := HL2.out
  have hz4 := HB2.out
  have hz5 := HL3.out
  have hz6 := HBS.out
  have hz7 := HMU.out
  have hz8 := HM.out
  have hz9 := HTT.out
  have hz10 := blk_lt HV1.out.x
  have hz11 := blk_lt HV2.out.x
  have hz12 := blk_lt HV3.out.x
  refine ((bvalue_any s3) v4 base B C f tt d u (fun q => w0.heap.size ≤ q ∧ q < w1.heap.size) c1 HQ.out.bk (Nos.ots (Nos.base (Nor.nos HV1.out.n) (by omega))) (fun q e => ⟨by have h1 := e.1; have h2 := e.2; omega, fun e2 => by have h1 := e.1; have h2 := e.2; have := HBL.out q e2; omega⟩) (by omega) (by omega)).mono ?_
  rintro e v5 ⟨rfl, hP⟩
  obtain ⟨n1, hn1, C1, f1, u1, hB1, hk1, hf1⟩ := hP.out
  have HN1 := hide hn1
  have HP1 := hide hB1
  have HK1 := hide hk1
  have HF1 := hide hf1
  replace HV2 := hide (HV2.out.kp hk1 (fun q h1 h2 e => by rcases e with e | e; (have := HBL.out q e; omega); omega) (fun e => by rcases e with e | e; (have := HBL.out _ e; omega); omega))
  replace HV3 := hide (HV3.out.kp hk1 (fun q e => by rcases e with e | e; (have := HBL.out q e; omega); omega))
  have HC2 := hide HV2.out.cells
  have HC3 := hide HV3.out.cells
  have HK0 : Hid (Kp (fun q => Ft4 B f q ∨ False) w v4) := Kp.mono (S := fun _ => False) ⟨HQ.out.b.os, HQ.out.b.tape, HQ.out.b.output, HQ.out.b.size, fun k hk _ => HQ.out.b.block k hk⟩ (fun _ _ e => e.elim)
  clear hP hn1 hB1 hk1 hf1 HQ HV1
  clear hz0 hz1 hz2 hz3 hz4 hz5 hz6 hz7 hz8 hz9 hz10 hz11 hz12
  go_wp2_with (first
    | (refine wpList_valAt rfl rfl w2.heap.size 0 c2 rfl HS2.out HC2.out ?_)
    | (refine wpList_valAt rfl rfl w3.heap.size 0 c3 rfl HS3.out HC3.out ?_))
  clear HC2 HC3
  refine (eqValue_any s3 s3 true (by simp) v5 c2 c3 HV2.out.tin HV3.out.tin).mono ?_
  rintro e v6 ⟨rfl, hb⟩
  replace HV2 := hide (HV2.out.next hb)
  have HP2 := hide (HP1.out.next hb)
  have HK2 : Hid (Kp (fun q => Ft4 B f q ∨ (w0.heap.size ≤ q ∧ q < w1.heap.size)) v4 v6) := HK1.out.trans (Kp.of_below (S := fun _ => False) hb) (fun _ _ e => e.elim)
  have HC2 := hide HV2.out.cells
  clear hb HK1 HP1
  go_wp2_with (refine wpList_valAt rfl rfl w2.heap.size 0 c2 rfl HS2.out HC2.out ?_)
  clear HC2
  have hz0 := HZ0.out
  have hz1 := HL1.out
  have hz2 := HB1.out
  have hz3 := HL2.out
  have hz4 := HB2.out
  have hz5 := HL3.out
  have hz6 := HBS.out
  have hz7 := HMU.out
  have hz8 := HM.out
  have hz9 := HTT.out
  have hz11 := blk_lt HV2.out.x
  have hz12 := HN1.out
  have hz13 := HL4.out
  have hz14 := HK0.out.size
  have hz15 := HK2.out.size
  have hz16 := HB3.out
  refine ((bvalue_any s3) v6 base B C1 f1 (tt + n1) d u1 (fun q => v1.heap.size ≤ q ∧ q < w2.heap.size) c2 HP2.out (Nos.ots (Nos.base (Nor.nos HV2.out.n) (by omega))) (fun q e => ⟨by have h1 := e.1; have h2 := e.2; omega, fun e2 => by have h1 := e.1; have h2 := e.2; rcases HF1.out q e2 with e3 | e3 | e3; (have := HBL.out q e3; omega); omega; omega⟩) (by omega) (by omega)).mono ?_
  rintro e v7 ⟨rfl, hP⟩
  obtain ⟨n2, hn2, hp2⟩ := hP.out
  have HN2 := hide hn2
  have HE : Hid (Ps w base B f tt d (n1 + n2) v7) := Ps.put (HK0.out.trans HK2.out (fun k hk e => by rcases e with e | e; exact .inl e; omega)) (fun q e => by rcases HF1.out q e with e | e | e; exact .inl e; exact .inr (.inr (by omega)); exact .inr (.inr (by omega))) hp2 (fun q e => by have h1 := e.1; have h2 := e.2; omega)
  clear hP hn2 hp2
  clear hz0 hz1 hz2 hz3 hz4 hz5 hz6 hz7 hz8 hz9 hz11 hz12 hz13 hz14 hz15 hz16
  go_wp2_with fail
  go_ret
  exact ⟨rfl, _, by have := HN1.out; have := HN2.out; have := HMU.out; omega, HE.out⟩
end
section
open Go.RowKit Go
set_option maxRecDepth 1000000 in
set_option maxHeartbeats 1000000 in
theorem keys_any (t : Tv) (R : Bool) (hR : R = true ↔ (t.ks.length = t.is.length ∧ t.ks.Nodup)) (w : World) (cs : Array Value) (ht : Tin w t cs) (hn : t.ks.length ≤ 100000) : Calls Tryz.prog 120 #[.agg cs] w fun e w' => e = .returned (.bool R) ∧ Below w.heap.size w w' := by
  have HR := hide hR
  obtain ⟨vy, vk, vi, rfl, hy, hk, hv, hb⟩ := ht.parts
  have HKS := hide hk
  obtain ⟨⟨ak, ck, rfl, _, hkf⟩, hkm, _⟩ := hk
  obtain ⟨⟨ai, ci, rfl, _, _⟩, _⟩ := hv
  have HKF := hide hkf
  have HCK : Hid ((vcs t vy (.slice ak t.ks.length ck) (.slice ai t.is.length ci))[11]? = some (.slice ak t.ks.length ck)) := rfl
  have HCI : Hid ((vcs t vy (.slice ak t.ks.length ck) (.slice ai t.is.length ci))[12]? = some (.slice ai t.is.length ci)) := rfl
  generalize vcs t vy (.slice ak t.ks.length ck) (.slice ai t.is.length ci) = cs at *
  clear hR ht hy hkf hb
  have HQ0 : Hid (Aln w (w.alloc (.cells cs 55)) cs) := box_mk0 w _
  have q11 : (w.alloc (.cells cs 55)).cell? ⟨w.heap.size, 11, none⟩ = some (.slice ak t.ks.length ck) := blk_cell HQ0.out.2 HCK.out
  have q12 : (w.alloc (.cells cs 55)).cell? ⟨w.heap.size, 12, none⟩ = some (.slice ai t.is.length ci) := blk_cell HQ0.out.2 HCI.out
  go_enter Tryz.func120, Tryz.ntmps120
  by_cases hl : t.ks.length = t.is.length
  case neg => as_aux_lemma =>
    have HT : Hid (R = false) := r_no HR.out (fun h => hl h.1)
    have g0 : ((t.ks.length : Int) != (t.is.length : Int)) = true := by rw [nat_ne]; simp [hl]
    clear hl
    go_wp2_with fail
    go_ret
    exact ⟨by rw [HT.out]; rfl, HQ0.out.1⟩
  have g0 : ((t.ks.length : Int) != (t.is.length : Int)) = false := by rw [nat_ne]; simp [hl]
  have HL := hide hl
  clear hl
  go_wp2_with fail
  refine (orderR_any t.ks _ _ (HKS.out.move (keep_below HQ0.out.1)) hn).mono ?_
  rintro e w2 ⟨v, ps, rfl, hsp, ho, hb2⟩
  have HSP := hide hsp
  have hpl : ps.length ≤ 100000 := by have := hsp.len; omega
  have hi2 := ISl.own ho rfl (by omega)
  obtain ⟨⟨pa, pc, rfl, _, hpf⟩, _⟩ := hi2
  have HPF := hide hpf
  have HW2 := hide (HQ0.out.next hb2)
  clear hsp ho hb2 hpf HQ0 q11 q12
  go_wp2_with fail
  go_loopw [4] (fun ii wx => ∃ k : Nat, k ≤ ps.length ∧ ii = .int .i64 ((k : Int) + 1) ∧ Hid (∀ (j p q : Nat), j < k → ps[j]? = some p → ps[j + 1]? = some q → t.ks.getD p ⟨#[]⟩ ≠ t.ks.getD q ⟨#[]⟩) ∧ Hid (Below w2.heap.size w2 wx)) (fun ii _ => ps.length + 1 - (intOf ii).toNat)
  case atStart => exact ⟨0, by omega, rfl, fun j p q hj => absurd hj (by omega), Below.refl _ _⟩
  case round =>
    obtain ⟨k, hk1, rfl, HI, HBw⟩ := hrel
    have x1 : wr.cell? ⟨w.heap.size, 11, none⟩ = some (.slice ak t.ks.length ck) := keep_below HBw.out _ _ (blk_cell HW2.out.2 HCK.out)
    by_cases hlt : k + 1 < ps.length
    · have g1 : (k : Int) + 1 < (ps.length : Int) := by omega
      obtain ⟨p, hp⟩ : ∃ p, ps[k]? = some p := ⟨ps[k], List.getElem?_eq_getElem (by omega)⟩
      obtain ⟨q, hq⟩ : ∃ p, ps[k + 1]? = some p := ⟨ps[k + 1], List.getElem?_eq_getElem hlt⟩
      have l1 := HSP.out.lt p (List.mem_of_getElem? hp)
      have l2 := HSP.out.lt q (List.mem_of_getElem? hq)
      obtain ⟨b1, off1, rfl, hc1⟩ := HPF.out.resolve_left (fun h => by rw [h] at hlt; simp at hlt)
      obtain ⟨b2, off2, rfl, hc2⟩ := HKF.out.resolve_left (fun h => by rw [h] at l1; simp at l1)
      have hkw : ∀ a x, w.cell? a = some x → wr.cell? a = some x := fun a x h => keep_below HBw.out _ _ (keep_below HW2.out.1 _ _ h)
      have c1 : wr.cell? ⟨b1, off1 + k, none⟩ = some (.int .i64 (p : Nat)) := keep_below HBw.out _ _ (hc1 k p hp)
      have c2 : wr.cell? ⟨b1, off1 + (k + 1), none⟩ = some (.int .i64 (q : Nat)) := keep_below HBw.out _ _ (hc1 (k + 1) q hq)
      have s1 : wr.cell? ⟨b2, off2 + p, none⟩ = some (.string (t.ks.getD p ⟨#[]⟩)) := hkw _ _ (hc2 p _ (by simp [List.getD, List.getElem?_eq_getElem l1]))
      have s2 : wr.cell? ⟨b2, off2 + q, none⟩ = some (.string (t.ks.getD q ⟨#[]⟩)) := hkw _ _ (hc2 q _ (by simp [List.getD, List.getElem?_eq_getElem l2]))
      have g3 : (k : Int) < (ps.length : Int) := by omega
      have g4 : (p : Int) < (t.ks.length : Int) := by omega
      have g5 : (q : Int) < (t.ks.length : Int) := by omega
      clear hc1 hc2 hkw
      by_cases he : t.ks.getD p ⟨#[]⟩ = t.ks.getD q ⟨#[]⟩
      · as_aux_lemma =>
        have HT : Hid (R = false) := r_no HR.out (fun h => dup_adj HSP.out hp hq he h.2)
        have hne : ((t.ks.getD q ⟨#[]⟩).toList == (t.ks.getD p ⟨#[]⟩).toList) = true := by rw [he]; simp
        clear hp hq he HI
        generalize t.ks.getD p ⟨#[]⟩ = k1 at *
        generalize t.ks.getD q ⟨#[]⟩ = k2 at *
        go_wp2_with fail
        go_quiet (fail)
        go_wp2_with fail
        go_ret
        exact ⟨by rw [HT.out]; rfl, HW2.out.1.trans ((HBw.out.trans ((((Kp.refl (fun _ => False) wr).drewN _).below (Nat.le_refl _) (fun _ h => h.elim)).mono HBw.out.size)).mono HW2.out.1.size)⟩
      · as_aux_lemma =>
        have hne : ((t.ks.getD q ⟨#[]⟩).toList == (t.ks.getD p ⟨#[]⟩).toList) = false := str_beq_no (fun h => he h.symm)
        have HI2 : Hid (∀ (j p q : Nat), j < k + 1 → ps[j]? = some p → ps[j + 1]? = some q → t.ks.getD p ⟨#[]⟩ ≠ t.ks.getD q ⟨#[]⟩) := fun j p' q' hj h1 h2 => by
          by_cases hjk : j = k
          · subst hjk
            rw [hp] at h1
            rw [hq] at h2
            injection h1 with h1
            injection h2 with h2
            subst h1 h2
            exact he
          · exact HI.out j p' q' (by omega) h1 h2
        clear hp hq he HI
        generalize t.ks.getD p ⟨#[]⟩ = k1 at *
        generalize t.ks.getD q ⟨#[]⟩ = k2 at *
        go_wp2_with fail
        go_quiet (fail)
        go_wp2_with fail
        have HB2 : Hid (Below w2.heap.size w2 (wr.drewN nq)) := HBw.out.trans ((((Kp.refl (fun _ => False) wr).drewN _).below (Nat.le_refl _) (fun _ h => h.elim)).mono HBw.out.size)
        go_roundw
        case rel => exact ⟨k + 1, by omega, by go_num, HI2, HB2⟩
        case measure => simp [intOf]; omega
    · as_aux_lemma =>
      have g1 : ¬ (k : Int) + 1 < (ps.length : Int) := by omega
      have HT : Hid (R = true) := HR.out.2 ⟨HL.out, nodup_adj HSP.out (fun j p q h1 h2 => HI.out j p q (by have := (List.getElem?_eq_some_iff.1 h2).1; omega) h1 h2)⟩
      go_wp2_with fail
      go_ret
      exact ⟨by rw [HT.out]; rfl, HW2.out.1.trans (HBw.out.mono HW2.out.1.size)⟩
end
section
open Go.RowKit Go
/-- How many bytes a code point's first byte asks for; the bounds of the second. -/
def un (c : Nat) : Nat := if 194 ≤ c ∧ c ≤ 223 then 2 else if 224 ≤ c ∧ c ≤ 239 then 3 else if 240 ≤ c ∧ c ≤ 244 then 4 else 0
def ulo (c : Nat) : Nat := if c = 240 then 144 else if c = 224 then 160 else 128
def uhi (c : Nat) : Nat := if c = 244 then 143 else if c = 237 then 159 else 191
/-- How many bytes the code point at the front has; 0: there is none. -/
def uone (b : List Nat) : Nat := match b with
  | [] => 0
  | c :: r => if c < 128 then 1
    else if un c = 0 ∨ b.length < un c ∨ r.getD 0 0 < ulo c ∨ uhi c < r.getD 0 0 then 0
    else if ((b.take (un c)).drop 2).all (fun x => decide (128 ≤ x) && decide (x ≤ 191)) then un c else 0
theorem un_le (c : Nat) : un c ≤ 4 := by
  unfold un
  split
  · omega
  · split
    · omega
    · split <;> omega
theorem un_ge (c : Nat) : un c = 0 ∨ 2 ≤ un c := by
  unfold un
  split
  · omega
  · split
    · omega
    · split <;> omega
theorem drop_take2 (B : List Nat) : (B.take 2).drop 2 = [] := List.drop_of_length_le (by rw [List.length_take]; omega)
theorem take_drop2 {B : List Nat} {i : Nat} (h2 : 2 ≤ i) (hi : i < B.length) : (B.take (i + 1)).drop 2 = (B.take i).drop 2 ++ [B.getD i 0] := by
  rw [take_at B i hi, List.drop_append_of_le_length (by rw [List.length_take]; omega)]
theorem mem_take_drop2 {B : List Nat} {i n : Nat} (h2 : 2 ≤ i) (hn : i < n) (hi : i < B.length) : B.getD i 0 ∈ (B.take n).drop 2 := by
  rw [List.mem_iff_getElem?]
  refine ⟨i - 2, ?_⟩
  rw [List.getElem?_drop, show 2 + (i - 2) = i by omega, List.getElem?_take_of_lt hn, List.getD_eq_getElem?_getD, List.getElem?_eq_getElem hi]
  rfl
set_option maxRecDepth 1000000 in
set_option maxHeartbeats 1000000 in
theorem one6_any (w : World) (s : ByteArray) (hs : s.size ≤ 9223372036854775807) : Calls Tryz.prog 134 #[.string s] w fun e w' => e = .returned (.int .i64 (uone (sl s) : Nat)) ∧ w' = w := by
  have HSL := hide (sl_len s)
  have HAT := hide (fun i h => sl_at s i h)
  go_enter Tryz.func134, Tryz.ntmps134
  cases hsl : sl s with
  | nil =>
    as_aux_lemma =>
    have hz : s.size = 0 := by rw [← HSL.out, hsl]; rfl
    have g0 : ((s.size : Int) == 0) = true := beq_iff_eq.2 (by omega)
    clear hz hsl
    go_wp2_with fail
    go_ret
    exact ⟨rfl, rfl⟩
  | cons c r =>
    have hz : s.size = r.length + 1 := by rw [← HSL.out, hsl]; rfl
    have g0 : ((s.size : Int) == 0) = false := beq_eq_false_iff_ne.2 (by omega)
    have gp : (0 : Int) < (s.size : Int) := by omega
    have h0 : 0 < s.size := by omega
    have HC : Hid (s[0].toNat = c) := by
      have h := HAT.out 0 h0
      rw [hsl] at h
      exact h.symm
    have HU : Hid (uone (c :: r) = if c < 128 then 1 else if un c = 0 ∨ s.size < un c ∨ r.getD 0 0 < ulo c ∨ uhi c < r.getD 0 0 then 0 else if (((c :: r).take (un c)).drop 2).all (fun x => decide (128 ≤ x) && decide (x ≤ 191)) then un c else 0) := by
      show _ = _
      unfold uone
      rw [hz]
      rfl
    have HSX := hide hsl
    have hc6 : s[0].toNat < 256 := (s[0]).toNat_lt
    have HZ := hide hz
    clear hz
    by_cases h128 : c < 128
    · as_aux_lemma =>
      rw [if_pos h128] at HU
      have g1 : (s[0].toNat : Int) < 128 := by have := HC.out; omega
      clear h128 hsl
      go_wp2_with fail
      go_ret
      exact ⟨by rw [HU.out]; rfl, rfl⟩
    · rw [if_neg h128] at HU
      have g1 : ¬ (s[0].toNat : Int) < 128 := by have := HC.out; omega
      have HC8 : Hid (¬ c < 128) := h128
      clear h128 hsl
      go_upto_block 0 with fail
      go_cut [4] (fun nn wx => nn = .int .i64 (un c : Nat) ∧ wx = w)
      case first => as_aux_lemma =>
        by_cases a1 : 194 ≤ s[0].toNat
        · have k1 : (194 : Int) ≤ (s[0].toNat : Int) := by omega
          by_cases a2 : s[0].toNat ≤ 223
          · have k2 : (s[0].toNat : Int) ≤ 223 := by omega
            have HN : Hid (un c = 2) := by show _ = _; rw [← HC.out]; exact if_pos ⟨a1, a2⟩
            go_wp2_with fail
            go_meet
            case rel => exact ⟨by rw [HN.out]; rfl, rfl⟩
          · have k2 : ¬ (s[0].toNat : Int) ≤ 223 := by omega
            have k3 : (224 : Int) ≤ (s[0].toNat : Int) := by omega
            by_cases a3 : s[0].toNat ≤ 239
            · have k4 : (s[0].toNat : Int) ≤ 239 := by omega
              have HN : Hid (un c = 3) := by show _ = _; rw [← HC.out]; unfold un; rw [if_neg (by omega), if_pos (by omega)]
              go_wp2_with fail
              go_meet
              case rel => exact ⟨by rw [HN.out]; rfl, rfl⟩
            · have k4 : ¬ (s[0].toNat : Int) ≤ 239 := by omega
              have k5 : (240 : Int) ≤ (s[0].toNat : Int) := by omega
              by_cases a4 : s[0].toNat ≤ 244
              · have k6 : (s[0].toNat : Int) ≤ 244 := by omega
                have HN : Hid (un c = 4) := by show _ = _; rw [← HC.out]; unfold un; rw [if_neg (by omega), if_neg (by omega), if_pos (by omega)]
                go_wp2_with fail
                go_meet
                case rel => exact ⟨by rw [HN.out]; rfl, rfl⟩
              · have k6 : ¬ (s[0].toNat : Int) ≤ 244 := by omega
                have HN : Hid (un c = 0) := by show _ = _; rw [← HC.out]; unfold un; rw [if_neg (by omega), if_neg (by omega), if_neg (by omega)]
                go_wp2_with fail
                go_meet
                case rel => exact ⟨by rw [HN.out]; rfl, rfl⟩
        · have k1 : ¬ (194 : Int) ≤ (s[0].toNat : Int) := by omega
          have k2 : ¬ (224 : Int) ≤ (s[0].toNat : Int) := by omega
          have k3 : ¬ (240 : Int) ≤ (s[0].toNat : Int) := by omega
          have HN : Hid (un c = 0) := by show _ = _; rw [← HC.out]; unfold un; rw [if_neg (by omega), if_neg (by omega), if_neg (by omega)]
          go_wp2_with fail
          go_meet
          case rel => exact ⟨by rw [HN.out]; rfl, rfl⟩
      case rest => as_aux_lemma =>
        obtain ⟨hnn, hww⟩ := hcut
        have hww := hww.symm
        subst hww
        have hu4 := un_le c
        generalize hun : un c = n at *
        have HUN := hide hun
        clear hun
        subst hnn
        go_upto_if 37 with fail
        go_cut [5] (fun ll wx => ∃ zz : Nat, ll = .int .u8 (zz : Nat) ∧ zz < 256 ∧ Hid (zz = if c = 224 then 160 else 128) ∧ wx = w)
        case first => as_aux_lemma =>
          by_cases a1 : s[0].toNat = 224
          · have k1 : ((s[0].toNat : Int) == 224) = true := beq_iff_eq.2 (by omega)
            have HN : Hid (160 = if c = 224 then 160 else 128) := by show _ = _; rw [← HC.out, if_pos a1]
            clear a1
            go_wp2_with fail
            go_meet
            case rel => exact ⟨160, rfl, by omega, HN, rfl⟩
          · have k1 : ((s[0].toNat : Int) == 224) = false := beq_eq_false_iff_ne.2 (by omega)
            have HN : Hid (128 = if c = 224 then 160 else 128) := by show _ = _; rw [← HC.out, if_neg a1]
            clear a1
            go_wp2_with fail
            go_meet
            case rel => exact ⟨128, rfl, by omega, HN, rfl⟩
        case rest => as_aux_lemma =>
          obtain ⟨l1, rfl, hl1, Hl1, hww⟩ := hcut
          have hww := hww.symm
          subst hww
          go_upto_if 39 with fail
          go_cut [6] (fun ll wx => ∃ zz : Nat, ll = .int .u8 (zz : Nat) ∧ zz < 256 ∧ Hid (zz = if c = 237 then 159 else 191) ∧ wx = w)
          case first => as_aux_lemma =>
            by_cases a1 : s[0].toNat = 237
            · have k1 : ((s[0].toNat : Int) == 237) = true := beq_iff_eq.2 (by omega)
              have HN : Hid (159 = if c = 237 then 159 else 191) := by show _ = _; rw [← HC.out, if_pos a1]
              clear a1
              go_wp2_with fail
              go_meet
              case rel => exact ⟨159, rfl, by omega, HN, rfl⟩
            · have k1 : ((s[0].toNat : Int) == 237) = false := beq_eq_false_iff_ne.2 (by omega)
              have HN : Hid (191 = if c = 237 then 159 else 191) := by show _ = _; rw [← HC.out, if_neg a1]
              clear a1
              go_wp2_with fail
              go_meet
              case rel => exact ⟨191, rfl, by omega, HN, rfl⟩
          case rest => as_aux_lemma =>
            obtain ⟨h1, rfl, hh1, Hh1, hww⟩ := hcut
            have hww := hww.symm
            subst hww
            go_upto_if 41 with fail
            go_cut [5] (fun ll wx => ∃ zz : Nat, ll = .int .u8 (zz : Nat) ∧ zz < 256 ∧ Hid (zz = if c = 240 then 144 else l1) ∧ wx = w)
            case first => as_aux_lemma =>
              by_cases a1 : s[0].toNat = 240
              · have k1 : ((s[0].toNat : Int) == 240) = true := beq_iff_eq.2 (by omega)
                have HN : Hid (144 = if c = 240 then 144 else l1) := by show _ = _; rw [← HC.out, if_pos a1]
                clear a1
                go_wp2_with fail
                go_meet
                case rel => exact ⟨144, rfl, by omega, HN, rfl⟩
              · have k1 : ((s[0].toNat : Int) == 240) = false := beq_eq_false_iff_ne.2 (by omega)
                have HN : Hid (l1 = if c = 240 then 144 else l1) := by show _ = _; rw [← HC.out, if_neg a1]
                clear a1
                go_wp2_with fail
                go_meet
                case rel => exact ⟨l1, rfl, by omega, HN, rfl⟩
            case rest => as_aux_lemma =>
              obtain ⟨l2, rfl, hl2, Hl2, hww⟩ := hcut
              have hww := hww.symm
              subst hww
              go_upto_if 43 with fail
              go_cut [6] (fun ll wx => ∃ zz : Nat, ll = .int .u8 (zz : Nat) ∧ zz < 256 ∧ Hid (zz = if c = 244 then 143 else h1) ∧ wx = w)
              case first => as_aux_lemma =>
                by_cases a1 : s[0].toNat = 244
                · have k1 : ((s[0].toNat : Int) == 244) = true := beq_iff_eq.2 (by omega)
                  have HN : Hid (143 = if c = 244 then 143 else h1) := by show _ = _; rw [← HC.out, if_pos a1]
                  clear a1
                  go_wp2_with fail
                  go_meet
                  case rel => exact ⟨143, rfl, by omega, HN, rfl⟩
                · have k1 : ((s[0].toNat : Int) == 244) = false := beq_eq_false_iff_ne.2 (by omega)
                  have HN : Hid (h1 = if c = 244 then 143 else h1) := by show _ = _; rw [← HC.out, if_neg a1]
                  clear a1
                  go_wp2_with fail
                  go_meet
                  case rel => exact ⟨h1, rfl, by omega, HN, rfl⟩
              case rest => as_aux_lemma =>
                obtain ⟨h2, rfl, hh2, Hh2, hww⟩ := hcut
                have hww := hww.symm
                subst hww
                have HLO : Hid (ulo c = l2) := by show _ = _; unfold ulo; rw [Hl2.out, Hl1.out]
                have HHI : Hid (uhi c = h2) := by show _ = _; unfold uhi; rw [Hh2.out, Hh1.out]
                rw [HLO.out, HHI.out] at HU
                clear Hl1 Hl2 Hh1 Hh2 HLO HHI hl1 hh1
                by_cases b1 : n = 0
                · as_aux_lemma =>
                  rw [if_pos (.inl b1)] at HU
                  have k1 : ((n : Int) == 0) = true := beq_iff_eq.2 (by omega)
                  clear b1
                  go_wp2_with fail
                  go_ret
                  exact ⟨by rw [HU.out]; rfl, rfl⟩
                · have k1 : ((n : Int) == 0) = false := beq_eq_false_iff_ne.2 (by omega)
                  by_cases b2 : s.size < n
                  · as_aux_lemma =>
                    rw [if_pos (.inr (.inl b2))] at HU
                    have k2 : (s.size : Int) < (n : Int) := by omega
                    go_wp2_with fail
                    go_ret
                    exact ⟨by rw [HU.out]; rfl, rfl⟩
                  · have k2 : ¬ (s.size : Int) < (n : Int) := by omega
                    have hn2 : 2 ≤ n := by
                      rcases un_ge c with e | e
                      · rw [HUN.out] at e
                        exact absurd e b1
                      · rw [HUN.out] at e
                        exact e
                    have h1s : 1 < s.size := by omega
                    have gp1 : (1 : Int) < (s.size : Int) := by omega
                    have HS1 : Hid (r.getD 0 0 = s[1].toNat) := by
                      have h := HAT.out 1 h1s
                      rw [HSX.out] at h
                      exact h
                    rw [HS1.out] at HU
                    have hs6 : s[1].toNat < 256 := (s[1]).toNat_lt
                    by_cases b3 : s[1].toNat < l2
                    · as_aux_lemma =>
                      rw [if_pos (.inr (.inr (.inl b3)))] at HU
                      have k3 : (s[1].toNat : Int) < (l2 : Int) := by omega
                      go_wp2_with fail
                      go_ret
                      exact ⟨by rw [HU.out]; rfl, rfl⟩
                    · have k3 : ¬ (s[1].toNat : Int) < (l2 : Int) := by omega
                      by_cases b4 : h2 < s[1].toNat
                      · as_aux_lemma =>
                        rw [if_pos (.inr (.inr (.inr b4)))] at HU
                        have k4 : (h2 : Int) < (s[1].toNat : Int) := by omega
                        go_wp2_with fail
                        go_ret
                        exact ⟨by rw [HU.out]; rfl, rfl⟩
                      · have k4 : ¬ (h2 : Int) < (s[1].toNat : Int) := by omega
                        rw [if_neg (by omega)] at HU
                        have HCL : Hid ((c :: r).length = s.size) := by show _ = _; rw [← HSX.out, HSL.out]
                        have HGT : Hid (∀ i (h : i < s.size), (c :: r).getD i 0 = s[i].toNat) := fun i h => by have e := HAT.out i h; rw [HSX.out] at e; exact e
                        clear b1 HUN HS1 HAT HSX HSL HZ
                        generalize hcr : c :: r = B at HU HCL HGT
                        have HCR : Hid (c :: r = B) := hcr
                        clear hcr
                        go_wp2_with fail
                        go_loopw [7] (fun ii wx => ∃ i : Nat, 2 ≤ i ∧ i ≤ n ∧ ii = .int .i64 (i : Nat) ∧ Hid (((B.take i).drop 2).all (fun x => decide (128 ≤ x) && decide (x ≤ 191)) = true) ∧ wx = w) (fun ii _ => n - (intOf ii).toNat)
                        case atStart => exact ⟨2, by omega, by omega, rfl, by show _ = _; rw [drop_take2]; rfl, rfl⟩
                        case round => as_aux_lemma =>
                          obtain ⟨i, hi2, hin, rfl, HALL, hww⟩ := hrel
                          have hww := hww.symm
                          subst hww
                          by_cases hlt : i < n
                          · have m1 : (i : Int) < (n : Int) := by omega
                            have his : i < s.size := by omega
                            have m2 : (i : Int) < (s.size : Int) := by omega
                            have HGi := hide (HGT.out i his)
                            have HTS := hide (take_drop2 (B := B) (i := i) hi2 (by rw [HCL.out]; exact his))
                            rw [HGi.out] at HTS
                            have HMEM : Hid (s[i].toNat ∈ (B.take n).drop 2) := by
                              have e := mem_take_drop2 (B := B) (i := i) (n := n) hi2 hlt (by rw [HCL.out]; exact his)
                              rw [HGi.out] at e
                              exact e
                            by_cases c1 : s[i].toNat < 128
                            · as_aux_lemma =>
                              have q1 : (s[i].toNat : Int) < 128 := by omega
                              rw [if_neg (fun h => by have e := List.all_eq_true.1 h _ HMEM.out; simp at e; omega)] at HU
                              go_wp2_with fail
                              go_ret
                              exact ⟨by rw [HCR.out, HU.out]; rfl, rfl⟩
                            · have q1 : ¬ (s[i].toNat : Int) < 128 := by omega
                              by_cases c2 : 191 < s[i].toNat
                              · as_aux_lemma =>
                                have q2 : (191 : Int) < (s[i].toNat : Int) := by omega
                                rw [if_neg (fun h => by have e := List.all_eq_true.1 h _ HMEM.out; simp at e; omega)] at HU
                                go_wp2_with fail
                                go_ret
                                exact ⟨by rw [HCR.out, HU.out]; rfl, rfl⟩
                              · as_aux_lemma =>
                                have q2 : ¬ (191 : Int) < (s[i].toNat : Int) := by omega
                                have HA2 : Hid (((B.take (i + 1)).drop 2).all (fun x => decide (128 ≤ x) && decide (x ≤ 191)) = true) := by
                                  show _ = _
                                  rw [HTS.out, List.all_append, HALL.out]
                                  simp
                                  omega
                                go_wp2_with fail
                                go_roundw
                                case rel => exact ⟨i + 1, by omega, by omega, by go_num, HA2, trivial⟩
                                case measure => simp [intOf]; omega
                          · as_aux_lemma =>
                            have m1 : ¬ (i : Int) < (n : Int) := by omega
                            have hien : i = n := by omega
                            rw [hien] at HALL
                            rw [if_pos HALL.out] at HU
                            clear hien
                            go_wp2_with fail
                            go_ret
                            exact ⟨by rw [HCR.out, HU.out]; rfl, rfl⟩
end
section
open Go.RowKit Go
theorem uone_le (b : List Nat) : uone b ≤ b.length := by
  unfold uone
  split
  · omega
  · rename_i c r
    split
    · simp
    · split
      · omega
      · split
        · omega
        · omega
/-- Code points from end to end. -/
def ugood (b : List Nat) : Bool := if b = [] then true else if _h : uone b = 0 then false else ugood (b.drop (uone b))
termination_by b.length
decreasing_by
  have := uone_le b
  rw [List.length_drop]
  omega
theorem ugood_nil : ugood [] = true := by rw [ugood, if_pos rfl]
theorem ugood_bad {b : List Nat} (h : b ≠ []) (h0 : uone b = 0) : ugood b = false := by rw [ugood, if_neg h, dif_pos h0]
theorem ugood_step {b : List Nat} (h : b ≠ []) (h0 : uone b ≠ 0) : ugood b = ugood (b.drop (uone b)) := by rw [ugood, if_neg h, dif_neg h0]
set_option maxRecDepth 1000000 in
set_option maxHeartbeats 1000000 in
theorem good6_any (w : World) (s : ByteArray) (hs : s.size ≤ 9223372036854775807) : Calls Tryz.prog 118 #[.string s] w fun e w' => e = .returned (.bool (ugood (sl s))) ∧ w' = w := by
  have HSL := hide (sl_len s)
  generalize hG : ugood (sl s) = G
  have HG := hide hG
  clear hG
  go_enter Tryz.func118, Tryz.ntmps118
  go_wp2_with fail
  go_loopw [3] (fun ii wx => ∃ i : Nat, i ≤ s.size ∧ ii = .int .i64 (i : Nat) ∧ Hid (ugood ((sl s).drop i) = G) ∧ wx = w) (fun ii _ => s.size - (intOf ii).toNat)
  case atStart => exact ⟨0, by omega, rfl, by show _ = _; rw [List.drop_zero]; exact HG.out, rfl⟩
  case round => as_aux_lemma =>
    obtain ⟨i, hi, rfl, HD, hww⟩ := hrel
    have hww := hww.symm
    subst hww
    clear HG
    by_cases hlt : i < s.size
    · have m1 : (i : Int) < (s.size : Int) := by omega
      have m2 : (i : Int) ≤ (s.size : Int) := by omega
      have HNE : Hid ((sl s).drop i ≠ []) := fun h => by
        have e := congrArg List.length h
        rw [List.length_drop, HSL.out] at e
        simp at e
        omega
      have HX : Hid (sl (s.extract i s.size) = (sl s).drop i) := by
        show _ = _
        rw [sl_extract, ← HSL.out, List.take_length]
      have HLE : Hid (uone ((sl s).drop i) ≤ s.size - i) := by
        have h := uone_le ((sl s).drop i)
        rw [List.length_drop, HSL.out] at h
        exact h
      have HC : Hid (∀ wx, Calls Tryz.prog 134 #[.string (s.extract i s.size)] wx fun e w' => e = .returned (.int .i64 (uone ((sl s).drop i) : Nat)) ∧ w' = wx) := fun wx => by
        have h := one6_any wx (s.extract i s.size) (by rw [← sl_len, HX.out, List.length_drop, HSL.out]; omega)
        rw [HX.out] at h
        exact h
      have HB0 : Hid (uone ((sl s).drop i) = 0 → false = G) := fun h => (ugood_bad HNE.out h).symm.trans HD.out
      have HB1 : Hid (uone ((sl s).drop i) ≠ 0 → ugood ((sl s).drop (i + uone ((sl s).drop i))) = G) := fun h => by
        rw [← HD.out, ugood_step HNE.out h, List.drop_drop]
      clear HX HNE HD
      generalize uone ((sl s).drop i) = n at *
      have hle := HLE.out
      clear HLE
      go_wp2_with fail
      refine (HC.out w).mono ?_
      rintro e w3 ⟨rfl, hw3⟩
      have hw3 := hw3.symm
      subst hw3
      clear HC
      by_cases hn : n = 0
      · as_aux_lemma =>
        have k1 : ((n : Int) == 0) = true := beq_iff_eq.2 (by omega)
        have HGG := hide (HB0.out hn)
        clear hn
        go_wp2_with fail
        go_ret
        exact ⟨by rw [← HGG.out]; rfl, rfl⟩
      · as_aux_lemma =>
        have k1 : ((n : Int) == 0) = false := beq_eq_false_iff_ne.2 (by omega)
        have HGG := hide (HB1.out hn)
        go_wp2_with fail
        go_roundw
        case rel => exact ⟨i + n, by omega, by go_num, HGG, trivial⟩
        case measure => simp [intOf]; omega
    · as_aux_lemma =>
      have m1 : ¬ (i : Int) < (s.size : Int) := by omega
      have HGG : Hid (true = G) := by
        show _ = _
        rw [← HD.out, List.drop_of_length_le (by rw [HSL.out]; omega), ugood_nil]
      go_wp2_with fail
      go_ret
      exact ⟨by rw [← HGG.out]; rfl, rfl⟩
end
section
open Go.RowKit Go
theorem first_un : ∀ c : Fin 256, 128 ≤ c.val → (un c.val = 0 → Lib.firstT c.val % 8 ≠ 2 ∧ Lib.firstT c.val % 8 ≠ 3 ∧ Lib.firstT c.val % 8 ≠ 4) ∧ (un c.val ≠ 0 → Lib.firstT c.val % 8 = un c.val ∧ Lib.accLo (Lib.firstT c.val / 16) = ulo c.val ∧ Lib.accHi (Lib.firstT c.val / 16) = uhi c.val) := by decide +kernel
theorem un_is (c : Nat) : un c = 0 ∨ un c = 2 ∨ un c = 3 ∨ un c = 4 := by
  unfold un
  split
  · omega
  · split
    · omega
    · split <;> omega
theorem uone_lead (c : Nat) (r : List Nat) (h : 128 ≤ c) : uone (c :: r) = if un c = 0 ∨ (c :: r).length < un c ∨ r.getD 0 0 < ulo c ∨ uhi c < r.getD 0 0 then 0 else if (((c :: r).take (un c)).drop 2).all (fun x => decide (128 ≤ x) && decide (x ≤ 191)) then un c else 0 := by
  show (if c < 128 then 1 else _) = _
  rw [if_neg (by omega)]
theorem uone_chk (x : UInt8) (r : List UInt8) (h : 128 ≤ x.toNat) : Lib.checkN (x :: r).length ((x :: r).getD 1 0).toNat ((x :: r).getD 2 0).toNat ((x :: r).getD 3 0).toNat (Lib.firstT x.toNat % 8) (Lib.accLo (Lib.firstT x.toNat / 16)) (Lib.accHi (Lib.firstT x.toNat / 16)) = if uone ((x :: r).map UInt8.toNat) = 0 then none else some (uone ((x :: r).map UInt8.toNat)) := by
  obtain ⟨h0, h1⟩ := first_un ⟨x.toNat, x.toNat_lt⟩ h
  simp only at h0 h1
  rw [List.map_cons, uone_lead _ _ h]
  by_cases hu : un x.toNat = 0
  · have e := h0 hu
    rw [if_pos (Or.inl hu : un x.toNat = 0 ∨ _), if_pos (rfl : (0 : Nat) = 0)]
    unfold Lib.checkN
    rw [if_neg e.1, if_neg e.2.1, if_neg e.2.2]
  · obtain ⟨e1, e2, e3⟩ := h1 hu
    rw [e1, e2, e3]
    clear e1 e2 e3 h0 h1
    unfold Lib.checkN
    generalize ulo x.toNat = lo
    generalize uhi x.toNat = hi
    rcases un_is x.toNat with e | e | e | e
    · exact absurd e hu
    · rw [e]
      clear e hu
      rcases r with _ | ⟨a, _ | ⟨b, _ | ⟨d, r⟩⟩⟩ <;> simp <;> (try split) <;> simp_all <;> omega
    · rw [e]
      clear e hu
      rcases r with _ | ⟨a, _ | ⟨b, _ | ⟨d, r⟩⟩⟩ <;> simp <;> (try split) <;> simp_all <;> omega
    · rw [e]
      clear e hu
      rcases r with _ | ⟨a, _ | ⟨b, _ | ⟨d, r⟩⟩⟩ <;> simp <;> (try split) <;> simp_all <;> omega
theorem uone_ascii (c : Nat) (r : List Nat) (h : c < 128) : uone (c :: r) = 1 := if_pos h
theorem valid_ugood (n : Nat) : ∀ l : List UInt8, l.length ≤ n → Lib.validD l = ugood (l.map UInt8.toNat) := by
  induction n with
  | zero => intro l hl; rw [List.eq_nil_of_length_eq_zero (Nat.le_zero.1 hl)]; exact ugood_nil.symm
  | succ n ih =>
    intro l hl
    rcases l with _ | ⟨x, r⟩
    · exact ugood_nil.symm
    · by_cases h : x.toNat < 128
      · rw [Lib.validD_cons x r h, List.map_cons, ugood_step (by simp) (by rw [uone_ascii _ _ h]; decide), uone_ascii _ _ h, ih r (by simp at hl; omega)]
        rfl
      · have hk := uone_chk x r (by omega)
        rw [Lib.validD_lead (x :: r) (by simp) (by show 128 ≤ x.toNat; omega)]
        show (match Lib.checkN (x :: r).length ((x :: r).getD 1 0).toNat ((x :: r).getD 2 0).toNat ((x :: r).getD 3 0).toNat (Lib.firstT x.toNat % 8) (Lib.accLo (Lib.firstT x.toNat / 16)) (Lib.accHi (Lib.firstT x.toNat / 16)) with | none => false | some k => Lib.validD ((x :: r).drop k)) = _
        rw [hk]
        by_cases h0 : uone ((x :: r).map UInt8.toNat) = 0
        · rw [if_pos h0, ugood_bad (by simp) h0]
        · rw [if_neg h0, ugood_step (by simp) h0]
          show Lib.validD ((x :: r).drop (uone ((x :: r).map UInt8.toNat))) = _
          have hle := uone_le ((x :: r).map UInt8.toNat)
          rw [List.length_map] at hle
          rw [ih _ (by rw [List.length_drop]; simp only [List.length_cons] at hl ⊢; omega), List.map_drop]
theorem bad_good (s : ByteArray) : badb s = !ugood (sl s) := by
  unfold badb sl
  rw [valid_ugood _ _ (Nat.le_refl _)]
end
section
open Go.RowKit Go
/-- The format of 64 bits. -/
def fmtc : Array Value := #[.int .i64 11, .int .i64 52]
set_option maxRecDepth 1000000 in
theorem infoF : (Tryz.prog.info? 169).map (·.size) = some fmtc.size := by kernel_rfl
theorem qstep_fmt {C : World → Prop} {ops : Array Oper} {o : Oper} {a : Act} {K : Act → Prop} {p : Operand} (hgd : Region.wanted o (yielded ops a.tmps) = true) (ho : o.op = .load 169 p) (g : Nat)
    (hp : a.eval p = .pointer (some ⟨g, 0, none⟩)) (hc : ∀ w, C w → w.heap[g]? = some (.cells fmtc 169 (0, 0)))
    (h : K (a.put o.dst (.agg fmtc))) : if Region.wanted o (yielded ops a.tmps) = true then o.quiet Tryz.prog a C K else K (a.put o.dst undef) := by
  rw [if_pos hgd]
  refine ⟨.agg fmtc, fun w hC => ?_, h⟩
  unfold Oper.quietAt execOp
  have hr : (Instr.loadAt 169 (.pointer (some ⟨g, 0, none⟩))).run Tryz.prog w = .ok (.agg fmtc) w := by
    simp only [Instr.loadAt, Instr.sureAddr, Sem.run_bind, Sem.run_pure, Result.andThen]
    exact run_loadVar_row (P := Tryz.prog) w g 169 169 fmtc (0, 0) _ (hc w hC) Tryz.underlying169 rfl infoF
  simp only [ho, Sem.run_bind, hp, hr, Result.andThen_ok]
  exact ⟨rfl, rfl⟩
set_option maxRecDepth 1000000 in
theorem f64_any (w : World) : Calls Tryz.prog 132 #[] w fun e w' => e = .returned (.agg fmtc) ∧ Below w.heap.size w w' := by
  go_enter Tryz.func132, Tryz.ntmps132
  go_wp2_with fail
  refine bodyPost_ret (v := .agg fmtc) ((results_one (p := 0) (ty := 169) rfl _ _ _).trans ?_) rfl ⟨rfl, ?_⟩
  · have h1 := run_loadVar_row (P := Tryz.prog) (w.alloc (.cells fmtc 169)) w.heap.size 169 169 fmtc (0, 0) _ (heap_alloc_new w _) Tryz.underlying169 rfl infoF
    show ((Sem.run Tryz.prog (asAddr (Value.pointer (some ⟨w.heap.size, 0, none⟩))) (w.alloc (.cells fmtc 169))).andThen fun a w₁ => Sem.run Tryz.prog (loadVar 169 a) w₁) = _
    simp [asAddr, h1, Result.andThen]
    rfl
  · exact below_alloc4 w _
set_option maxRecDepth 1000000 in
theorem fall_any (w : World) : Calls Tryz.prog 154 #[.agg fmtc] w fun e w' => e = .returned (.int .i64 2047) ∧ Below w.heap.size w w' := by
  have q0 : (w.alloc (.cells fmtc 169)).cell? ⟨w.heap.size, 0, none⟩ = some (.int .i64 11) := blk_cell (heap_alloc_new w _) rfl
  have q1 : (w.alloc (.cells fmtc 169)).cell? ⟨w.heap.size, 1, none⟩ = some (.int .i64 52) := blk_cell (heap_alloc_new w _) rfl
  go_enter Tryz.func154, Tryz.ntmps154
  go_wp2_with fail
  go_ret
  exact ⟨rfl, below_alloc4 w _⟩
set_option maxRecDepth 1000000 in
theorem fsign_any (w : World) : Calls Tryz.prog 153 #[.agg fmtc] w fun e w' => e = .returned (.int .u64 9223372036854775808) ∧ Below w.heap.size w w' := by
  have q0 : (w.alloc (.cells fmtc 169)).cell? ⟨w.heap.size, 0, none⟩ = some (.int .i64 11) := blk_cell (heap_alloc_new w _) rfl
  have q1 : (w.alloc (.cells fmtc 169)).cell? ⟨w.heap.size, 1, none⟩ = some (.int .i64 52) := blk_cell (heap_alloc_new w _) rfl
  go_enter Tryz.func153, Tryz.ntmps153
  go_wp2_with fail
  go_ret
  exact ⟨rfl, below_alloc4 w _⟩
set_option maxRecDepth 1000000 in
theorem fbias_any (w : World) : Calls Tryz.prog 155 #[.agg fmtc] w fun e w' => e = .returned (.int .i64 1023) ∧ Below w.heap.size w w' := by
  have HBK := hide (heap_alloc_new w (.cells fmtc 169))
  have HB0 := hide (below_alloc4 w (.cells fmtc 169))
  go_enter Tryz.func155, Tryz.ntmps155
  go_wp2_with (refine wpList_loadAll rfl rfl w.heap.size fmtc 169 rfl HBK.out Tryz.underlying169 infoF ?_)
  refine (fall_any _).mono ?_
  rintro e w1 ⟨rfl, hb1⟩
  have HB1 := hide (HB0.out.trans (hb1.mono HB0.out.size))
  clear hb1
  go_wp2_with fail
  go_ret
  exact ⟨rfl, HB1.out⟩
theorem and_2047 (n : Nat) (hn : n < 18446744073709551616) : bits .and .u64 (n : Int) 2047 = ((n % 2048 : Nat) : Int) := by
  have e1 : (BitVec.ofInt 64 (n : Int)).toNat = n := by
    simp
    omega
  have e2 : (BitVec.ofInt 64 2047).toNat = 2047 := by decide
  show IntKind.u64.wrap ((BitVec.ofInt 64 (n : Int) &&& BitVec.ofInt 64 2047).toNat : Nat) = _
  rw [BitVec.toNat_and, e1, e2, IntKind.wrap_u64]
  have e3 := Nat.and_two_pow_sub_one_eq_mod n 11
  rw [show (2 ^ 11 - 1 : Nat) = 2047 from rfl, show (2 ^ 11 : Nat) = 2048 from rfl] at e3
  rw [e3]
  omega
theorem exp_is (b : Nat) (hb : b < 18446744073709551616) : wrap64 (bits .and .u64 ((b : Int) / 2 ^ min 52 64) 2047) = ((b / 4503599627370496 % 2048 : Nat) : Int) := by
  have e : ((b : Int) / 2 ^ min 52 64) = ((b / 4503599627370496 : Nat) : Int) := by
    rw [show min 52 64 = 52 from rfl, show (2 : Int) ^ 52 = 4503599627370496 by decide]
    omega
  rw [e, and_2047 _ (by omega)]
  unfold wrap64
  omega
theorem finb_exp (b : Nat) : finb b = !(((b / 4503599627370496 % 2048 : Nat) : Int) == 2047) := by
  unfold finb
  rw [Bool.eq_iff_iff]
  simp
  omega
set_option maxRecDepth 1000000 in
set_option maxHeartbeats 1000000 in
theorem fparts_any (b : Nat) (hb : b < 18446744073709551616) (w : World) : Calls Tryz.prog 133 #[.agg fmtc, .int .u64 (b : Nat)] w fun e w' => (∃ (c : Int) (n m x : Value), e = .returned (.tuple #[.int .i64 c, n, m, x]) ∧ (c == 0) = finb b) ∧ Below w.heap.size w w' := by
  have HBK := hide (heap_alloc_new w (.cells fmtc 169))
  have HB0 := hide (below_alloc4 w (.cells fmtc 169))
  go_enter Tryz.func133, Tryz.ntmps133
  go_wp2_with (refine wpList_loadAll rfl rfl w.heap.size fmtc 169 rfl HBK.out Tryz.underlying169 infoF ?_)
  refine (fsign_any _).mono ?_
  rintro e w1 ⟨rfl, hb1⟩
  have HB1 := hide (HB0.out.trans (hb1.mono HB0.out.size))
  have HC1 : Hid (w1.heap[w.heap.size]? = some (.cells fmtc 169 (0, 0))) := (hb1.block _ (blk_lt HBK.out)).trans HBK.out
  have q1 : w1.cell? ⟨w.heap.size, 1, none⟩ = some (.int .i64 52) := blk_cell HC1.out rfl
  clear hb1 HBK HB0
  go_wp2_with fail
  have HQ1 : Hid (∀ wx : World, (∃ t : Ext w1, wx = t.w') → wx.heap[w.heap.size]? = some (.cells fmtc 169 (0, 0))) := fun wx ⟨t, e⟩ => by rw [e]; exact (t.h.block _ (blk_lt HC1.out)).trans HC1.out
  have c1 : ∀ t : Ext w1, t.w'.cell? ⟨w.heap.size, 1, none⟩ = some (.int .i64 52) := fun t => blk_cell (HQ1.out _ ⟨t, rfl⟩) rfl
  refine region_ext (by kernel_rfl) (by kernel_rfl) ?_
  repeat (
    refine wpQuiet_step (fun K hK => ?_)
    first
      | (refine qstep_fmt rfl rfl w.heap.size rfl HQ1.out (hK _ ?_); clear hK K)
      | (go_simp
         first
           | (refine hK _ ?_; clear hK K)
           | (apply Exists.intro
              refine ⟨fun _ => ?_, hK _ ?_⟩
              (go_at_call 154; exact Calls.ext_below (fall_any _))
              clear hK K)))
  refine wpQuiet_nil ?_
  rintro _ ⟨tq, rfl⟩
  have HB2 : Hid (Below w.heap.size w tq.w') := HB1.out.trans (tq.h.mono HB1.out.size)
  have HC2 : Hid (tq.w'.heap[w.heap.size]? = some (.cells fmtc 169 (0, 0))) := HQ1.out _ ⟨tq, rfl⟩
  clear HQ1 c1 HB1 HC1 q1
  generalize tq.w' = w2 at *
  clear tq w1
  go_wp2_with (refine wpList_loadAll rfl rfl w.heap.size fmtc 169 rfl HC2.out Tryz.underlying169 infoF ?_)
  refine (fall_any _).mono ?_
  rintro e w3 ⟨rfl, hb3⟩
  have HB3 : Hid (Below w.heap.size w w3) := HB2.out.trans (hb3.mono HB2.out.size)
  have HC3 : Hid (w3.heap[w.heap.size]? = some (.cells fmtc 169 (0, 0))) := (hb3.block _ (blk_lt HC2.out)).trans HC2.out
  have HFX := hide (finb_exp b)
  have hex := exp_is b hb
  rw [← hex] at HFX
  clear hb3 HB2 HC2 hex hb w2
  generalize wrap64 (bits .and .u64 ((b : Int) / 2 ^ min 52 64) 2047) = X at *
  generalize bits .and .u64 (b : Int) 4503599627370495 = F at *
  generalize bits .and .u64 (b : Int) 9223372036854775808 = N at *
  generalize ((b : Int) / 2 ^ min 52 64) = Y at *
  generalize bits .and .u64 Y 2047 = Z at *
  rcases Bool.eq_false_or_eq_true (X == 2047) with g35 | g35
  · have HF : Hid (finb b = false) := by show _ = _; rw [HFX.out, g35]; rfl
    clear HFX
    rcases Bool.eq_false_or_eq_true (F != 0) with g37 | g37
    · as_aux_lemma =>
      go_wp2_with fail
      refine bodyPost_ret (results_four rfl _ _ _) rfl ⟨⟨_, _, _, _, rfl, by rw [HF.out]; rfl⟩, HB3.out⟩
    · as_aux_lemma =>
      go_wp2_with fail
      refine bodyPost_ret (results_four rfl _ _ _) rfl ⟨⟨_, _, _, _, rfl, by rw [HF.out]; rfl⟩, HB3.out⟩
  · have HF : Hid (finb b = true) := by show _ = _; rw [HFX.out, g35]; rfl
    clear HFX
    have HQ3 : Hid (∀ wx : World, (∃ t : Ext w3, wx = t.w') → wx.heap[w.heap.size]? = some (.cells fmtc 169 (0, 0))) := fun wx ⟨t, e⟩ => by rw [e]; exact (t.h.block _ (blk_lt HC3.out)).trans HC3.out
    have c1 : ∀ t : Ext w3, t.w'.cell? ⟨w.heap.size, 1, none⟩ = some (.int .i64 52) := fun t => blk_cell (HQ3.out _ ⟨t, rfl⟩) rfl
    rcases Bool.eq_false_or_eq_true (X == 0) with g41 | g41
    · as_aux_lemma =>
      go_wp2_with fail
      refine region_ext (by kernel_rfl) (by kernel_rfl) ?_
      repeat (
        refine wpQuiet_step (fun K hK => ?_)
        first
          | (refine qstep_fmt rfl rfl w.heap.size rfl HQ3.out (hK _ ?_); clear hK K)
          | (go_simp
             first
               | (refine hK _ ?_; clear hK K)
               | (apply Exists.intro
                  refine ⟨fun _ => ?_, hK _ ?_⟩
                  (go_at_call 155; exact Calls.ext_below (fbias_any _))
                  clear hK K)))
      refine wpQuiet_nil ?_
      rintro _ ⟨tq, rfl⟩
      have HB4 : Hid (Below w.heap.size w tq.w') := HB3.out.trans (tq.h.mono HB3.out.size)
      go_wp2_with fail
      refine bodyPost_ret (results_four rfl _ _ _) rfl ⟨⟨_, _, _, _, rfl, by rw [HF.out]; rfl⟩, HB4.out⟩
    · as_aux_lemma =>
      go_wp2_with fail
      refine region_ext (by kernel_rfl) (by kernel_rfl) ?_
      repeat (
        refine wpQuiet_step (fun K hK => ?_)
        first
          | (refine qstep_fmt rfl rfl w.heap.size rfl HQ3.out (hK _ ?_); clear hK K)
          | (go_simp
             first
               | (refine hK _ ?_; clear hK K)
               | (apply Exists.intro
                  refine ⟨fun _ => ?_, hK _ ?_⟩
                  (go_at_call 155; exact Calls.ext_below (fbias_any _))
                  clear hK K)))
      refine wpQuiet_nil ?_
      rintro _ ⟨tq, rfl⟩
      have HB4 : Hid (Below w.heap.size w tq.w') := HB3.out.trans (tq.h.mono HB3.out.size)
      go_wp2_with fail
      refine bodyPost_ret (results_four rfl _ _ _) rfl ⟨⟨_, _, _, _, rfl, by rw [HF.out]; rfl⟩, HB4.out⟩
set_option maxRecDepth 1000000 in
theorem isFinite_any (b : Nat) (hb : b < 18446744073709551616) (w : World) : Calls Tryz.prog 117 #[.int .u64 (b : Nat)] w fun e w' => e = .returned (.bool (finb b)) ∧ Below w.heap.size w w' := by
  have HBB := hide hb
  clear hb
  go_enter Tryz.func117, Tryz.ntmps117
  go_wp2_with fail
  refine (f64_any _).mono ?_
  rintro e w1 ⟨rfl, hb1⟩
  have HB1 := hide hb1
  clear hb1
  go_wp2_with fail
  refine (fparts_any b HBB.out _).mono ?_
  rintro e w2 ⟨⟨c, n, m, x, rfl, hc⟩, hb2⟩
  have HC := hide hc
  have HB2 := hide (HB1.out.trans (hb2.mono HB1.out.size))
  clear hc hb2
  go_wp2_with fail
  go_ret
  exact ⟨by rw [← HC.out]; rfl, HB2.out⟩
end
end Go.Proofs.YtgcccndbahphaaaGreatDoor

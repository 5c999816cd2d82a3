import Derived.Test.YtgcccndbahphaaaGreatDoorJi
import Derived.Test.YtgcccndbahphaaaGreatDoorJj
import Derived.Test.YtgcccndbahphaaaGreatDoorJk
import Derived.Test.YtgcccndbahphaaaGreatDoorJd
import Derived.Test.YtgcccndbahphaaaGreatDoorJh
import Derived.Test.YtgcccndbahphaaaGreatDoorJg
import Derived.Test.YtgcccndbahphaaaGreatDoorJe
namespace Go.Proofs.YtgcccndbahphaaaGreatDoor
section
open Go.RowKit Go
/-- What alone has in hand. -/
def Aln (w wx : World) (cs : Array Value) : Prop := Below w.heap.size w wx ∧ wx.heap[w.heap.size]? = some (.cells cs 55 (0, 0))
theorem Aln.next {w wx wy : World} {cs : Array Value} (h : Aln w wx cs) (hb : Below wx.heap.size wx wy) : Aln w wy cs := ⟨h.1.trans (hb.mono h.1.size), (hb.block _ (blk_lt h.2)).trans h.2⟩
theorem Aln.va {w wx : World} {cs : Array Value} (h : Aln w wx cs) : ∀ j u, cs[j]? = some u → wx.cell? ⟨w.heap.size, 0 + j, none⟩ = some u := fun j u hu => by rw [Nat.zero_add]; exact blk_cell h.2 hu
theorem Aln.lk {w wx : World} {t : Tv} {vy vk vi : Value} (h : Aln w wx (vcs t vy vk vi)) : ∀ j x, (lcs t.l)[j]? = some x → wx.cell? ⟨w.heap.size, 7 + j, none⟩ = some x := fun _ _ hx => lk_in h.2 hx
set_option maxRecDepth 1000000 in
set_option maxHeartbeats 2000000 in
theorem alone_7 (t : Tv) (hk7 : t.k = 7) (a : Nat) (w : World) (cs : Array Value) (ht : Tin w t cs) (hm : tmuch t ≤ 6000000) (hT : Tabs w) : Calls Tryz.prog 113 #[.agg cs, .int .i64 (a : Nat)] w fun e w' => e = .returned (.int .i64 (onef t a : Nat)) ∧ Below w.heap.size w w' := by
  have HTN := hide ht
  have HT := hide hT
  have HSZ := hide ht.size13
  have hme := tmuch_eq t
  have HKL : Hid (t.ks.length ≤ 6000000) := by show _ ≤ _; omega
  have HOE : Hid (onef t a = if (t.k = 8 ∨ t.k = 9) ∧ 1024 ≤ a then 60 else if tidyf t = false then 61 else if finb t.b = false then 62 else if (badb t.s || t.ks.any badb) = true then 63 else if t.k = 7 ∧ ¬ lok t.l then 64 else if t.k = 9 ∧ ¬ (t.ks.length = t.is.length ∧ t.ks.Nodup) then 65 else 0) := rfl
  generalize onef t a = E at *
  obtain ⟨vy, vk, vi, rfl, hy, hk, hv, hb⟩ := ht.parts
  have HKS := hide hk
  have HBD := hide hb
  obtain ⟨⟨ay, cy, rfl, _, _⟩, _⟩ := hy
  obtain ⟨⟨ak, ck, rfl, _, _⟩, _, _⟩ := hk
  obtain ⟨⟨ai, ci, rfl, _, _⟩, _⟩ := hv
  clear ht hT hb hm hme
  have HQ0 : Hid (Aln w (w.alloc (.cells (vcs t (.slice ay t.y.length cy) (.slice ak t.ks.length ck) (.slice ai t.is.length ci)) 55)) (vcs t (.slice ay t.y.length cy) (.slice ak t.ks.length ck) (.slice ai t.is.length ci))) := box_mk0 w _
  have HLK : Hid (∀ wx, Aln w wx (vcs t (.slice ay t.y.length cy) (.slice ak t.ks.length ck) (.slice ai t.is.length ci)) → ∀ j x, (lcs t.l)[j]? = some x → wx.cell? ⟨w.heap.size, 7 + j, none⟩ = some x) := fun wx h => h.lk
  have HC0 : Hid ((vcs t (.slice ay t.y.length cy) (.slice ak t.ks.length ck) (.slice ai t.is.length ci))[0]? = some (.int .i64 t.k)) := rfl
  have HC4 : Hid ((vcs t (.slice ay t.y.length cy) (.slice ak t.ks.length ck) (.slice ai t.is.length ci))[4]? = some (.int .u64 (t.b : Nat))) := rfl
  have HC5 : Hid ((vcs t (.slice ay t.y.length cy) (.slice ak t.ks.length ck) (.slice ai t.is.length ci))[5]? = some (.string t.s)) := rfl
  have HC11 : Hid ((vcs t (.slice ay t.y.length cy) (.slice ak t.ks.length ck) (.slice ai t.is.length ci))[11]? = some (.slice ak t.ks.length ck)) := rfl
  have HC12 : Hid ((vcs t (.slice ay t.y.length cy) (.slice ak t.ks.length ck) (.slice ai t.is.length ci))[12]? = some (.slice ai t.is.length ci)) := rfl
  generalize vcs t (.slice ay t.y.length cy) (.slice ak t.ks.length ck) (.slice ai t.is.length ci) = cs at *
  have hnest : ¬ (t.k = 8 ∨ t.k = 9) := by omega
  have g7 : (t.k == 7) = true := beq_iff_eq.2 hk7
  have g9 : (t.k == 9) = false := beq_eq_false_iff_ne.2 (by omega)
  have HV0 := hide HQ0.out.va
  go_enter Tryz.func113, Tryz.ntmps113
  go_wp2_with (refine wpList_valAt rfl rfl w.heap.size 0 cs rfl HSZ.out HV0.out ?_)
  refine (nests_any t _ cs (HTN.out.move (keep_below HQ0.out.1))).mono ?_
  rintro e w1 ⟨rfl, hb1⟩
  have HQ1 := hide (HQ0.out.next hb1)
  have HV1 := hide HQ1.out.va
  clear hb1 HQ0 HV0
  rw [decide_eq_false hnest]
  rw [if_neg (fun h => hnest h.1)] at HOE
  go_wp2_with (refine wpList_valAt rfl rfl w.heap.size 0 cs rfl HSZ.out HV1.out ?_)
  refine (tidy_any t _ cs (HTN.out.move (keep_below HQ1.out.1))).mono ?_
  rintro e w2 ⟨rfl, hb2⟩
  have HQ2 := hide (HQ1.out.next hb2)
  clear hb2 HQ1 HV1
  rcases Bool.eq_false_or_eq_true (tidyf t) with htd | htd
  case inr => as_aux_lemma =>
    have HE : Hid (E = 61) := by show _ = _; rw [HOE.out, if_pos htd]
    rw [htd]
    clear htd
    go_wp2_with fail
    go_ret
    exact ⟨by rw [HE.out]; rfl, HQ2.out.1⟩
  rw [htd]
  rw [if_neg (by rw [htd]; simp)] at HOE
  clear htd
  have q4 := blk_cell HQ2.out.2 HC4.out
  have hfb := frombits_any t.b
  have HFI := hide (fun W => finite_any t.b HBD.out.b W)
  generalize finb t.b = fn at *
  cases fn
  case false => as_aux_lemma =>
    have HE : Hid (E = 62) := by show _ = _; rw [HOE.out, if_pos rfl]
    go_wp2_with (go_at_call 124; refine (Hid.out HFI _).mono ?_; rintro e w' ⟨rfl, hww⟩; have hww := hww.symm; subst hww)
    go_ret
    exact ⟨by rw [HE.out]; rfl, HQ2.out.1⟩
  rw [if_neg (by simp)] at HOE
  have q5 := blk_cell HQ2.out.2 HC5.out
  go_wp2_with (go_at_call 124; refine (Hid.out HFI _).mono ?_; rintro e w' ⟨rfl, hww⟩; have hww := hww.symm; subst hww)
  clear hfb HFI q4
  refine (bad6_any t.s w2 HBD.out.s (HT.out.next HQ2.out.1)).mono ?_
  rintro e w3 ⟨rfl, hb3⟩
  have HQ3 := hide (HQ2.out.next hb3)
  clear hb3 HQ2 q5
  generalize hbs : badb t.s = bs at *
  clear hbs
  cases bs
  case true => as_aux_lemma =>
    have HE : Hid (E = 63) := by show _ = _; rw [HOE.out, if_pos (by simp)]
    go_wp2_with fail
    go_ret
    exact ⟨by rw [HE.out]; rfl, HQ3.out.1⟩
  have q11 := blk_cell HQ3.out.2 HC11.out
  go_wp2_with fail
  refine (containsFunc_any w3 _ t.ks (HKS.out.move (keep_below HQ3.out.1)) (HT.out.next HQ3.out.1)).mono ?_
  rintro e w4 ⟨rfl, hb4⟩
  have HQ4 := hide (HQ3.out.next hb4)
  clear hb4 HQ3 q11
  generalize hbk : t.ks.any badb = bk at *
  clear hbk
  cases bk
  case true => as_aux_lemma =>
    have HE : Hid (E = 63) := by show _ = _; rw [HOE.out, if_pos (by simp)]
    go_wp2_with fail
    go_ret
    exact ⟨by rw [HE.out]; rfl, HQ4.out.1⟩
  rw [if_neg (by simp)] at HOE
  have q0 := blk_cell HQ4.out.2 HC0.out
  have HL4 := hide (HLK.out _ HQ4.out)
  have HCK := hide (check_any w4 t.l HBD.out.l)
  go_wp2_with (refine wpList_lkAt rfl rfl w.heap.size 7 t.l rfl HL4.out ?_)
  refine HCK.out.mono ?_
  rintro e w5 ⟨rfl, hb5⟩
  have HQ5 := hide (HQ4.out.next hb5)
  clear hb5 HQ4 HL4 HCK q0
  have q0 := blk_cell HQ5.out.2 HC0.out
  by_cases hlo : lok t.l
  · as_aux_lemma =>
    have HE : Hid (E = 0) := by show _ = _; rw [HOE.out, if_neg (fun h => h.2 hlo), if_neg (fun h => by omega)]
    rw [if_pos hlo]
    clear hlo
    go_wp2_with fail
    go_ret
    exact ⟨by rw [HE.out]; rfl, HQ5.out.1⟩
  · as_aux_lemma =>
    have HE : Hid (E = 64) := by show _ = _; rw [HOE.out, if_pos ⟨hk7, hlo⟩]
    rw [if_neg hlo]
    clear hlo
    go_wp2_with fail
    go_ret
    exact ⟨by rw [HE.out]; rfl, HQ5.out.1⟩
set_option maxRecDepth 1000000 in
set_option maxHeartbeats 2000000 in
theorem alone_9 (t : Tv) (hk9 : t.k = 9) (a : Nat) (w : World) (cs : Array Value) (ht : Tin w t cs) (hm : tmuch t ≤ 6000000) (hT : Tabs w) : Calls Tryz.prog 113 #[.agg cs, .int .i64 (a : Nat)] w fun e w' => e = .returned (.int .i64 (onef t a : Nat)) ∧ Below w.heap.size w w' := by
  have HTN := hide ht
  have HT := hide hT
  have HSZ := hide ht.size13
  have hme := tmuch_eq t
  have HKL : Hid (t.ks.length ≤ 6000000) := by show _ ≤ _; omega
  have HOE : Hid (onef t a = if (t.k = 8 ∨ t.k = 9) ∧ 1024 ≤ a then 60 else if tidyf t = false then 61 else if finb t.b = false then 62 else if (badb t.s || t.ks.any badb) = true then 63 else if t.k = 7 ∧ ¬ lok t.l then 64 else if t.k = 9 ∧ ¬ (t.ks.length = t.is.length ∧ t.ks.Nodup) then 65 else 0) := rfl
  generalize onef t a = E at *
  obtain ⟨vy, vk, vi, rfl, hy, hk, hv, hb⟩ := ht.parts
  have HKS := hide hk
  have HBD := hide hb
  obtain ⟨⟨ay, cy, rfl, _, _⟩, _⟩ := hy
  obtain ⟨⟨ak, ck, rfl, _, _⟩, _, _⟩ := hk
  obtain ⟨⟨ai, ci, rfl, _, _⟩, _⟩ := hv
  clear ht hT hb hm hme
  have HQ0 : Hid (Aln w (w.alloc (.cells (vcs t (.slice ay t.y.length cy) (.slice ak t.ks.length ck) (.slice ai t.is.length ci)) 55)) (vcs t (.slice ay t.y.length cy) (.slice ak t.ks.length ck) (.slice ai t.is.length ci))) := box_mk0 w _
  have HLK : Hid (∀ wx, Aln w wx (vcs t (.slice ay t.y.length cy) (.slice ak t.ks.length ck) (.slice ai t.is.length ci)) → ∀ j x, (lcs t.l)[j]? = some x → wx.cell? ⟨w.heap.size, 7 + j, none⟩ = some x) := fun wx h => h.lk
  have HC0 : Hid ((vcs t (.slice ay t.y.length cy) (.slice ak t.ks.length ck) (.slice ai t.is.length ci))[0]? = some (.int .i64 t.k)) := rfl
  have HC4 : Hid ((vcs t (.slice ay t.y.length cy) (.slice ak t.ks.length ck) (.slice ai t.is.length ci))[4]? = some (.int .u64 (t.b : Nat))) := rfl
  have HC5 : Hid ((vcs t (.slice ay t.y.length cy) (.slice ak t.ks.length ck) (.slice ai t.is.length ci))[5]? = some (.string t.s)) := rfl
  have HC11 : Hid ((vcs t (.slice ay t.y.length cy) (.slice ak t.ks.length ck) (.slice ai t.is.length ci))[11]? = some (.slice ak t.ks.length ck)) := rfl
  have HC12 : Hid ((vcs t (.slice ay t.y.length cy) (.slice ak t.ks.length ck) (.slice ai t.is.length ci))[12]? = some (.slice ai t.is.length ci)) := rfl
  generalize vcs t (.slice ay t.y.length cy) (.slice ak t.ks.length ck) (.slice ai t.is.length ci) = cs at *
  have hnest : (t.k = 8 ∨ t.k = 9) := by omega
  have g7 : (t.k == 7) = false := beq_eq_false_iff_ne.2 (by omega)
  have g9 : (t.k == 9) = true := beq_iff_eq.2 hk9
  have HV0 := hide HQ0.out.va
  go_enter Tryz.func113, Tryz.ntmps113
  go_wp2_with (refine wpList_valAt rfl rfl w.heap.size 0 cs rfl HSZ.out HV0.out ?_)
  refine (nests_any t _ cs (HTN.out.move (keep_below HQ0.out.1))).mono ?_
  rintro e w1 ⟨rfl, hb1⟩
  have HQ1 := hide (HQ0.out.next hb1)
  have HV1 := hide HQ1.out.va
  clear hb1 HQ0 HV0
  rw [decide_eq_true hnest]
  by_cases h24 : 1024 ≤ a
  · as_aux_lemma =>
    have g24 : (1024 : Int) ≤ (a : Int) := by omega
    have HE : Hid (E = 60) := by show _ = _; rw [HOE.out, if_pos ⟨hnest, h24⟩]
    clear h24
    go_wp2_with fail
    go_ret
    exact ⟨by rw [HE.out]; rfl, HQ1.out.1⟩
  have g24 : ¬ (1024 : Int) ≤ (a : Int) := by omega
  rw [if_neg (fun h => h24 h.2)] at HOE
  clear h24
  go_wp2_with (refine wpList_valAt rfl rfl w.heap.size 0 cs rfl HSZ.out HV1.out ?_)
  refine (tidy_any t _ cs (HTN.out.move (keep_below HQ1.out.1))).mono ?_
  rintro e w2 ⟨rfl, hb2⟩
  have HQ2 := hide (HQ1.out.next hb2)
  clear hb2 HQ1 HV1
  rcases Bool.eq_false_or_eq_true (tidyf t) with htd | htd
  case inr => as_aux_lemma =>
    have HE : Hid (E = 61) := by show _ = _; rw [HOE.out, if_pos htd]
    rw [htd]
    clear htd
    go_wp2_with fail
    go_ret
    exact ⟨by rw [HE.out]; rfl, HQ2.out.1⟩
  rw [htd]
  rw [if_neg (by rw [htd]; simp)] at HOE
  clear htd
  have q4 := blk_cell HQ2.out.2 HC4.out
  have hfb := frombits_any t.b
  have HFI := hide (fun W => finite_any t.b HBD.out.b W)
  generalize finb t.b = fn at *
  cases fn
  case false => as_aux_lemma =>
    have HE : Hid (E = 62) := by show _ = _; rw [HOE.out, if_pos rfl]
    go_wp2_with (go_at_call 124; refine (Hid.out HFI _).mono ?_; rintro e w' ⟨rfl, hww⟩; have hww := hww.symm; subst hww)
    go_ret
    exact ⟨by rw [HE.out]; rfl, HQ2.out.1⟩
  rw [if_neg (by simp)] at HOE
  have q5 := blk_cell HQ2.out.2 HC5.out
  go_wp2_with (go_at_call 124; refine (Hid.out HFI _).mono ?_; rintro e w' ⟨rfl, hww⟩; have hww := hww.symm; subst hww)
  clear hfb HFI q4
  refine (bad6_any t.s w2 HBD.out.s (HT.out.next HQ2.out.1)).mono ?_
  rintro e w3 ⟨rfl, hb3⟩
  have HQ3 := hide (HQ2.out.next hb3)
  clear hb3 HQ2 q5
  generalize hbs : badb t.s = bs at *
  clear hbs
  cases bs
  case true => as_aux_lemma =>
    have HE : Hid (E = 63) := by show _ = _; rw [HOE.out, if_pos (by simp)]
    go_wp2_with fail
    go_ret
    exact ⟨by rw [HE.out]; rfl, HQ3.out.1⟩
  have q11 := blk_cell HQ3.out.2 HC11.out
  go_wp2_with fail
  refine (containsFunc_any w3 _ t.ks (HKS.out.move (keep_below HQ3.out.1)) (HT.out.next HQ3.out.1)).mono ?_
  rintro e w4 ⟨rfl, hb4⟩
  have HQ4 := hide (HQ3.out.next hb4)
  clear hb4 HQ3 q11
  generalize hbk : t.ks.any badb = bk at *
  clear hbk
  cases bk
  case true => as_aux_lemma =>
    have HE : Hid (E = 63) := by show _ = _; rw [HOE.out, if_pos (by simp)]
    go_wp2_with fail
    go_ret
    exact ⟨by rw [HE.out]; rfl, HQ4.out.1⟩
  rw [if_neg (by simp)] at HOE
  have q0 := blk_cell HQ4.out.2 HC0.out
  rw [if_neg (fun h => by omega)] at HOE
  have q11 := blk_cell HQ4.out.2 HC11.out
  have q12 := blk_cell HQ4.out.2 HC12.out
  have HV4 := hide HQ4.out.va
  by_cases hlen : t.ks.length = t.is.length
  case neg => as_aux_lemma =>
    have gl : ((t.ks.length : Int) != (t.is.length : Int)) = true := by rw [nat_ne]; simp [hlen]
    have HE : Hid (E = 65) := by show _ = _; rw [HOE.out, if_pos ⟨hk9, fun h => hlen h.1⟩]
    clear hlen
    go_wp2_with fail
    go_ret
    exact ⟨by rw [HE.out]; rfl, HQ4.out.1⟩
  have gl : ((t.ks.length : Int) != (t.is.length : Int)) = false := by rw [nat_ne]; simp [hlen]
  have HLE := hide hlen
  clear hlen
  go_wp2_with (refine wpList_valAt rfl rfl w.heap.size 0 cs rfl HSZ.out HV4.out ?_)
  by_cases hnd : t.ks.Nodup
  · as_aux_lemma =>
    have HE : Hid (E = 0) := by show _ = _; rw [HOE.out, if_neg (fun h => h.2 ⟨HLE.out, hnd⟩)]
    refine (twice_any t false (by simp [hnd]) HLE.out _ cs (HTN.out.move (keep_below HQ4.out.1)) HKL.out).mono ?_
    rintro e w5 ⟨rfl, hb5⟩
    have HQ5 := hide (HQ4.out.next hb5)
    clear hb5 HQ4 hnd q0 q11 q12 HV4
    go_wp2_with fail
    go_ret
    exact ⟨by rw [HE.out]; rfl, HQ5.out.1⟩
  · as_aux_lemma =>
    have HE : Hid (E = 65) := by show _ = _; rw [HOE.out, if_pos ⟨hk9, fun h => hnd h.2⟩]
    refine (twice_any t true (by simp [hnd]) HLE.out _ cs (HTN.out.move (keep_below HQ4.out.1)) HKL.out).mono ?_
    rintro e w5 ⟨rfl, hb5⟩
    have HQ5 := hide (HQ4.out.next hb5)
    clear hb5 HQ4 hnd q0 q11 q12 HV4
    go_wp2_with fail
    go_ret
    exact ⟨by rw [HE.out]; rfl, HQ5.out.1⟩
set_option maxRecDepth 1000000 in
set_option maxHeartbeats 2000000 in
theorem alone_8 (t : Tv) (hk8 : t.k = 8) (a : Nat) (w : World) (cs : Array Value) (ht : Tin w t cs) (hm : tmuch t ≤ 6000000) (hT : Tabs w) : Calls Tryz.prog 113 #[.agg cs, .int .i64 (a : Nat)] w fun e w' => e = .returned (.int .i64 (onef t a : Nat)) ∧ Below w.heap.size w w' := by
  have HTN := hide ht
  have HT := hide hT
  have HSZ := hide ht.size13
  have hme := tmuch_eq t
  have HKL : Hid (t.ks.length ≤ 6000000) := by show _ ≤ _; omega
  have HOE : Hid (onef t a = if (t.k = 8 ∨ t.k = 9) ∧ 1024 ≤ a then 60 else if tidyf t = false then 61 else if finb t.b = false then 62 else if (badb t.s || t.ks.any badb) = true then 63 else if t.k = 7 ∧ ¬ lok t.l then 64 else if t.k = 9 ∧ ¬ (t.ks.length = t.is.length ∧ t.ks.Nodup) then 65 else 0) := rfl
  generalize onef t a = E at *
  obtain ⟨vy, vk, vi, rfl, hy, hk, hv, hb⟩ := ht.parts
  have HKS := hide hk
  have HBD := hide hb
  obtain ⟨⟨ay, cy, rfl, _, _⟩, _⟩ := hy
  obtain ⟨⟨ak, ck, rfl, _, _⟩, _, _⟩ := hk
  obtain ⟨⟨ai, ci, rfl, _, _⟩, _⟩ := hv
  clear ht hT hb hm hme
  have HQ0 : Hid (Aln w (w.alloc (.cells (vcs t (.slice ay t.y.length cy) (.slice ak t.ks.length ck) (.slice ai t.is.length ci)) 55)) (vcs t (.slice ay t.y.length cy) (.slice ak t.ks.length ck) (.slice ai t.is.length ci))) := box_mk0 w _
  have HLK : Hid (∀ wx, Aln w wx (vcs t (.slice ay t.y.length cy) (.slice ak t.ks.length ck) (.slice ai t.is.length ci)) → ∀ j x, (lcs t.l)[j]? = some x → wx.cell? ⟨w.heap.size, 7 + j, none⟩ = some x) := fun wx h => h.lk
  have HC0 : Hid ((vcs t (.slice ay t.y.length cy) (.slice ak t.ks.length ck) (.slice ai t.is.length ci))[0]? = some (.int .i64 t.k)) := rfl
  have HC4 : Hid ((vcs t (.slice ay t.y.length cy) (.slice ak t.ks.length ck) (.slice ai t.is.length ci))[4]? = some (.int .u64 (t.b : Nat))) := rfl
  have HC5 : Hid ((vcs t (.slice ay t.y.length cy) (.slice ak t.ks.length ck) (.slice ai t.is.length ci))[5]? = some (.string t.s)) := rfl
  have HC11 : Hid ((vcs t (.slice ay t.y.length cy) (.slice ak t.ks.length ck) (.slice ai t.is.length ci))[11]? = some (.slice ak t.ks.length ck)) := rfl
  have HC12 : Hid ((vcs t (.slice ay t.y.length cy) (.slice ak t.ks.length ck) (.slice ai t.is.length ci))[12]? = some (.slice ai t.is.length ci)) := rfl
  generalize vcs t (.slice ay t.y.length cy) (.slice ak t.ks.length ck) (.slice ai t.is.length ci) = cs at *
  have hnest : (t.k = 8 ∨ t.k = 9) := by omega
  have g7 : (t.k == 7) = false := beq_eq_false_iff_ne.2 (by omega)
  have g9 : (t.k == 9) = false := beq_eq_false_iff_ne.2 (by omega)
  have hk7 : ¬ t.k = 7 := by omega
  have hk9 : ¬ t.k = 9 := by omega
  clear hk8
  have HV0 := hide HQ0.out.va
  go_enter Tryz.func113, Tryz.ntmps113
  go_wp2_with (refine wpList_valAt rfl rfl w.heap.size 0 cs rfl HSZ.out HV0.out ?_)
  refine (nests_any t _ cs (HTN.out.move (keep_below HQ0.out.1))).mono ?_
  rintro e w1 ⟨rfl, hb1⟩
  have HQ1 := hide (HQ0.out.next hb1)
  have HV1 := hide HQ1.out.va
  clear hb1 HQ0 HV0
  rw [decide_eq_true hnest]
  by_cases h24 : 1024 ≤ a
  · as_aux_lemma =>
    have g24 : (1024 : Int) ≤ (a : Int) := by omega
    have HE : Hid (E = 60) := by show _ = _; rw [HOE.out, if_pos ⟨hnest, h24⟩]
    clear h24
    go_wp2_with fail
    go_ret
    exact ⟨by rw [HE.out]; rfl, HQ1.out.1⟩
  have g24 : ¬ (1024 : Int) ≤ (a : Int) := by omega
  rw [if_neg (fun h => h24 h.2)] at HOE
  clear h24
  go_wp2_with (refine wpList_valAt rfl rfl w.heap.size 0 cs rfl HSZ.out HV1.out ?_)
  refine (tidy_any t _ cs (HTN.out.move (keep_below HQ1.out.1))).mono ?_
  rintro e w2 ⟨rfl, hb2⟩
  have HQ2 := hide (HQ1.out.next hb2)
  clear hb2 HQ1 HV1
  rcases Bool.eq_false_or_eq_true (tidyf t) with htd | htd
  case inr => as_aux_lemma =>
    have HE : Hid (E = 61) := by show _ = _; rw [HOE.out, if_pos htd]
    rw [htd]
    clear htd
    go_wp2_with fail
    go_ret
    exact ⟨by rw [HE.out]; rfl, HQ2.out.1⟩
  rw [htd]
  rw [if_neg (by rw [htd]; simp)] at HOE
  clear htd
  have q4 := blk_cell HQ2.out.2 HC4.out
  have hfb := frombits_any t.b
  have HFI := hide (fun W => finite_any t.b HBD.out.b W)
  generalize finb t.b = fn at *
  cases fn
  case false => as_aux_lemma =>
    have HE : Hid (E = 62) := by show _ = _; rw [HOE.out, if_pos rfl]
    go_wp2_with (go_at_call 124; refine (Hid.out HFI _).mono ?_; rintro e w' ⟨rfl, hww⟩; have hww := hww.symm; subst hww)
    go_ret
    exact ⟨by rw [HE.out]; rfl, HQ2.out.1⟩
  rw [if_neg (by simp)] at HOE
  have q5 := blk_cell HQ2.out.2 HC5.out
  go_wp2_with (go_at_call 124; refine (Hid.out HFI _).mono ?_; rintro e w' ⟨rfl, hww⟩; have hww := hww.symm; subst hww)
  clear hfb HFI q4
  refine (bad6_any t.s w2 HBD.out.s (HT.out.next HQ2.out.1)).mono ?_
  rintro e w3 ⟨rfl, hb3⟩
  have HQ3 := hide (HQ2.out.next hb3)
  clear hb3 HQ2 q5
  generalize hbs : badb t.s = bs at *
  clear hbs
  cases bs
  case true => as_aux_lemma =>
    have HE : Hid (E = 63) := by show _ = _; rw [HOE.out, if_pos (by simp)]
    go_wp2_with fail
    go_ret
    exact ⟨by rw [HE.out]; rfl, HQ3.out.1⟩
  have q11 := blk_cell HQ3.out.2 HC11.out
  go_wp2_with fail
  refine (containsFunc_any w3 _ t.ks (HKS.out.move (keep_below HQ3.out.1)) (HT.out.next HQ3.out.1)).mono ?_
  rintro e w4 ⟨rfl, hb4⟩
  have HQ4 := hide (HQ3.out.next hb4)
  clear hb4 HQ3 q11
  generalize hbk : t.ks.any badb = bk at *
  clear hbk
  cases bk
  case true => as_aux_lemma =>
    have HE : Hid (E = 63) := by show _ = _; rw [HOE.out, if_pos (by simp)]
    go_wp2_with fail
    go_ret
    exact ⟨by rw [HE.out]; rfl, HQ4.out.1⟩
  rw [if_neg (by simp)] at HOE
  have q0 := blk_cell HQ4.out.2 HC0.out
  have HE : Hid (E = 0) := by show _ = _; rw [HOE.out, if_neg (fun h => hk7 h.1), if_neg (fun h => hk9 h.1)]
  go_wp2_with fail
  go_ret
  exact ⟨by rw [HE.out]; rfl, HQ4.out.1⟩
set_option maxRecDepth 1000000 in
set_option maxHeartbeats 2000000 in
theorem alone_x (t : Tv) (hk7 : ¬ t.k = 7) (hk8 : ¬ t.k = 8) (hk9 : ¬ t.k = 9) (a : Nat) (w : World) (cs : Array Value) (ht : Tin w t cs) (hm : tmuch t ≤ 6000000) (hT : Tabs w) : Calls Tryz.prog 113 #[.agg cs, .int .i64 (a : Nat)] w fun e w' => e = .returned (.int .i64 (onef t a : Nat)) ∧ Below w.heap.size w w' := by
  have HTN := hide ht
  have HT := hide hT
  have HSZ := hide ht.size13
  have hme := tmuch_eq t
  have HKL : Hid (t.ks.length ≤ 6000000) := by show _ ≤ _; omega
  have HOE : Hid (onef t a = if (t.k = 8 ∨ t.k = 9) ∧ 1024 ≤ a then 60 else if tidyf t = false then 61 else if finb t.b = false then 62 else if (badb t.s || t.ks.any badb) = true then 63 else if t.k = 7 ∧ ¬ lok t.l then 64 else if t.k = 9 ∧ ¬ (t.ks.length = t.is.length ∧ t.ks.Nodup) then 65 else 0) := rfl
  generalize onef t a = E at *
  obtain ⟨vy, vk, vi, rfl, hy, hk, hv, hb⟩ := ht.parts
  have HKS := hide hk
  have HBD := hide hb
  obtain ⟨⟨ay, cy, rfl, _, _⟩, _⟩ := hy
  obtain ⟨⟨ak, ck, rfl, _, _⟩, _, _⟩ := hk
  obtain ⟨⟨ai, ci, rfl, _, _⟩, _⟩ := hv
  clear ht hT hb hm hme
  have HQ0 : Hid (Aln w (w.alloc (.cells (vcs t (.slice ay t.y.length cy) (.slice ak t.ks.length ck) (.slice ai t.is.length ci)) 55)) (vcs t (.slice ay t.y.length cy) (.slice ak t.ks.length ck) (.slice ai t.is.length ci))) := box_mk0 w _
  have HLK : Hid (∀ wx, Aln w wx (vcs t (.slice ay t.y.length cy) (.slice ak t.ks.length ck) (.slice ai t.is.length ci)) → ∀ j x, (lcs t.l)[j]? = some x → wx.cell? ⟨w.heap.size, 7 + j, none⟩ = some x) := fun wx h => h.lk
  have HC0 : Hid ((vcs t (.slice ay t.y.length cy) (.slice ak t.ks.length ck) (.slice ai t.is.length ci))[0]? = some (.int .i64 t.k)) := rfl
  have HC4 : Hid ((vcs t (.slice ay t.y.length cy) (.slice ak t.ks.length ck) (.slice ai t.is.length ci))[4]? = some (.int .u64 (t.b : Nat))) := rfl
  have HC5 : Hid ((vcs t (.slice ay t.y.length cy) (.slice ak t.ks.length ck) (.slice ai t.is.length ci))[5]? = some (.string t.s)) := rfl
  have HC11 : Hid ((vcs t (.slice ay t.y.length cy) (.slice ak t.ks.length ck) (.slice ai t.is.length ci))[11]? = some (.slice ak t.ks.length ck)) := rfl
  have HC12 : Hid ((vcs t (.slice ay t.y.length cy) (.slice ak t.ks.length ck) (.slice ai t.is.length ci))[12]? = some (.slice ai t.is.length ci)) := rfl
  generalize vcs t (.slice ay t.y.length cy) (.slice ak t.ks.length ck) (.slice ai t.is.length ci) = cs at *
  have hnest : ¬ (t.k = 8 ∨ t.k = 9) := by omega
  have g7 : (t.k == 7) = false := beq_eq_false_iff_ne.2 (by omega)
  have g9 : (t.k == 9) = false := beq_eq_false_iff_ne.2 (by omega)
  have HV0 := hide HQ0.out.va
  go_enter Tryz.func113, Tryz.ntmps113
  go_wp2_with (refine wpList_valAt rfl rfl w.heap.size 0 cs rfl HSZ.out HV0.out ?_)
  refine (nests_any t _ cs (HTN.out.move (keep_below HQ0.out.1))).mono ?_
  rintro e w1 ⟨rfl, hb1⟩
  have HQ1 := hide (HQ0.out.next hb1)
  have HV1 := hide HQ1.out.va
  clear hb1 HQ0 HV0
  rw [decide_eq_false hnest]
  rw [if_neg (fun h => hnest h.1)] at HOE
  go_wp2_with (refine wpList_valAt rfl rfl w.heap.size 0 cs rfl HSZ.out HV1.out ?_)
  refine (tidy_any t _ cs (HTN.out.move (keep_below HQ1.out.1))).mono ?_
  rintro e w2 ⟨rfl, hb2⟩
  have HQ2 := hide (HQ1.out.next hb2)
  clear hb2 HQ1 HV1
  rcases Bool.eq_false_or_eq_true (tidyf t) with htd | htd
  case inr => as_aux_lemma =>
    have HE : Hid (E = 61) := by show _ = _; rw [HOE.out, if_pos htd]
    rw [htd]
    clear htd
    go_wp2_with fail
    go_ret
    exact ⟨by rw [HE.out]; rfl, HQ2.out.1⟩
  rw [htd]
  rw [if_neg (by rw [htd]; simp)] at HOE
  clear htd
  have q4 := blk_cell HQ2.out.2 HC4.out
  have hfb := frombits_any t.b
  have HFI := hide (fun W => finite_any t.b HBD.out.b W)
  generalize finb t.b = fn at *
  cases fn
  case false => as_aux_lemma =>
    have HE : Hid (E = 62) := by show _ = _; rw [HOE.out, if_pos rfl]
    go_wp2_with (go_at_call 124; refine (Hid.out HFI _).mono ?_; rintro e w' ⟨rfl, hww⟩; have hww := hww.symm; subst hww)
    go_ret
    exact ⟨by rw [HE.out]; rfl, HQ2.out.1⟩
  rw [if_neg (by simp)] at HOE
  have q5 := blk_cell HQ2.out.2 HC5.out
  go_wp2_with (go_at_call 124; refine (Hid.out HFI _).mono ?_; rintro e w' ⟨rfl, hww⟩; have hww := hww.symm; subst hww)
  clear hfb HFI q4
  refine (bad6_any t.s w2 HBD.out.s (HT.out.next HQ2.out.1)).mono ?_
  rintro e w3 ⟨rfl, hb3⟩
  have HQ3 := hide (HQ2.out.next hb3)
  clear hb3 HQ2 q5
  generalize hbs : badb t.s = bs at *
  clear hbs
  cases bs
  case true => as_aux_lemma =>
    have HE : Hid (E = 63) := by show _ = _; rw [HOE.out, if_pos (by simp)]
    go_wp2_with fail
    go_ret
    exact ⟨by rw [HE.out]; rfl, HQ3.out.1⟩
  have q11 := blk_cell HQ3.out.2 HC11.out
  go_wp2_with fail
  refine (containsFunc_any w3 _ t.ks (HKS.out.move (keep_below HQ3.out.1)) (HT.out.next HQ3.out.1)).mono ?_
  rintro e w4 ⟨rfl, hb4⟩
  have HQ4 := hide (HQ3.out.next hb4)
  clear hb4 HQ3 q11
  generalize hbk : t.ks.any badb = bk at *
  clear hbk
  cases bk
  case true => as_aux_lemma =>
    have HE : Hid (E = 63) := by show _ = _; rw [HOE.out, if_pos (by simp)]
    go_wp2_with fail
    go_ret
    exact ⟨by rw [HE.out]; rfl, HQ4.out.1⟩
  rw [if_neg (by simp)] at HOE
  have q0 := blk_cell HQ4.out.2 HC0.out
  have HE : Hid (E = 0) := by show _ = _; rw [HOE.out, if_neg (fun h => hk7 h.1), if_neg (fun h => hk9 h.1)]
  go_wp2_with fail
  go_ret
  exact ⟨by rw [HE.out]; rfl, HQ4.out.1⟩
theorem alone_any (t : Tv) (a : Nat) (w : World) (cs : Array Value) (ht : Tin w t cs) (hm : tmuch t ≤ 6000000) (hT : Tabs w) : Calls Tryz.prog 113 #[.agg cs, .int .i64 (a : Nat)] w fun e w' => e = .returned (.int .i64 (onef t a : Nat)) ∧ Below w.heap.size w w' := by
  by_cases h7 : t.k = 7
  · exact alone_7 t h7 a w cs ht hm hT
  · by_cases h9 : t.k = 9
    · exact alone_9 t h9 a w cs ht hm hT
    · by_cases h8 : t.k = 8
      · exact alone_8 t h8 a w cs ht hm hT
      · exact alone_x t h7 h8 h9 a w cs ht hm hT
end
section
open Go.RowKit Go
def ChkC (t : Tv) : Prop := ∀ (a : Nat) (w : World) (cs : Array Value), Tin w t cs → a + tmuch t ≤ 6000000 → tmuch t ≤ 6000000 → Tabs w → Calls Tryz.prog 82 #[.agg cs, .int .i64 (a : Nat)] w fun e w' => e = .returned (.int .i64 (chkf t a : Nat)) ∧ Below w.heap.size w w'
theorem nat_ne0 {a : Nat} : ((a : Int) != 0) = decide (a ≠ 0) := by
  rw [Bool.eq_iff_iff]
  simp
set_option maxRecDepth 1000000 in
set_option maxHeartbeats 1000000 in
theorem checked_step (t : Tv) (ih : ∀ u ∈ t.is, ChkC u) : ChkC t := by
  intro a w cs ht hat hm hT
  have HIH := hide ih
  have HTN := hide ht
  have HT := hide hT
  have HSZ := hide ht.size13
  have hme := tmuch_eq t
  have HML : Hid (a + 1 + tmuchL t.is ≤ 6000000 ∧ tmuchL t.is ≤ 6000000) := ⟨by omega, by omega⟩
  have HMM := hide hm
  have haa : a ≤ 6000000 := by omega
  have HCE := hide (chkf_eq t a)
  clear ih hT hat hm hme
  obtain ⟨vy, vk, vi, rfl, hy, hk, hv, hb⟩ := ht.parts
  obtain ⟨⟨ai, ci, rfl, _, hform⟩, hmax⟩ := hv
  have HF := hide hform
  have HCI : Hid ((vcs t vy vk (.slice ai t.is.length ci))[12]? = some (.slice ai t.is.length ci)) := rfl
  generalize vcs t vy vk (.slice ai t.is.length ci) = cs at *
  clear ht hy hk hb hform
  generalize chkf t a = E at *
  have HQ0 : Hid (Aln w (w.alloc (.cells cs 55)) cs) := box_mk0 w _
  have HV0 := hide HQ0.out.va
  go_enter Tryz.func82, Tryz.ntmps82
  go_wp2_with (refine wpList_valAt rfl rfl w.heap.size 0 cs rfl HSZ.out HV0.out ?_)
  refine (alone_any t a _ cs (HTN.out.move (keep_below HQ0.out.1)) HMM.out (HT.out.next HQ0.out.1)).mono ?_
  rintro e w1 ⟨rfl, hb1⟩
  have HQ1 := hide (HQ0.out.next hb1)
  clear hb1 HQ0 HV0
  by_cases h1 : onef t a = 0
  case neg => as_aux_lemma =>
    have HE : Hid (E = onef t a) := by show _ = _; rw [HCE.out, if_neg h1]
    have g1 : ((onef t a : Int) != 0) = true := by rw [nat_ne0]; simp [h1]
    clear h1
    generalize onef t a = n at *
    go_wp2_with fail
    go_ret
    exact ⟨by rw [HE.out]; rfl, HQ1.out.1⟩
  rw [if_pos h1] at HCE
  rw [h1]
  clear h1
  have q12 := blk_cell HQ1.out.2 HCI.out
  go_wp2_with fail
  go_loopw [18] (fun ii wx => ∃ i : Nat, i ≤ t.is.length ∧ ii = .int .i64 (i : Nat) ∧ Hid (∀ j u, j < i → t.is[j]? = some u → chkf u (a + 1) = 0) ∧ Hid (Below w.heap.size w wx)) (fun ii _ => t.is.length - (intOf ii).toNat)
  case atStart => exact ⟨0, by omega, rfl, fun j u hj => absurd hj (by omega), HQ1.out.1⟩
  case round =>
    obtain ⟨i, hi, rfl, HI, HQ⟩ := hrel
    clear HQ1 q12
    by_cases hlt : i < t.is.length
    · as_aux_lemma =>
      have g1 : (i : Int) < (t.is.length : Int) := by omega
      obtain ⟨u, hu⟩ : ∃ u, t.is[i]? = some u := ⟨t.is[i], List.getElem?_eq_getElem hlt⟩
      obtain ⟨b, off, rfl, hcells⟩ := HF.out.resolve_left (fun h => by rw [h] at hlt; simp at hlt)
      obtain ⟨cu, hcu, hcc⟩ := hcells i u hu
      have HCC : Hid (∀ j v, cu[j]? = some v → wr.cell? ⟨b, off + i * 13 + j, none⟩ = some v) := fun j v hv => keep_below HQ.out _ _ (hcc j v hv)
      have hmem := List.mem_of_getElem? hu
      have HZ1 := hide hcu.size13
      have HA1 := hide hcu.all1
      have HIT := hide (itm_mk wr cu)
      have HG0 := hide (heap_alloc_new wr (.cells zv 55))
      have HIN : Hid ((Tryz.prog.info? 55).map (·.size) = some cu.size) := by show _ = _; rw [HZ1.out]; exact infoV
      have HZV : Hid (zv.size = cu.size) := by show _ = _; rw [HZ1.out]; rfl
      have hmu := tmuchL_mem hmem
      have HCA := hide (HIH.out u hmem (a + 1) _ cu ((hcu.move (keep_below HQ.out)).move (keep_below HIT.out.b)) (by have := HML.out; omega) (by have := HML.out; omega) ((HT.out.next HQ.out).next HIT.out.b))
      have ec : ((a + 1 : Nat) : Int) = (a : Int) + 1 := by omega
      rw [ec] at HCA
      have HCX := hide HIT.out.cells
      have HU := hide hu
      clear hu hcells hcu hcc hmem hmu ec
      go_wp2_with (first
        | (refine wpList_valAt rfl rfl b (off + i * 13) cu rfl HZ1.out HCC.out ?_)
        | (refine wpList_storeRow rfl rfl wr.heap.size zv cu 55 rfl rfl HG0.out HIN.out HZV.out HA1.out ?_)
        | (refine wpList_valAt rfl rfl wr.heap.size 0 cu rfl HZ1.out HCX.out ?_))
      refine HCA.out.mono ?_
      rintro e w5 ⟨rfl, hb5⟩
      have HQ5 : Hid (Below w.heap.size w w5) := (HQ.out.trans (HIT.out.b.mono HQ.out.size)).trans (hb5.mono (Nat.le_trans HQ.out.size HIT.out.b.size))
      clear hb5 HQ HCC HCA HCX HIT HG0
      by_cases he : chkf u (a + 1) = 0
      · have HI2 : Hid (∀ j u, j < i + 1 → t.is[j]? = some u → chkf u (a + 1) = 0) := fun j v hj h1 => by
          by_cases hji : j = i
          · subst hji
            rw [HU.out] at h1
            injection h1 with h1
            rw [← h1]
            exact he
          · exact HI.out j v (by omega) h1
        rw [he]
        clear he HU HI
        go_wp2_with fail
        go_roundw
        case rel => exact ⟨i + 1, by omega, by go_num, HI2, HQ5⟩
        case measure => simp [intOf]; omega
      · have HE : Hid (E = chkf u (a + 1)) := by show _ = _; rw [HCE.out, chkL_at HI.out HU.out he]
        have g2 : ((chkf u (a + 1) : Int) != 0) = true := by rw [nat_ne0]; simp [he]
        clear he HU HI
        generalize chkf u (a + 1) = n at *
        go_wp2_with fail
        go_ret
        exact ⟨by rw [HE.out]; rfl, HQ5.out⟩
    · as_aux_lemma =>
      have g1 : ¬ (i : Int) < (t.is.length : Int) := by omega
      have HE : Hid (E = 0) := by
        show _ = _
        rw [HCE.out]
        refine chkL_none (fun u hu => ?_)
        obtain ⟨j, hj, e⟩ := List.getElem_of_mem hu
        exact HI.out j u (by omega) (by rw [List.getElem?_eq_getElem hj, e])
      go_wp2_with fail
      go_ret
      exact ⟨by rw [HE.out]; rfl, HQ.out⟩
theorem checked_any (t : Tv) : ChkC t := by
  have h : ∀ N, ∀ t : Tv, SizeOf.sizeOf t = N → ChkC t := by
    intro N
    induction N using Nat.strongRecOn with
    | _ N ih => exact fun t hN => checked_step t (fun u hu => ih _ (by rw [← hN]; exact Tv.is_lt hu) u rfl)
  exact h _ t rfl
set_option maxRecDepth 1000000 in
theorem check6_any (t : Tv) (w : World) (cs : Array Value) (ht : Tin w t cs) (hm : tmuch t ≤ 6000000) (hT : Tabs w) : Calls Tryz.prog 37 #[.agg cs] w fun e w' => e = .returned (.int .i64 (chkf t 0 : Nat)) ∧ Below w.heap.size w w' := by
  have HTN := hide ht
  have HT := hide hT
  have HSZ := hide ht.size13
  have HQ0 : Hid (Aln w (w.alloc (.cells cs 55)) cs) := box_mk0 w _
  have HV0 := hide HQ0.out.va
  have HMM := hide hm
  clear ht hT hm
  have HCA := hide (checked_any t 0 _ cs (HTN.out.move (keep_below HQ0.out.1)) (by have := HMM.out; omega) HMM.out (HT.out.next HQ0.out.1))
  generalize chkf t 0 = E at *
  go_enter Tryz.func37, Tryz.ntmps37
  go_wp2_with (refine wpList_valAt rfl rfl w.heap.size 0 cs rfl HSZ.out HV0.out ?_)
  refine HCA.out.mono ?_
  rintro e w1 ⟨rfl, hb1⟩
  have HQ1 := hide (HQ0.out.next hb1)
  clear hb1 HQ0 HV0 HCA
  go_wp2_with fail
  go_ret
  exact ⟨rfl, HQ1.out.1⟩
end
section
open Go.RowKit Go
/-- The places of a value's items, in the form's order. -/
def pls (t : Tv) : List Nat := if t.k = 8 then List.range t.is.length else ordp t.ks (min t.ks.length t.is.length)
/-- A value's links, in the form's order. -/
def lnkf (t : Tv) : List Lk :=
  if t.k = 7 then [t.l]
  else if t.k = 8 ∨ t.k = 9 then (pls t).flatMap fun p => if h : p < t.is.length then lnkf (t.is[p]'h) else []
  else []
termination_by SizeOf.sizeOf t
decreasing_by exact Tv.is_lt (List.getElem_mem _)
def lnx (t : Tv) (p : Nat) : List Lk := if h : p < t.is.length then lnkf (t.is[p]'h) else []
theorem lnx_at {t u : Tv} {p : Nat} (h : t.is[p]? = some u) : lnx t p = lnkf u := by
  have h1 := (List.getElem?_eq_some_iff.1 h).1
  unfold lnx
  rw [dif_pos h1]
  rw [List.getElem?_eq_getElem h1] at h
  injection h with h
  rw [h]
theorem lnkf_7 {t : Tv} (h : t.k = 7) : lnkf t = [t.l] := by rw [lnkf, if_pos h]
theorem lnkf_n {t : Tv} (h7 : t.k ≠ 7) (h : t.k = 8 ∨ t.k = 9) : lnkf t = (pls t).flatMap (lnx t) := by
  rw [lnkf, if_neg h7, if_pos h]
  rfl
theorem lnkf_0 {t : Tv} (h7 : t.k ≠ 7) (h : ¬ (t.k = 8 ∨ t.k = 9)) : lnkf t = [] := by rw [lnkf, if_neg h7, if_neg h]
theorem flat_take {t : Tv} {ps : List Nat} {i p : Nat} (hp : ps[i]? = some p) : (ps.take (i + 1)).flatMap (lnx t) = (ps.take i).flatMap (lnx t) ++ lnx t p := by
  have hi := (List.getElem?_eq_some_iff.1 hp).1
  rw [List.take_succ_eq_append_getElem hi, List.flatMap_append]
  rw [List.getElem?_eq_getElem hi] at hp
  injection hp with hp
  simp [hp]
theorem flat_le {t : Tv} {ps : List Nat} (i : Nat) : ((ps.take i).flatMap (lnx t)).length ≤ (ps.flatMap (lnx t)).length := by
  have h : ps.flatMap (lnx t) = (ps.take i).flatMap (lnx t) ++ (ps.drop i).flatMap (lnx t) := by rw [← List.flatMap_append, List.take_append_drop]
  rw [h, List.length_append]
  omega
/-- What gathered does: links and, behind them, those of a value that lies in an older world. -/
def GatC (t : Tv) : Prop := ∀ (w0 : World) (cs : Array Value), Tin w0 t cs → tmuch t ≤ 100000 → ∀ (w : World) (v : Value) (rs : List Lk), Below w0.heap.size w0 w → w.ownsRow w0.heap.size 53 4 v rs.length (fcl rs) → (rs ++ lnkf t).length ≤ 1000000 →
  Calls Tryz.prog 54 #[v, .agg cs] w fun e w' => ∃ v', e = .returned v' ∧ w'.ownsRow w0.heap.size 53 4 v' (rs ++ lnkf t).length (fcl (rs ++ lnkf t)) ∧ Kp (fun q => v.ownBlock = some q) w w' ∧ (v'.ownBlock = v.ownBlock ∨ ∃ q, v'.ownBlock = some q ∧ w.heap.size ≤ q)
/-- What gathered has in hand within its loop; g: its argument's block. -/
structure Gth (w wx : World) (g : Nat) (cs : Array Value) (B : Nat) (v vx : Value) (rs : List Lk) : Prop where
  o : wx.ownsRow B 53 4 vx rs.length (fcl rs)
  k : Kp (fun q => v.ownBlock = some q) w wx
  r : wx.heap[g]? = some (.cells cs 55 (0, 0))
  q : vx.ownBlock = v.ownBlock ∨ ∃ q, vx.ownBlock = some q ∧ w.heap.size ≤ q
theorem Gth.below {w wx : World} {g : Nat} {cs : Array Value} {B : Nat} {v vx : Value} {rs : List Lk} {w0 : World} (h : Gth w wx g cs B v vx rs) (h0 : Below w0.heap.size w0 w) (hv : ∀ q, v.ownBlock = some q → w0.heap.size ≤ q) : Below w0.heap.size w0 wx := h0.trans (h.k.below h0.size hv)
theorem Gth.step {w wx wy : World} {g : Nat} {cs : Array Value} {B : Nat} {v vx vy : Value} {rs rs' : List Lk} (h : Gth w wx g cs B v vx rs) (hg : g < w.heap.size) (hv : ∀ q, v.ownBlock = some q → q ≠ g) (ho : wy.ownsRow B 53 4 vy rs'.length (fcl rs')) (hk : Kp (fun q => vx.ownBlock = some q) wx wy) (hq : vy.ownBlock = vx.ownBlock ∨ ∃ q, vy.ownBlock = some q ∧ wx.heap.size ≤ q) : Gth w wy g cs B v vy rs' := by
  have hg2 : ¬ vx.ownBlock = some g := fun e => by
    rcases h.q with h1 | ⟨q, h1, h2⟩
    · rw [h1] at e
      exact hv _ e rfl
    · rw [h1] at e
      injection e with e
      omega
  have hz := h.k.size
  refine ⟨ho, h.k.trans hk (fun k hkk e => ?_), (hk.block _ (blk_lt h.r) hg2).trans h.r, ?_⟩
  · rcases h.q with h1 | ⟨q, h1, h2⟩
    · rw [← h1]
      exact e
    · rw [h1] at e
      injection e with e
      omega
  · rcases hq with h1 | ⟨q, h1, h2⟩
    · rw [h1]
      exact h.q
    · exact .inr ⟨q, h1, by omega⟩
end
section
open Go.RowKit Go
theorem append_lkq {ops : Array Oper} {rest : List Oper} {o : Oper} {a : Act} {Q : Exit → Act → World → Prop} {w : World} (hgd : o.guard = none) (s x : Operand)
    (ho : o.op = .call { callee := .builtin .append, args := #[s, x], argTypes := #[67, 67] }) (B : Nat) (v : Value) (n : Nat) (rs : List Lk) (hs : a.eval s = v) (hown : w.ownsRow B 53 4 v n (fcl rs))
    (g : Nat) (l : Lk) (hx : a.eval x = .slice (some ⟨g, 0, none⟩) 1 1) (hg : w.heap[g]? = some (.cells (fcl [l]).toArray 53 (0, 0))) (hlen : n < 1099511627776) (hbase : B ≤ w.heap.size)
    (h : ∀ v' w', w'.ownsRow B 53 4 v' (n + 1) (fcl (rs ++ [l])) → w.grownBy w' v.ownBlock → (v'.ownBlock = v.ownBlock ∨ v'.ownBlock = some w.heap.size) → wpList Tryz.prog ops Q rest (a.put o.dst v') w') : wpList Tryz.prog ops Q (o :: rest) a w := by
  obtain ⟨i, hi, hz0, hz1, hz2⟩ := infoLk_ex
  refine wpList_append_own_at w hgd s x 67 ho B 53 i _ 4 40 Tryz.underlying67 hi hz0 hz1 hz2 rfl (by decide) v n (fcl rs) hs hown ⟨g, 0, none⟩ 1 1 (fcl [l]) hx (by rw [fcl_len]; rfl) (fun j u hu => ?_) (fcl_one [l]) (by unfold maxLen; omega) (by omega) hbase fun v' w' h1 h2 _ h4 => h v' w' (by rw [fcl_app]; exact h1) h2 h4
  have hadd : (⟨g, 0, none⟩ : Addr).add j = ⟨g, j, none⟩ := by unfold Addr.add; split <;> simp_all
  rw [hadd]
  exact blk_cell hg (by rw [List.getElem?_toArray]; exact hu)
set_option maxRecDepth 1000000 in
set_option maxHeartbeats 1000000 in
theorem gathered_step (t : Tv) (ih : ∀ u ∈ t.is, GatC u) : GatC t := by
  intro w0 cs ht hm w v rs hb0 hown hlen
  have HIH := hide ih
  have HT0 := hide ht
  have HSZ := hide ht.size13
  have hme := tmuch_eq t
  have HML : Hid (tmuchL t.is ≤ 100000 ∧ t.ks.length ≤ 100000) := ⟨by omega, by omega⟩
  have HB0 := hide hb0
  have HO0 := hide hown
  have HLN := hide hlen
  have HVB : Hid (∀ q, v.ownBlock = some q → w0.heap.size ≤ q ∧ q < w.heap.size) := fun q hq => hown.lt q hq
  clear ih hm hme hb0 hlen
  obtain ⟨ax, cx, hvx⟩ : ∃ ax cx, v = .slice ax rs.length cx := own_slice hown
  subst hvx
  clear hown
  obtain ⟨vy, vk, vi, rfl, hy, hk, hv, hb⟩ := ht.parts
  have HLB := hide hb.l
  obtain ⟨⟨ai, ci, rfl, _, hform⟩, hmax⟩ := hv
  have HF := hide hform
  have HC0 : Hid ((vcs t vy vk (.slice ai t.is.length ci))[0]? = some (.int .i64 t.k)) := rfl
  have HC12 : Hid ((vcs t vy vk (.slice ai t.is.length ci))[12]? = some (.slice ai t.is.length ci)) := rfl
  have HLK : Hid (∀ (wx : World) (g : Nat), wx.heap[g]? = some (.cells (vcs t vy vk (.slice ai t.is.length ci)) 55 (0, 0)) → ∀ j x, (lcs t.l)[j]? = some x → wx.cell? ⟨g, 7 + j, none⟩ = some x) := fun wx g h j x hx => lk_in h hx
  generalize vcs t vy vk (.slice ai t.is.length ci) = cs at *
  clear ht hy hk hb hform
  have HG0 : Hid (Gth w (w.alloc (.cells cs 55)) w.heap.size cs w0.heap.size (.slice ax rs.length cx) (.slice ax rs.length cx) rs) := ⟨HO0.out.alloc _, Kp.of_below (below_alloc4 w _), heap_alloc_new w _, .inl rfl⟩
  have q0 := blk_cell HG0.out.r HC0.out
  by_cases h7 : t.k = 7
  · as_aux_lemma =>
    have g7 : (t.k == 7) = true := beq_iff_eq.2 h7
    have HE : Hid (lnkf t = [t.l]) := lnkf_7 h7
    have HLA := hide (HLK.out _ _ HG0.out.r)
    have HL1 := hide (heap_alloc_new (w.alloc (.cells cs 55)) (.cells (fcl [t.l]).toArray 53))
    have HLE : Hid (rs.length ≤ 1000000) := by have := HLN.out; rw [List.length_append] at this; show _ ≤ _; omega
    have HBZ : Hid (w0.heap.size ≤ w.heap.size) := HB0.out.size
    clear h7
    go_enter Tryz.func54, Tryz.ntmps54
    go_wp2_with (first
      | (refine wpList_lkAt rfl rfl w.heap.size 7 t.l rfl HLA.out ?_)
      | (refine wpList_lks1 rfl rfl t.l rfl ?_)
      | (at_builtin; refine append_lkq rfl _ _ rfl w0.heap.size _ rs.length rs rfl (HG0.out.o.alloc _) (w.alloc (.cells cs 55)).heap.size t.l rfl HL1.out ?b1 ?b2 ?_))
    case b1 => have := HLE.out; omega
    case b2 => have := HBZ.out; simp; omega
    intro v2 w2 ho2 hg2 hv2
    have hk2 : Kp (fun q => (Value.slice ax rs.length cx).ownBlock = some q) w w2 := ((Kp.of_below (below_alloc4 w _)).trans (Kp.of_below (below_alloc4 (w.alloc (.cells cs 55)) _)) (fun _ _ h => h)).grown hg2 (fun _ _ h => h)
    have HO2 : Hid (w2.ownsRow w0.heap.size 53 4 v2 (rs ++ lnkf t).length (fcl (rs ++ lnkf t))) := by
      show World.ownsRow _ _ _ _ _ _ _
      rw [HE.out, List.length_append]
      exact ho2
    have HK2 := hide hk2
    have HQ2 : Hid (v2.ownBlock = (Value.slice ax rs.length cx).ownBlock ∨ ∃ q, v2.ownBlock = some q ∧ w.heap.size ≤ q) := hv2.imp id (fun h => ⟨_, h, by first | omega | (simp; omega) | simp⟩)
    clear ho2 hg2 hk2 hv2
    go_wp2_with fail
    go_ret
    exact ⟨_, rfl, HO2.out, HK2.out, HQ2.out⟩
  have g7 : (t.k == 7) = false := beq_eq_false_iff_ne.2 h7
  by_cases h8 : t.k = 8
  · have g8 : (t.k == 8) = true := beq_iff_eq.2 h8
    have HE : Hid (lnkf t = (List.range t.is.length).flatMap (lnx t)) := by
      show _ = _
      rw [lnkf_n h7 (.inl h8)]
      unfold pls
      rw [if_pos h8]
    have q12 := blk_cell HG0.out.r HC12.out
    have HB1 : Hid (Below w0.heap.size w0 (w.alloc (.cells cs 55))) := HB0.out.trans ((below_alloc4 w _).mono HB0.out.size)
    have HG1 : Hid (Gth (w.alloc (.cells cs 55)) (w.alloc (.cells cs 55)) w.heap.size cs w0.heap.size (.slice ax rs.length cx) (.slice ax rs.length cx) rs) := ⟨HG0.out.o, Kp.refl _ _, HG0.out.r, .inl rfl⟩
    have HK1 : Hid (Kp (fun q => (Value.slice ax rs.length cx).ownBlock = some q) w (w.alloc (.cells cs 55)) ∧ (w.alloc (.cells cs 55)).heap.size = w.heap.size + 1) := ⟨Kp.of_below (below_alloc4 w _), by simp⟩
    clear h7 h8 HG0
    go_enter Tryz.func54, Tryz.ntmps54
    go_wp2_with fail
    clear q0 q12
    generalize w.alloc (.cells cs 55) = w1 at *
    go_loopw [0, 23] (fun vv ii wx => ∃ i : Nat, i ≤ t.is.length ∧ ii = .int .i64 (i : Nat) ∧ Hid (Gth w1 wx w.heap.size cs w0.heap.size (.slice ax rs.length cx) vv (rs ++ ((List.range t.is.length).take i).flatMap (lnx t)))) (fun _ ii _ => t.is.length - (intOf ii).toNat)
    case atStart => exact ⟨0, by omega, rfl, by simpa using HG1⟩
    case round =>
      obtain ⟨i, hi, rfl, HG⟩ := hrel
      clear HG1
      obtain ⟨bx, dx, hux⟩ := own_slice HG.out.o
      subst hux
      have HBW := hide (HG.out.below HB1.out (fun q hq => (HVB.out q hq).1))
      by_cases hlt : i < t.is.length
      · as_aux_lemma =>
        have g1 : (i : Int) < (t.is.length : Int) := by omega
        obtain ⟨u, hu⟩ : ∃ u, t.is[i]? = some u := ⟨t.is[i], List.getElem?_eq_getElem hlt⟩
        obtain ⟨b, off, rfl, hcells⟩ := HF.out.resolve_left (fun h => by rw [h] at hlt; simp at hlt)
        obtain ⟨cu, hcu, hcc⟩ := hcells i u hu
        have HCC : Hid (∀ j x, cu[j]? = some x → wr.cell? ⟨b, off + i * 13 + j, none⟩ = some x) := fun j x hx => keep_below HBW.out _ _ (hcc j x hx)
        have hmem := List.mem_of_getElem? hu
        have HZ1 := hide hcu.size13
        have HA1 := hide hcu.all1
        have HIT := hide (itm_mk wr cu)
        have HGN := hide (heap_alloc_new wr (.cells zv 55))
        have HIN : Hid ((Tryz.prog.info? 55).map (·.size) = some cu.size) := by show _ = _; rw [HZ1.out]; exact infoV
        have HZV : Hid (zv.size = cu.size) := by show _ = _; rw [HZ1.out]; rfl
        have HCX := hide HIT.out.cells
        have hfl : ((List.range t.is.length).take (i + 1)).flatMap (lnx t) = ((List.range t.is.length).take i).flatMap (lnx t) ++ lnkf u := by rw [flat_take (List.getElem?_range hlt), lnx_at hu]
        have hle := flat_le (t := t) (ps := List.range t.is.length) (i + 1)
        have HGI : Hid (Gth w1 ((wr.alloc (.cells zv 55)).setRow wr.heap.size cu) w.heap.size cs w0.heap.size (.slice ax rs.length cx) (.slice bx (rs ++ ((List.range t.is.length).take i).flatMap (lnx t)).length dx) (rs ++ ((List.range t.is.length).take i).flatMap (lnx t))) := HG.out.step (by have := HK1.out.2; omega) (fun q hq e => by have := HVB.out q hq; omega) ((Kp.of_below (S := fun _ => False) HIT.out.b).owns HG.out.o (fun _ _ h => h)) (Kp.of_below HIT.out.b) (.inl rfl)
        have HCA := hide (HIH.out u hmem w0 cu hcu (Nat.le_trans (tmuchL_mem hmem) HML.out.1) _ _ _ (HBW.out.trans (HIT.out.b.mono HBW.out.size)) HGI.out.o (by
          have h1 := HLN.out
          rw [HE.out, List.length_append] at h1
          rw [List.append_assoc, ← hfl, List.length_append]
          omega))
        rw [List.append_assoc, ← hfl] at HCA
        clear hu hcells hcu hcc hmem hfl hle
        generalize hnn : (rs ++ ((List.range t.is.length).take i).flatMap (lnx t)).length = nn at *
        clear hnn
        go_wp2_with (first
          | (refine wpList_valAt rfl rfl b (off + i * 13) cu rfl HZ1.out HCC.out ?_)
          | (refine wpList_storeRow rfl rfl wr.heap.size zv cu 55 rfl rfl HGN.out HIN.out HZV.out HA1.out ?_)
          | (refine wpList_valAt rfl rfl wr.heap.size 0 cu rfl HZ1.out HCX.out ?_))
        refine HCA.out.mono ?_
        rintro e w5 ⟨v5, rfl, ho5, hk5, hq5⟩
        have HG5 := hide (HGI.out.step (by have := HK1.out.2; omega) (fun q hq e => by have := HVB.out q hq; omega) ho5 hk5 hq5)
        clear ho5 hk5 hq5 HCA HGI HCX HIT HGN HCC
        go_wp2_with fail
        go_roundw
        case rel => exact ⟨i + 1, by omega, by go_num, HG5⟩
        case measure => simp [intOf]; omega
      · as_aux_lemma =>
        have g1 : ¬ (i : Int) < (t.is.length : Int) := by omega
        have hL : i = t.is.length := by omega
        have HGE : Hid (Gth w1 wr w.heap.size cs w0.heap.size (.slice ax rs.length cx) (.slice bx (rs ++ ((List.range t.is.length).take i).flatMap (lnx t)).length dx) (rs ++ lnkf t)) := by
          have h := HG.out
          rw [HE.out]
          have e : (List.range t.is.length).take i = (List.range t.is.length) := List.take_of_length_le (by simp; omega)
          rw [e] at h ⊢
          exact h
        clear HG
        generalize (rs ++ ((List.range t.is.length).take i).flatMap (lnx t)).length = nn at *
        go_wp2_with fail
        go_ret
        exact ⟨_, rfl, by first | exact HGE.out.o | (have h := HGE.out.o; rw [List.length_append] at h; exact h), HK1.out.1.trans HGE.out.k (fun _ _ h => h), HGE.out.q.imp id (fun ⟨q, h1, h2⟩ => ⟨q, h1, by have := HK1.out.2; omega⟩)⟩
  have g8 : (t.k == 8) = false := beq_eq_false_iff_ne.2 h8
  by_cases h9 : t.k = 9
  · have g9 : (t.k == 9) = true := beq_iff_eq.2 h9
    have HE0 : Hid (lnkf t = (ordp t.ks (min t.ks.length t.is.length)).flatMap (lnx t)) := by
      show _ = _
      rw [lnkf_n h7 (.inr h9)]
      unfold pls
      rw [if_neg h8]
    have HV0 : Hid (∀ j u, cs[j]? = some u → (w.alloc (.cells cs 55)).cell? ⟨w.heap.size, 0 + j, none⟩ = some u) := fun j u hu => by rw [Nat.zero_add]; exact blk_cell HG0.out.r hu
    clear h7 h8 h9
    go_enter Tryz.func54, Tryz.ntmps54
    go_wp2_with (refine wpList_valAt rfl rfl w.heap.size 0 cs rfl HSZ.out HV0.out ?_)
    refine (order6_any t _ cs ((HT0.out.move (keep_below HB0.out)).move (keep_below (below_alloc4 w _))) (by have := HML.out; omega)).mono ?_
    rintro e w2 ⟨vp, ps, rfl, hpo, hsp, hop, hb2⟩
    have HE : Hid (lnkf t = ps.flatMap (lnx t)) := by show _ = _; rw [HE0.out, hpo]
    clear hpo HE0
    have HSP := hide hsp
    have hpl : ps.length ≤ 100000 := by have := hsp.len; have := HML.out; omega
    have hi2 := ISl.own hop rfl (by omega)
    have e1 : (w.alloc (.cells cs 55)).heap.size = w.heap.size + 1 := by simp
    have HK1 : Hid (Kp (fun q => (Value.slice ax rs.length cx).ownBlock = some q) w w2 ∧ w.heap.size < w2.heap.size) := ⟨(Kp.of_below (below_alloc4 w _)).trans (Kp.of_below hb2) (fun _ _ h => h), by have := hb2.size; omega⟩
    have HB1 : Hid (Below w0.heap.size w0 w2) := (HB0.out.trans ((below_alloc4 w _).mono HB0.out.size)).trans (hb2.mono (by have := HB0.out.size; omega))
    have hpg : ∀ q, vp.ownBlock = some q → w.heap.size < q := fun q hq => by
      have := hop.lt q hq
      omega
    obtain ⟨⟨pa, pc, rfl, _, hpf⟩, _⟩ := hi2
    have HPG : Hid (∀ q, (Value.slice pa ps.length pc).ownBlock = some q → w.heap.size < q) := hpg
    have HPF := hide hpf
    have HG1 : Hid (Gth w2 w2 w.heap.size cs w0.heap.size (.slice ax rs.length cx) (.slice ax rs.length cx) rs) := ⟨(Kp.of_below (S := fun _ => False) hb2).owns HG0.out.o (fun _ _ h => h), Kp.refl _ _, (hb2.block _ (by omega)).trans HG0.out.r, .inl rfl⟩
    clear hsp hop hb2 hpf hpg e1 HG0 HV0 q0
    go_wp2_with fail
    go_loopw [0, 36] (fun vv ii wx => ∃ i : Nat, i ≤ ps.length ∧ ii = .int .i64 (i : Nat) ∧ Hid (Gth w2 wx w.heap.size cs w0.heap.size (.slice ax rs.length cx) vv (rs ++ (ps.take i).flatMap (lnx t)))) (fun _ ii _ => ps.length - (intOf ii).toNat)
    case atStart => exact ⟨0, by omega, rfl, by simpa using HG1⟩
    case round =>
      obtain ⟨i, hi, rfl, HG⟩ := hrel
      clear HG1
      obtain ⟨bx, dx, hux⟩ := own_slice HG.out.o
      subst hux
      have HBW := hide (HG.out.below HB1.out (fun q hq => (HVB.out q hq).1))
      by_cases hlt : i < ps.length
      · as_aux_lemma =>
        have g1 : (i : Int) < (ps.length : Int) := by omega
        obtain ⟨p, hp⟩ : ∃ p, ps[i]? = some p := ⟨ps[i], List.getElem?_eq_getElem hlt⟩
        have hpl := HSP.out.lt p (List.mem_of_getElem? hp)
        have hp2 : p < t.is.length := by omega
        obtain ⟨u, hu⟩ : ∃ u, t.is[p]? = some u := ⟨t.is[p], List.getElem?_eq_getElem hp2⟩
        obtain ⟨b, off, rfl, hcells⟩ := HF.out.resolve_left (fun h => by rw [h] at hp2; simp at hp2)
        obtain ⟨cu, hcu, hcc⟩ := hcells p u hu
        obtain ⟨b1, off1, rfl, hc1⟩ := HPF.out.resolve_left (fun h => by rw [h] at hlt; simp at hlt)
        have HCC : Hid (∀ j x, cu[j]? = some x → wr.cell? ⟨b, off + p * 13 + j, none⟩ = some x) := fun j x hx => keep_below HBW.out _ _ (hcc j x hx)
        have hmem := List.mem_of_getElem? hu
        have HZ1 := hide hcu.size13
        have c1 : wr.cell? ⟨b1, off1 + i, none⟩ = some (.int .i64 (p : Nat)) := HG.out.k.cell (hc1 i p hp) (fun e => by have h1 := HVB.out b1 e; have h2 := HPG.out b1 rfl; omega)
        have c12 : wr.cell? ⟨w.heap.size, 12, none⟩ = some (.slice (some ⟨b, off, none⟩) t.is.length ci) := blk_cell HG.out.r HC12.out
        have g2 : (p : Int) < (t.is.length : Int) := by omega
        have hfl : (ps.take (i + 1)).flatMap (lnx t) = (ps.take i).flatMap (lnx t) ++ lnkf u := by rw [flat_take hp, lnx_at hu]
        have hle := flat_le (t := t) (ps := ps) (i + 1)
        have HCA := hide (HIH.out u hmem w0 cu hcu (Nat.le_trans (tmuchL_mem hmem) HML.out.1) wr _ _ HBW.out HG.out.o (by
          have h1 := HLN.out
          rw [HE.out, List.length_append] at h1
          rw [List.append_assoc, ← hfl, List.length_append]
          omega))
        rw [List.append_assoc, ← hfl] at HCA
        have HGI := hide HG.out
        clear hu hcells hcu hcc hmem hfl hle hc1 hp HG
        generalize hnn : (rs ++ (ps.take i).flatMap (lnx t)).length = nn at *
        clear hnn
        go_wp2_with (refine wpList_valAt rfl rfl b (off + p * 13) cu rfl HZ1.out HCC.out ?_)
        refine HCA.out.mono ?_
        rintro e w5 ⟨v5, rfl, ho5, hk5, hq5⟩
        have HG5 := hide (HGI.out.step (by have := HK1.out.2; omega) (fun q hq e => by have := HVB.out q hq; omega) ho5 hk5 hq5)
        clear ho5 hk5 hq5 HCA HGI HCC c1 c12
        go_wp2_with fail
        go_roundw
        case rel => exact ⟨i + 1, by omega, by go_num, HG5⟩
        case measure => simp [intOf]; omega
      · as_aux_lemma =>
        have g1 : ¬ (i : Int) < (ps.length : Int) := by omega
        have hL : i = ps.length := by omega
        have HGE : Hid (Gth w2 wr w.heap.size cs w0.heap.size (.slice ax rs.length cx) (.slice bx (rs ++ (ps.take i).flatMap (lnx t)).length dx) (rs ++ lnkf t)) := by
          have h := HG.out
          rw [HE.out]
          have e : ps.take i = ps := List.take_of_length_le (by omega)
          rw [e] at h ⊢
          exact h
        clear HG
        generalize (rs ++ (ps.take i).flatMap (lnx t)).length = nn at *
        go_wp2_with fail
        go_ret
        exact ⟨_, rfl, by first | exact HGE.out.o | (have h := HGE.out.o; rw [List.length_append] at h; exact h), HK1.out.1.trans HGE.out.k (fun _ _ h => h), HGE.out.q.imp id (fun ⟨q, h1, h2⟩ => ⟨q, h1, by have := HK1.out.2; omega⟩)⟩
  · as_aux_lemma =>
    have g9 : (t.k == 9) = false := beq_eq_false_iff_ne.2 h9
    have HE : Hid (lnkf t = []) := lnkf_0 h7 (fun h => h.elim h8 h9)
    clear h7 h8 h9
    go_enter Tryz.func54, Tryz.ntmps54
    go_wp2_with fail
    go_ret
    exact ⟨_, rfl, by rw [HE.out, List.append_nil]; exact HG0.out.o, HG0.out.k, .inl rfl⟩
theorem gathered_any (t : Tv) : GatC t := by
  have h : ∀ N, ∀ t : Tv, SizeOf.sizeOf t = N → GatC t := by
    intro N
    induction N using Nat.strongRecOn with
    | _ N ih => exact fun t hN => gathered_step t (fun u hu => ih _ (by rw [← hN]; exact Tv.is_lt hu) u rfl)
  exact h _ t rfl
end
section
open Go.RowKit Go
/-- Two lists held against each other. -/
def alk {α β : Type} (f : α → β → Bool) : List α → List β → Bool
  | [], [] => true
  | x :: xs, y :: ys => f x y && alk f xs ys
  | _, _ => false
theorem alk_len {α β : Type} (f : α → β → Bool) : ∀ (l : List α) (m : List β), l.length ≠ m.length → alk f l m = false
  | [], [], h => absurd rfl h
  | [], _ :: _, _ => rfl
  | _ :: _, [], _ => rfl
  | x :: xs, y :: ys, h => by
    rw [alk, alk_len f xs ys (by simpa using h), Bool.and_false]
theorem alk_iff {α β : Type} (f : α → β → Bool) : ∀ (l : List α) (m : List β), alk f l m = true ↔ l.length = m.length ∧ ∀ (i : Nat) (x : α) (y : β), l[i]? = some x → m[i]? = some y → f x y = true
  | [], [] => by simp [alk]
  | [], _ :: _ => by simp [alk]
  | _ :: _, [] => by simp [alk]
  | x :: xs, y :: ys => by
    rw [alk, Bool.and_eq_true, alk_iff f xs ys]
    constructor
    · rintro ⟨h1, h2, h3⟩
      refine ⟨by simp [h2], fun i u v hu hv => ?_⟩
      cases i with
      | zero =>
        simp at hu hv
        subst hu hv
        exact h1
      | succ i =>
        simp at hu hv
        exact h3 i u v hu hv
    · rintro ⟨h1, h2⟩
      exact ⟨h2 0 x y rfl rfl, by simpa using h1, fun i u v hu hv => h2 (i + 1) u v (by simpa using hu) (by simpa using hv)⟩
theorem alk_yes {α β : Type} {f : α → β → Bool} {l : List α} {m : List β} (hl : l.length = m.length) (h : ∀ (i : Nat) (x : α) (y : β), l[i]? = some x → m[i]? = some y → f x y = true) : alk f l m = true := (alk_iff f l m).2 ⟨hl, h⟩
theorem alk_no {α β : Type} {f : α → β → Bool} {l : List α} {m : List β} {i : Nat} {x : α} {y : β} (hx : l[i]? = some x) (hy : m[i]? = some y) (h : f x y = false) : alk f l m = false := by
  rcases Bool.eq_false_or_eq_true (alk f l m) with e | e
  · have := ((alk_iff f l m).1 e).2 i x y hx hy
    rw [h] at this
    cases this
  · exact e
set_option maxRecDepth 1000000 in
set_option maxHeartbeats 1000000 in
theorem alikeI_any (G : Nat) (cb : Array Value) (eG : ∀ args w, (callFunc G args).run Tryz.prog w = .ok (.enter G args) w) (w : World) (va vb : Value) (pa pb : List Nat) (f : Nat → Nat → Bool) (ha : ISl w va pa) (hb : ISl w vb pb)
    (hf : ∀ wx, Below w.heap.size w wx → ∀ (i p q : Nat), pa[i]? = some p → pb[i]? = some q → Calls Tryz.prog G (#[.int .i64 (p : Nat), .int .i64 (q : Nat)] ++ cb) wx fun e w' => e = .returned (.bool (f p q)) ∧ Below wx.heap.size wx w') :
    Calls Tryz.prog 83 #[va, vb, .func (.func G) #[] cb] w fun e w' => e = .returned (.bool (alk f pa pb)) ∧ Below w.heap.size w w' := by
  obtain ⟨⟨a, ca, rfl, _, hca⟩, hma⟩ := ha
  obtain ⟨⟨b, cb2, rfl, _, hcb⟩, hmb⟩ := hb
  have HA := hide hca
  have HBx := hide hcb
  have HFF := hide hf
  clear hca hcb hf
  go_enter Tryz.func83, Tryz.ntmps83
  by_cases hl : pa.length = pb.length
  · have g0 : ((pa.length : Int) != (pb.length : Int)) = false := by rw [nat_ne]; simp [hl]
    have HL := hide hl
    clear hl
    go_wp2_with fail
    go_loopw [15] (fun ii wx => ∃ i : Nat, i ≤ pa.length ∧ ii = .int .i64 (i : Nat) ∧ Hid (∀ j p q, j < i → pa[j]? = some p → pb[j]? = some q → f p q = true) ∧ Hid (Below w.heap.size w wx)) (fun ii _ => pa.length - (intOf ii).toNat)
    case atStart => exact ⟨0, by omega, rfl, fun j p q hj => absurd hj (by omega), Below.refl _ _⟩
    case round =>
      obtain ⟨i, hi, rfl, HI, HBw⟩ := hrel
      by_cases hlt : i < pa.length
      · have g1 : (i : Int) < (pa.length : Int) := by omega
        have hlt2 : i < pb.length := by rw [← HL.out]; exact hlt
        have g2 : (i : Int) < (pb.length : Int) := by omega
        obtain ⟨p, hp⟩ : ∃ p, pa[i]? = some p := ⟨pa[i], List.getElem?_eq_getElem hlt⟩
        obtain ⟨q, hq⟩ : ∃ p, pb[i]? = some p := ⟨pb[i], List.getElem?_eq_getElem hlt2⟩
        obtain ⟨b1, off1, rfl, hc1⟩ := HA.out.resolve_left (fun h => by rw [h] at hlt; simp at hlt)
        obtain ⟨b2, off2, rfl, hc2⟩ := HBx.out.resolve_left (fun h => by rw [h] at hlt2; simp at hlt2)
        have c1 : ∀ t : Ext wr, t.w'.cell? ⟨b1, off1 + i, none⟩ = some (.int .i64 (p : Nat)) := fun t => keep_below t.h _ _ (keep_below HBw.out _ _ (hc1 i p hp))
        have c2 : ∀ t : Ext wr, t.w'.cell? ⟨b2, off2 + i, none⟩ = some (.int .i64 (q : Nat)) := fun t => keep_below t.h _ _ (keep_below HBw.out _ _ (hc2 i q hq))
        have HC0 : Hid (∀ t : Ext wr, Calls Tryz.prog G (#[.int .i64 (p : Nat), .int .i64 (q : Nat)] ++ cb) t.w' fun e w'' => e = .returned (.bool (f p q)) ∧ ∃ t' : Ext wr, w'' = t'.w') := fun t => Calls.ext_below (HFF.out t.w' (HBw.out.trans (t.h.mono HBw.out.size)) i p q hp hq)
        clear hc1 hc2 HA HBx HFF
        rcases Bool.eq_false_or_eq_true (f p q) with hr | hr
        · have HI2 : Hid (∀ j p q, j < i + 1 → pa[j]? = some p → pb[j]? = some q → f p q = true) := fun j p' q' hj h1 h2 => by
            by_cases hji : j = i
            · subst hji
              rw [hp] at h1
              rw [hq] at h2
              injection h1 with h1
              injection h2 with h2
              subst h1 h2
              exact hr
            · exact HI.out j p' q' (by omega) h1 h2
          rw [hr] at HC0
          clear hr hp hq HI
          go_wp2_with fail
          refine region_ext (by kernel_rfl) (by kernel_rfl) ?_
          repeat (
            refine wpQuiet_step (fun K hK => ?_)
            (go_simp
             first
               | (refine hK _ ?_; clear hK K)
               | (apply Exists.intro
                  refine ⟨fun _ => ?_, hK _ ?_⟩
                  (go_at_fn G; exact HC0.out _)
                  clear hK K)))
          refine wpQuiet_nil ?_
          rintro _ ⟨tq, rfl⟩
          have HB2 : Hid (Below w.heap.size w tq.w') := HBw.out.trans (tq.h.mono HBw.out.size)
          clear c1 c2 HC0
          go_wp2_with fail
          go_roundw
          case rel => exact ⟨i + 1, by omega, by go_num, HI2, HB2⟩
          case measure => simp [intOf]; omega
        · have HN : Hid (alk f pa pb = false) := alk_no hp hq hr
          rw [hr] at HC0
          clear hr hp hq HI
          go_wp2_with fail
          refine region_ext (by kernel_rfl) (by kernel_rfl) ?_
          repeat (
            refine wpQuiet_step (fun K hK => ?_)
            (go_simp
             first
               | (refine hK _ ?_; clear hK K)
               | (apply Exists.intro
                  refine ⟨fun _ => ?_, hK _ ?_⟩
                  (go_at_fn G; exact HC0.out _)
                  clear hK K)))
          refine wpQuiet_nil ?_
          rintro _ ⟨tq, rfl⟩
          have HB2 : Hid (Below w.heap.size w tq.w') := HBw.out.trans (tq.h.mono HBw.out.size)
          clear c1 c2 HC0
          go_wp2_with fail
          go_ret
          exact ⟨by rw [HN.out]; rfl, HB2.out⟩
      · as_aux_lemma =>
        have g1 : ¬ (i : Int) < (pa.length : Int) := by omega
        have HN : Hid (alk f pa pb = true) := alk_yes HL.out (fun j p q h1 h2 => HI.out j p q (by have := (List.getElem?_eq_some_iff.1 h1).1; omega) h1 h2)
        go_wp2_with fail
        go_ret
        exact ⟨by rw [HN.out]; rfl, HBw.out⟩
  · as_aux_lemma =>
    have g0 : ((pa.length : Int) != (pb.length : Int)) = true := by rw [nat_ne]; simp [hl]
    have HN : Hid (alk f pa pb = false) := alk_len f pa pb hl
    clear hl
    go_wp2_with fail
    go_ret
    exact ⟨by rw [HN.out]; rfl, Below.refl _ _⟩
end
section
open Go.RowKit Go
set_option maxRecDepth 1000000 in
set_option maxHeartbeats 1000000 in
theorem alikeB_any (G : Nat) (cb : Array Value) (eG : ∀ args w, (callFunc G args).run Tryz.prog w = .ok (.enter G args) w) (w : World) (va vb : Value) (pa pb : List Nat) (f : Nat → Nat → Bool) (ha : BSl w va pa) (hb : BSl w vb pb)
    (hf : ∀ wx, Below w.heap.size w wx → ∀ (i p q : Nat), pa[i]? = some p → pb[i]? = some q → Calls Tryz.prog G (#[.int .u8 (p : Nat), .int .u8 (q : Nat)] ++ cb) wx fun e w' => e = .returned (.bool (f p q)) ∧ Below wx.heap.size wx w') :
    Calls Tryz.prog 85 #[va, vb, .func (.func G) #[] cb] w fun e w' => e = .returned (.bool (alk f pa pb)) ∧ Below w.heap.size w w' := by
  obtain ⟨⟨a, ca, rfl, _, hca⟩, hma, _⟩ := ha
  obtain ⟨⟨b, cb2, rfl, _, hcb⟩, hmb, _⟩ := hb
  have HA := hide hca
  have HBx := hide hcb
  have HFF := hide hf
  clear hca hcb hf
  go_enter Tryz.func85, Tryz.ntmps85
  by_cases hl : pa.length = pb.length
  · have g0 : ((pa.length : Int) != (pb.length : Int)) = false := by rw [nat_ne]; simp [hl]
    have HL := hide hl
    clear hl
    go_wp2_with fail
    go_loopw [15] (fun ii wx => ∃ i : Nat, i ≤ pa.length ∧ ii = .int .i64 (i : Nat) ∧ Hid (∀ j p q, j < i → pa[j]? = some p → pb[j]? = some q → f p q = true) ∧ Hid (Below w.heap.size w wx)) (fun ii _ => pa.length - (intOf ii).toNat)
    case atStart => exact ⟨0, by omega, rfl, fun j p q hj => absurd hj (by omega), Below.refl _ _⟩
    case round =>
      obtain ⟨i, hi, rfl, HI, HBw⟩ := hrel
      by_cases hlt : i < pa.length
      · have g1 : (i : Int) < (pa.length : Int) := by omega
        have hlt2 : i < pb.length := by rw [← HL.out]; exact hlt
        have g2 : (i : Int) < (pb.length : Int) := by omega
        obtain ⟨p, hp⟩ : ∃ p, pa[i]? = some p := ⟨pa[i], List.getElem?_eq_getElem hlt⟩
        obtain ⟨q, hq⟩ : ∃ p, pb[i]? = some p := ⟨pb[i], List.getElem?_eq_getElem hlt2⟩
        obtain ⟨b1, off1, rfl, hc1⟩ := HA.out.resolve_left (fun h => by rw [h] at hlt; simp at hlt)
        obtain ⟨b2, off2, rfl, hc2⟩ := HBx.out.resolve_left (fun h => by rw [h] at hlt2; simp at hlt2)
        have c1 : ∀ t : Ext wr, t.w'.cell? ⟨b1, off1 + i, none⟩ = some (.int .u8 (p : Nat)) := fun t => keep_below t.h _ _ (keep_below HBw.out _ _ (by have h := hc1 i hlt; rw [show pa.getD i 0 = p by simp [List.getD, hp]] at h; exact h))
        have c2 : ∀ t : Ext wr, t.w'.cell? ⟨b2, off2 + i, none⟩ = some (.int .u8 (q : Nat)) := fun t => keep_below t.h _ _ (keep_below HBw.out _ _ (by have h := hc2 i hlt2; rw [show pb.getD i 0 = q by simp [List.getD, hq]] at h; exact h))
        have HC0 : Hid (∀ t : Ext wr, Calls Tryz.prog G (#[.int .u8 (p : Nat), .int .u8 (q : Nat)] ++ cb) t.w' fun e w'' => e = .returned (.bool (f p q)) ∧ ∃ t' : Ext wr, w'' = t'.w') := fun t => Calls.ext_below (HFF.out t.w' (HBw.out.trans (t.h.mono HBw.out.size)) i p q hp hq)
        clear hc1 hc2 HA HBx HFF
        rcases Bool.eq_false_or_eq_true (f p q) with hr | hr
        · have HI2 : Hid (∀ j p q, j < i + 1 → pa[j]? = some p → pb[j]? = some q → f p q = true) := fun j p' q' hj h1 h2 => by
            by_cases hji : j = i
            · subst hji
              rw [hp] at h1
              rw [hq] at h2
              injection h1 with h1
              injection h2 with h2
              subst h1 h2
              exact hr
            · exact HI.out j p' q' (by omega) h1 h2
          rw [hr] at HC0
          clear hr hp hq HI
          go_wp2_with fail
          refine region_ext (by kernel_rfl) (by kernel_rfl) ?_
          repeat (
            refine wpQuiet_step (fun K hK => ?_)
            (go_simp
             first
               | (refine hK _ ?_; clear hK K)
               | (apply Exists.intro
                  refine ⟨fun _ => ?_, hK _ ?_⟩
                  (go_at_fn G; exact HC0.out _)
                  clear hK K)))
          refine wpQuiet_nil ?_
          rintro _ ⟨tq, rfl⟩
          have HB2 : Hid (Below w.heap.size w tq.w') := HBw.out.trans (tq.h.mono HBw.out.size)
          clear c1 c2 HC0
          go_wp2_with fail
          go_roundw
          case rel => exact ⟨i + 1, by omega, by go_num, HI2, HB2⟩
          case measure => simp [intOf]; omega
        · have HN : Hid (alk f pa pb = false) := alk_no hp hq hr
          rw [hr] at HC0
          clear hr hp hq HI
          go_wp2_with fail
          refine region_ext (by kernel_rfl) (by kernel_rfl) ?_
          repeat (
            refine wpQuiet_step (fun K hK => ?_)
            (go_simp
             first
               | (refine hK _ ?_; clear hK K)
               | (apply Exists.intro
                  refine ⟨fun _ => ?_, hK _ ?_⟩
                  (go_at_fn G; exact HC0.out _)
                  clear hK K)))
          refine wpQuiet_nil ?_
          rintro _ ⟨tq, rfl⟩
          have HB2 : Hid (Below w.heap.size w tq.w') := HBw.out.trans (tq.h.mono HBw.out.size)
          clear c1 c2 HC0
          go_wp2_with fail
          go_ret
          exact ⟨by rw [HN.out]; rfl, HB2.out⟩
      · as_aux_lemma =>
        have g1 : ¬ (i : Int) < (pa.length : Int) := by omega
        have HN : Hid (alk f pa pb = true) := alk_yes HL.out (fun j p q h1 h2 => HI.out j p q (by have := (List.getElem?_eq_some_iff.1 h1).1; omega) h1 h2)
        go_wp2_with fail
        go_ret
        exact ⟨by rw [HN.out]; rfl, HBw.out⟩
  · as_aux_lemma =>
    have g0 : ((pa.length : Int) != (pb.length : Int)) = true := by rw [nat_ne]; simp [hl]
    have HN : Hid (alk f pa pb = false) := alk_len f pa pb hl
    clear hl
    go_wp2_with fail
    go_ret
    exact ⟨by rw [HN.out]; rfl, Below.refl _ _⟩
set_option maxRecDepth 1000000 in
set_option maxHeartbeats 1000000 in
theorem alikeV_any (G : Nat) (cb : Array Value) (eG : ∀ args w, (callFunc G args).run Tryz.prog w = .ok (.enter G args) w) (w : World) (va vb : Value) (pa pb : List Tv) (f : Nat → Nat → Bool) (ha : VSl w va pa) (hb : VSl w vb pb)
    (hf : ∀ wx, Below w.heap.size w wx → ∀ (i : Nat) (p q : Tv) (c1 c2 : Array Value), pa[i]? = some p → pb[i]? = some q → Tin wx p c1 → Tin wx q c2 → Calls Tryz.prog G (#[.agg c1, .agg c2] ++ cb) wx fun e w' => e = .returned (.bool (f i i)) ∧ Below wx.heap.size wx w') :
    Calls Tryz.prog 87 #[va, vb, .func (.func G) #[] cb] w fun e w' => e = .returned (.bool (alk f (List.range pa.length) (List.range pb.length))) ∧ Below w.heap.size w w' := by
  obtain ⟨⟨a, ca, rfl, _, hca⟩, hma⟩ := ha
  obtain ⟨⟨b, cb2, rfl, _, hcb⟩, hmb⟩ := hb
  have HA := hide hca
  have HBx := hide hcb
  have HFF := hide hf
  clear hca hcb hf
  go_enter Tryz.func87, Tryz.ntmps87
  by_cases hl : pa.length = pb.length
  · have g0 : ((pa.length : Int) != (pb.length : Int)) = false := by rw [nat_ne]; simp [hl]
    have HL := hide hl
    clear hl
    go_wp2_with fail
    go_loopw [15] (fun ii wx => ∃ i : Nat, i ≤ pa.length ∧ ii = .int .i64 (i : Nat) ∧ Hid (∀ j, j < i → f j j = true) ∧ Hid (Below w.heap.size w wx)) (fun ii _ => pa.length - (intOf ii).toNat)
    case atStart => exact ⟨0, by omega, rfl, fun j hj => absurd hj (by omega), Below.refl _ _⟩
    case round =>
      obtain ⟨i, hi, rfl, HI, HBw⟩ := hrel
      by_cases hlt : i < pa.length
      · have g1 : (i : Int) < (pa.length : Int) := by omega
        have hlt2 : i < pb.length := by rw [← HL.out]; exact hlt
        have g2 : (i : Int) < (pb.length : Int) := by omega
        obtain ⟨p, hp⟩ : ∃ p, pa[i]? = some p := ⟨pa[i], List.getElem?_eq_getElem hlt⟩
        obtain ⟨q, hq⟩ : ∃ p, pb[i]? = some p := ⟨pb[i], List.getElem?_eq_getElem hlt2⟩
        obtain ⟨b1, off1, rfl, hc1⟩ := HA.out.resolve_left (fun h => by rw [h] at hlt; simp at hlt)
        obtain ⟨b2, off2, rfl, hc2⟩ := HBx.out.resolve_left (fun h => by rw [h] at hlt2; simp at hlt2)
        obtain ⟨cu1, hcu1, hcc1⟩ := hc1 i p hp
        obtain ⟨cu2, hcu2, hcc2⟩ := hc2 i q hq
        have HQ1 : Hid (∀ wx, (∃ t : Ext wr, wx = t.w') → ∀ j x, cu1[j]? = some x → wx.cell? ⟨b1, off1 + i * 13 + j, none⟩ = some x) := by
          rintro _ ⟨t, rfl⟩ j x hx
          exact keep_below t.h _ _ (keep_below HBw.out _ _ (hcc1 j x hx))
        have HQ2 : Hid (∀ wx, (∃ t : Ext wr, wx = t.w') → ∀ j x, cu2[j]? = some x → wx.cell? ⟨b2, off2 + i * 13 + j, none⟩ = some x) := by
          rintro _ ⟨t, rfl⟩ j x hx
          exact keep_below t.h _ _ (keep_below HBw.out _ _ (hcc2 j x hx))
        have HZ1 := hide hcu1.size
        have HZ2 := hide hcu2.size
        have HC0 : Hid (∀ t : Ext wr, Calls Tryz.prog G (#[.agg cu1, .agg cu2] ++ cb) t.w' fun e w'' => e = .returned (.bool (f i i)) ∧ ∃ t' : Ext wr, w'' = t'.w') := fun t => Calls.ext_below (HFF.out t.w' (HBw.out.trans (t.h.mono HBw.out.size)) i p q cu1 cu2 hp hq ((hcu1.move (keep_below HBw.out)).move (keep_below t.h)) ((hcu2.move (keep_below HBw.out)).move (keep_below t.h)))
        clear hc1 hc2 hcc1 hcc2 hcu1 hcu2 HA HBx HFF
        rcases Bool.eq_false_or_eq_true (f i i) with hr | hr
        · have HI2 : Hid (∀ j, j < i + 1 → f j j = true) := fun j hj => by
            by_cases hji : j = i
            · subst hji
              exact hr
            · exact HI.out j (by omega)
          rw [hr] at HC0
          clear hr hp hq HI
          go_wp2_with fail
          refine region_ext (by kernel_rfl) (by kernel_rfl) ?_
          repeat (
            refine wpQuiet_step (fun K hK => ?_)
            first
              | (refine qstep_valAt rfl rfl b1 (off1 + i * 13) cu1 HZ1.out rfl HQ1.out (hK _ ?_); clear hK K)
              | (refine qstep_valAt rfl rfl b2 (off2 + i * 13) cu2 HZ2.out rfl HQ2.out (hK _ ?_); clear hK K)
              | (go_simp
                 first
               | (refine hK _ ?_; clear hK K)
               | (apply Exists.intro
                  refine ⟨fun _ => ?_, hK _ ?_⟩
                  (go_at_fn G; exact HC0.out _)
                  clear hK K)))
          refine wpQuiet_nil ?_
          rintro _ ⟨tq, rfl⟩
          have HB2 : Hid (Below w.heap.size w tq.w') := HBw.out.trans (tq.h.mono HBw.out.size)
          clear HC0 HQ1 HQ2
          go_wp2_with fail
          go_roundw
          case rel => exact ⟨i + 1, by omega, by go_num, HI2, HB2⟩
          case measure => simp [intOf]; omega
        · have HN : Hid (alk f (List.range pa.length) (List.range pb.length) = false) := alk_no (i := i) (List.getElem?_range hlt) (List.getElem?_range hlt2) hr
          rw [hr] at HC0
          clear hr hp hq HI
          go_wp2_with fail
          refine region_ext (by kernel_rfl) (by kernel_rfl) ?_
          repeat (
            refine wpQuiet_step (fun K hK => ?_)
            first
              | (refine qstep_valAt rfl rfl b1 (off1 + i * 13) cu1 HZ1.out rfl HQ1.out (hK _ ?_); clear hK K)
              | (refine qstep_valAt rfl rfl b2 (off2 + i * 13) cu2 HZ2.out rfl HQ2.out (hK _ ?_); clear hK K)
              | (go_simp
                 first
               | (refine hK _ ?_; clear hK K)
               | (apply Exists.intro
                  refine ⟨fun _ => ?_, hK _ ?_⟩
                  (go_at_fn G; exact HC0.out _)
                  clear hK K)))
          refine wpQuiet_nil ?_
          rintro _ ⟨tq, rfl⟩
          have HB2 : Hid (Below w.heap.size w tq.w') := HBw.out.trans (tq.h.mono HBw.out.size)
          clear HC0 HQ1 HQ2
          go_wp2_with fail
          go_ret
          exact ⟨by rw [HN.out]; rfl, HB2.out⟩
      · as_aux_lemma =>
        have g1 : ¬ (i : Int) < (pa.length : Int) := by omega
        have HN : Hid (alk f (List.range pa.length) (List.range pb.length) = true) := alk_yes (by simp [HL.out]) (fun j p q h1 h2 => by
          have hj := (List.getElem?_eq_some_iff.1 h1).1
          have hj2 := (List.getElem?_eq_some_iff.1 h2).1
          simp at hj hj2
          rw [List.getElem?_range hj] at h1
          rw [List.getElem?_range hj2] at h2
          injection h1 with h1
          injection h2 with h2
          subst h1
          subst h2
          exact HI.out j (by omega))
        go_wp2_with fail
        go_ret
        exact ⟨by rw [HN.out]; rfl, HBw.out⟩
  · as_aux_lemma =>
    have g0 : ((pa.length : Int) != (pb.length : Int)) = true := by rw [nat_ne]; simp [hl]
    have HN : Hid (alk f (List.range pa.length) (List.range pb.length) = false) := alk_len f _ _ (by simpa using hl)
    clear hl
    go_wp2_with fail
    go_ret
    exact ⟨by rw [HN.out]; rfl, Below.refl _ _⟩
theorem alk_eq {x y : List Nat} : alk (fun p q : Nat => decide (p = q)) x y = decide (x = y) := by
  rw [Bool.eq_iff_iff, alk_iff, decide_eq_true_iff]
  constructor
  · rintro ⟨h1, h2⟩
    apply List.ext_getElem?
    intro i
    by_cases hi : i < x.length
    · have a := List.getElem?_eq_getElem hi
      have b := List.getElem?_eq_getElem (show i < y.length by omega)
      have := h2 i _ _ a b
      rw [decide_eq_true_iff] at this
      rw [a, b, this]
    · rw [List.getElem?_eq_none (by omega), List.getElem?_eq_none (by omega)]
  · intro e
    subst e
    exact ⟨rfl, fun i p q h1 h2 => by rw [h1] at h2; injection h2 with h2; simp [h2]⟩
set_option maxRecDepth 1000000 in
theorem eq2_any (p q : Nat) (w : World) : Calls Tryz.prog 86 #[.int .u8 (p : Nat), .int .u8 (q : Nat)] w fun e w' => e = .returned (.bool (decide (p = q))) ∧ Below w.heap.size w w' := by
  have HE : Hid (((p : Int) == (q : Int)) = decide (p = q)) := by
    show _ = _
    rw [Bool.eq_iff_iff]
    simp
    omega
  go_enter Tryz.func86, Tryz.ntmps86
  go_wp2_with fail
  go_ret
  exact ⟨by rw [← HE.out]; rfl, Below.refl _ _⟩
theorem alikeE_any (w : World) (va vb : Value) (x y : List Nat) (hx : BSl w va x) (hy : BSl w vb y) : Calls Tryz.prog 85 #[va, vb, .func (.func 86) #[] #[]] w fun e w' => e = .returned (.bool (decide (x = y))) ∧ Below w.heap.size w w' := by
  have eG : ∀ args w, (callFunc 86 args).run Tryz.prog w = .ok (.enter 86 args) w := enters_of Tryz.func86 (by kernel_rfl) rfl
  have h := alikeB_any 86 #[] eG w va vb x y (fun p q => decide (p = q)) hx hy (fun wx _ i p q _ _ => eq2_any p q wx)
  rw [alk_eq] at h
  exact h
end
section
open Go.RowKit Go
/-- What Equal answers, by its own steps. -/
def eqf (a b : Tv) : Bool :=
  if a.k = 9 ∧ b.k = 9 then
    alk (fun p q => decide (a.ks.getD p ⟨#[]⟩ = b.ks.getD q ⟨#[]⟩) && (if h : p < a.is.length ∧ q < b.is.length then eqf (a.is[p]'h.1) (b.is[q]'h.2) else false)) (ordp a.ks (min a.ks.length a.is.length)) (ordp b.ks (min b.ks.length b.is.length))
  else
    decide (a.k = b.k) && (decide (a.f = b.f) && (decide (a.g = b.g) && (decide (a.n = b.n) && (decide (a.b = b.b) && (decide (a.s = b.s) && (decide (a.l = b.l) && (decide (a.y = b.y) && alk (fun i j => if h : i < a.is.length ∧ j < b.is.length then eqf (a.is[i]'h.1) (b.is[j]'h.2) else false) (List.range a.is.length) (List.range b.is.length))))))))
termination_by SizeOf.sizeOf a
decreasing_by all_goals exact Tv.is_lt (List.getElem_mem _)
/-- Two items held against each other. -/
def eqx (a b : Tv) (i j : Nat) : Bool := if h : i < a.is.length ∧ j < b.is.length then eqf (a.is[i]'h.1) (b.is[j]'h.2) else false
theorem eqx_at {a b u v : Tv} {i j : Nat} (hu : a.is[i]? = some u) (hv : b.is[j]? = some v) : eqx a b i j = eqf u v := by
  have h1 := (List.getElem?_eq_some_iff.1 hu).1
  have h2 := (List.getElem?_eq_some_iff.1 hv).1
  unfold eqx
  rw [dif_pos ⟨h1, h2⟩]
  rw [List.getElem?_eq_getElem h1] at hu
  rw [List.getElem?_eq_getElem h2] at hv
  injection hu with hu
  injection hv with hv
  rw [hu, hv]
def eqk (a b : Tv) (p q : Nat) : Bool := decide (a.ks.getD p ⟨#[]⟩ = b.ks.getD q ⟨#[]⟩) && eqx a b p q
theorem eqf_map {a b : Tv} (ha : a.k = 9) (hb : b.k = 9) : eqf a b = alk (eqk a b) (ordp a.ks (min a.ks.length a.is.length)) (ordp b.ks (min b.ks.length b.is.length)) := by
  rw [eqf, if_pos ⟨ha, hb⟩]
  rfl
theorem eqf_rest {a b : Tv} (h : ¬ (a.k = 9 ∧ b.k = 9)) : eqf a b = (decide (a.k = b.k) && (decide (a.f = b.f) && (decide (a.g = b.g) && (decide (a.n = b.n) && (decide (a.b = b.b) && (decide (a.s = b.s) && (decide (a.l = b.l) && (decide (a.y = b.y) && alk (eqx a b) (List.range a.is.length) (List.range b.is.length))))))))) := by
  rw [eqf, if_neg h]
  rfl
/-- What is asked of Equal at an item. -/
def EqC (a : Tv) : Prop := ∀ (b : Tv) (w : World) (ca cb : Array Value), Tin w a ca → Tin w b cb → tmuch a ≤ 6000000 → tmuch b ≤ 6000000 → Calls Tryz.prog 39 #[.agg ca, .agg cb] w fun e w' => e = .returned (.bool (eqf a b)) ∧ Below w.heap.size w w'
set_option maxRecDepth 1000000 in
set_option maxHeartbeats 1000000 in
theorem clo2_any (a b : Tv) (ih : ∀ u ∈ a.is, EqC u) (w : World) (A B : Nat) (ca cb : Array Value) (hA : w.heap[A]? = some (.cells ca 55 (0, 0))) (hB : w.heap[B]? = some (.cells cb 55 (0, 0))) (ha : Tin w a ca) (hb : Tin w b cb) (hma : tmuchL a.is ≤ 6000000) (hmb : tmuchL b.is ≤ 6000000) (p q : Nat) (hp1 : p < a.ks.length) (hp2 : p < a.is.length) (hq1 : q < b.ks.length) (hq2 : q < b.is.length) :
    Calls Tryz.prog 84 #[.int .i64 (p : Nat), .int .i64 (q : Nat), .pointer (some ⟨A, 0, none⟩), .pointer (some ⟨B, 0, none⟩)] w fun e w' => e = .returned (.bool (eqk a b p q)) ∧ Below w.heap.size w w' := by
  obtain ⟨u, hu⟩ : ∃ u, a.is[p]? = some u := ⟨a.is[p], List.getElem?_eq_getElem hp2⟩
  obtain ⟨v, hv⟩ : ∃ u, b.is[q]? = some u := ⟨b.is[q], List.getElem?_eq_getElem hq2⟩
  have HE : Hid (eqk a b p q = (decide (a.ks.getD p ⟨#[]⟩ = b.ks.getD q ⟨#[]⟩) && eqf u v)) := by
    show _ = _
    unfold eqk
    rw [eqx_at hu hv]
  obtain ⟨vy1, vk1, vi1, rfl, hy1, hk1, hv1, _⟩ := ha.parts
  obtain ⟨vy2, vk2, vi2, rfl, hy2, hk2, hv2, _⟩ := hb.parts
  obtain ⟨⟨ak1, ck1, rfl, _, hkf1⟩, hkm1, _⟩ := hk1
  obtain ⟨⟨ak2, ck2, rfl, _, hkf2⟩, hkm2, _⟩ := hk2
  obtain ⟨⟨ai1, ci1, rfl, _, hif1⟩, him1⟩ := hv1
  obtain ⟨⟨ai2, ci2, rfl, _, hif2⟩, him2⟩ := hv2
  obtain ⟨bk1, ok1, rfl, hkc1⟩ := hkf1.resolve_left (fun h => by rw [h] at hp1; simp at hp1)
  obtain ⟨bk2, ok2, rfl, hkc2⟩ := hkf2.resolve_left (fun h => by rw [h] at hq1; simp at hq1)
  obtain ⟨bi1, oi1, rfl, hic1⟩ := hif1.resolve_left (fun h => by rw [h] at hp2; simp at hp2)
  obtain ⟨bi2, oi2, rfl, hic2⟩ := hif2.resolve_left (fun h => by rw [h] at hq2; simp at hq2)
  obtain ⟨cu1, hcu1, hcc1⟩ := hic1 p u hu
  obtain ⟨cu2, hcu2, hcc2⟩ := hic2 q v hv
  have hs1 : a.ks[p]? = some (a.ks.getD p ⟨#[]⟩) := by simp [List.getD, List.getElem?_eq_getElem hp1]
  have hs2 : b.ks[q]? = some (b.ks.getD q ⟨#[]⟩) := by simp [List.getD, List.getElem?_eq_getElem hq1]
  have s1 : ∀ t : Ext w, t.w'.cell? ⟨bk1, ok1 + p, none⟩ = some (.string (a.ks.getD p ⟨#[]⟩)) := fun t => keep_below t.h _ _ (hkc1 _ _ hs1)
  have s2 : ∀ t : Ext w, t.w'.cell? ⟨bk2, ok2 + q, none⟩ = some (.string (b.ks.getD q ⟨#[]⟩)) := fun t => keep_below t.h _ _ (hkc2 _ _ hs2)
  have x1 : ∀ t : Ext w, t.w'.cell? ⟨A, 11, none⟩ = some (.slice (some ⟨bk1, ok1, none⟩) a.ks.length ck1) := fun t => keep_below t.h _ _ (blk_cell hA rfl)
  have x2 : ∀ t : Ext w, t.w'.cell? ⟨B, 11, none⟩ = some (.slice (some ⟨bk2, ok2, none⟩) b.ks.length ck2) := fun t => keep_below t.h _ _ (blk_cell hB rfl)
  have y1 : ∀ t : Ext w, t.w'.cell? ⟨A, 12, none⟩ = some (.slice (some ⟨bi1, oi1, none⟩) a.is.length ci1) := fun t => keep_below t.h _ _ (blk_cell hA rfl)
  have y2 : ∀ t : Ext w, t.w'.cell? ⟨B, 12, none⟩ = some (.slice (some ⟨bi2, oi2, none⟩) b.is.length ci2) := fun t => keep_below t.h _ _ (blk_cell hB rfl)
  have HQ1 : Hid (∀ wx, (∃ t : Ext w, wx = t.w') → ∀ j x, cu1[j]? = some x → wx.cell? ⟨bi1, oi1 + p * 13 + j, none⟩ = some x) := by
    rintro _ ⟨t, rfl⟩ j x hx
    exact keep_below t.h _ _ (hcc1 j x hx)
  have HQ2 : Hid (∀ wx, (∃ t : Ext w, wx = t.w') → ∀ j x, cu2[j]? = some x → wx.cell? ⟨bi2, oi2 + q * 13 + j, none⟩ = some x) := by
    rintro _ ⟨t, rfl⟩ j x hx
    exact keep_below t.h _ _ (hcc2 j x hx)
  have HZ1 := hide hcu1.size
  have HZ2 := hide hcu2.size
  have HC0 : Hid (∀ t : Ext w, Calls Tryz.prog 39 #[.agg cu1, .agg cu2] t.w' fun e w'' => e = .returned (.bool (eqf u v)) ∧ ∃ t' : Ext w, w'' = t'.w') := fun t => Calls.ext_below (ih u (List.mem_of_getElem? hu) v t.w' cu1 cu2 (hcu1.move (keep_below t.h)) (hcu2.move (keep_below t.h)) (Nat.le_trans (tmuchL_mem (List.mem_of_getElem? hu)) hma) (Nat.le_trans (tmuchL_mem (List.mem_of_getElem? hv)) hmb))
  have g1 : (p : Int) < (a.ks.length : Int) := by omega
  have g2 : (q : Int) < (b.ks.length : Int) := by omega
  have g3 : (p : Int) < (a.is.length : Int) := by omega
  have g4 : (q : Int) < (b.is.length : Int) := by omega
  clear ih hA hB ha hb hma hmb hu hv hkf1 hkf2 hif1 hif2 hkc1 hkc2 hic1 hic2 hcu1 hcu2 hcc1 hcc2 hs1 hs2 hy1 hy2
  generalize a.ks.getD p ⟨#[]⟩ = k1 at *
  generalize b.ks.getD q ⟨#[]⟩ = k2 at *
  generalize eqf u v = R at *
  go_enter Tryz.func84, Tryz.ntmps84
  by_cases he : k1 = k2
  · as_aux_lemma =>
    have hne : (k1.toList == k2.toList) = true := by rw [he]; simp
    rw [decide_eq_true he, Bool.true_and] at HE
    clear he
    go_wp2_with fail
    refine region_ext (by kernel_rfl) (by kernel_rfl) ?_
    repeat (
      refine wpQuiet_step (fun K hK => ?_)
      first
        | (refine qstep_valAt rfl rfl bi1 (oi1 + p * 13) cu1 HZ1.out rfl HQ1.out (hK _ ?_); clear hK K)
        | (refine qstep_valAt rfl rfl bi2 (oi2 + q * 13) cu2 HZ2.out rfl HQ2.out (hK _ ?_); clear hK K)
        | (go_simp
           first
             | (refine hK _ ?_; clear hK K)
             | (apply Exists.intro
                refine ⟨fun _ => ?_, hK _ ?_⟩
                (go_at_call 39; exact HC0.out _)
                clear hK K)))
    refine wpQuiet_nil ?_
    rintro _ ⟨tq, rfl⟩
    go_wp2_with fail
    go_ret
    exact ⟨by rw [HE.out]; rfl, tq.h⟩
  · as_aux_lemma =>
    have hne : (k1.toList == k2.toList) = false := str_beq_no he
    rw [decide_eq_false he, Bool.false_and] at HE
    have z1 := s1 ⟨w, Below.refl _ _⟩
    have z2 := s2 ⟨w, Below.refl _ _⟩
    have z3 := x1 ⟨w, Below.refl _ _⟩
    have z4 := x2 ⟨w, Below.refl _ _⟩
    clear he s1 s2 x1 x2 y1 y2
    go_wp2_with fail
    go_quiet (fail)
    go_wp2_with fail
    go_ret
    exact ⟨by rw [HE.out]; rfl, ((Kp.refl (fun _ => False) w).drewN _).below (Nat.le_refl _) (fun _ h => h.elim)⟩
end
section
open Go.RowKit Go
theorem exec_loadV {o : Oper} {a : Act} {p : Operand} {g : Nat} {cs : Array Value} {w : World} (ho : o.op = .load 55 p) (hp : a.eval p = .pointer (some ⟨g, 0, none⟩)) (hn : cs.size = 13) (hg : w.heap[g]? = some (.cells cs 55 (0, 0))) : (execOp a.eval o).run Tryz.prog w = .ok (.value (.agg cs)) w := by
  unfold execOp
  have hr := load_val (w := w) g 0 cs hn (fun j u hu => by rw [Nat.zero_add]; exact blk_cell hg hu)
  simp only [ho, Sem.run_bind, hp, hr, Result.andThen_ok]
  rfl
set_option maxRecDepth 1000000 in
set_option maxHeartbeats 2000000 in
theorem equal_map (a b : Tv) (ih : ∀ u ∈ a.is, EqC u) (h9 : a.k = 9) (h9b : b.k = 9) (w : World) (ca cb : Array Value) (hTa : Tin w a ca) (hTb : Tin w b cb) (hma : tmuch a ≤ 6000000) (hmb : tmuch b ≤ 6000000) : Calls Tryz.prog 39 #[.agg ca, .agg cb] w fun e w' => e = .returned (.bool (eqf a b)) ∧ Below w.heap.size w w' := by
  have hmf : ∀ (fn : Fn) (first cap : Array Value) (w : World), (Instr.makeFunc fn first cap).run Tryz.prog w = .ok (.func fn first cap) w := fun _ _ _ _ => rfl
  have eG : ∀ args w, (callFunc 84 args).run Tryz.prog w = .ok (.enter 84 args) w := enters_of Tryz.func84 (by kernel_rfl) rfl
  have HEG := hide eG
  have HR := hide (eqf_map h9 h9b)
  generalize hR : eqf a b = R at *
  clear hR eG
  have hme := tmuch_eq a
  have hme2 := tmuch_eq b
  have HIH := hide ih
  have HTA := hide hTa
  have HTB := hide hTb
  have HKA : Hid (a.ks.length ≤ 6000000 ∧ tmuchL a.is ≤ 6000000) := ⟨by omega, by omega⟩
  have HKB : Hid (b.ks.length ≤ 6000000 ∧ tmuchL b.is ≤ 6000000) := ⟨by omega, by omega⟩
  have HSA := hide hTa.size13
  have HSB := hide hTb.size13
  have HA0 : Hid (ca[0]? = some (.int .i64 a.k)) := by
    obtain ⟨vy, vk, vi, rfl, _⟩ := hTa.parts
    exact rfl
  have HB0 : Hid (cb[0]? = some (.int .i64 b.k)) := by
    obtain ⟨vy, vk, vi, rfl, _⟩ := hTb.parts
    exact rfl
  clear ih hTa hTb hma hmb hme hme2
  have HW0 := hide (Bw.start w ca cb)
  have q1 := blk_cell (j := 0) HW0.out.a HA0.out
  have q2 := blk_cell (j := 0) HW0.out.c HB0.out
  have g1 : (a.k == 9) = true := by rw [h9]; rfl
  have g2 : (b.k == 9) = true := by rw [h9b]; rfl
  clear h9 h9b
  go_enter Tryz.func39, Tryz.ntmps39
  go_wp2_with fail
  generalize (w.alloc (.cells ca 55)).alloc (.cells cb 55) = w2 at *
  refine heldStart (S := fun w' => Bw w w' ca cb) (by kernel_rfl) ?_
  have hS : Bw w w2.drew ca cb := HW0.out.next (by refine Below.drew ?_; exact Below.refl _ _)
  refine heldTake 0 _ rfl (by kernel_rfl) (by kernel_rfl) (by kernel_rfl) (fun _ _ _ h => h) rfl hS (fun wy hy => exec_loadV rfl rfl HSA.out hy.a) ?_
  (try simp only [Act.put]); (try simp only [List.setIfInBounds_toArray, List.set_cons_zero, List.set_cons_succ])
  refine heldTake 2 _ rfl (by kernel_rfl) (by kernel_rfl) (by kernel_rfl) (fun _ _ _ h => h) rfl hS (fun wy hy => exec_loadV rfl rfl HSB.out hy.c) ?_
  (try simp only [Act.put]); (try simp only [List.setIfInBounds_toArray, List.set_cons_zero, List.set_cons_succ])
  refine heldTake 4 _ rfl (by kernel_rfl) (by kernel_rfl) (by kernel_rfl) (fun _ _ _ h => h) rfl hS (fun wy hy => rfl) ?_
  (try simp only [Act.put]); (try simp only [List.setIfInBounds_toArray, List.set_cons_zero, List.set_cons_succ])
  refine heldStep 1 rfl (by kernel_rfl) (fun K hK => ?_)
  go_simp
  refine (order6_any a _ ca (HTA.out.move (keep_below hS.b)) (by have := HKA.out; omega)).mono ?_
  rintro e w3 ⟨v1, pa, rfl, hpa, hsa, hoa, hb3⟩
  have HPA := hide hpa
  have HQA := hide hsa
  have HI3 := hide (ISl.own hoa rfl (by have := hsa.len; have := HKA.out; omega))
  obtain ⟨xa, xc, hvx⟩ := own_slice hoa
  subst hvx
  clear hpa hsa hoa
  refine (Hid.out hK) _ _ (hS.next hb3) (fun hS2 => ?_)
  clear hK K hS
  have hS := hS2
  clear hS2
  (try simp only [Act.put]); (try simp only [List.setIfInBounds_toArray, List.set_cons_zero, List.set_cons_succ])
  clear hb3
  refine heldStep 3 rfl (by kernel_rfl) (fun K hK => ?_)
  go_simp
  refine (order6_any b _ cb (HTB.out.move (keep_below hS.b)) (by have := HKB.out; omega)).mono ?_
  rintro e w4 ⟨v2, pb, rfl, hpb, hsb, hob, hb4⟩
  have HPB := hide hpb
  have HQB := hide hsb
  have HI4 := hide (ISl.own hob rfl (by have := hsb.len; have := HKB.out; omega))
  have HI34 := hide (HI3.out.move (keep_below hb4))
  obtain ⟨xb, xd, hvx⟩ := own_slice hob
  subst hvx
  clear hpb hsb hob HI3
  refine (Hid.out hK) _ _ (hS.next hb4) (fun hS2 => ?_)
  clear hK K hS
  have hS := hS2
  clear hS2
  (try simp only [Act.put]); (try simp only [List.setIfInBounds_toArray, List.set_cons_zero, List.set_cons_succ])
  clear hb4
  have HCL : Hid (Calls Tryz.prog 83 #[.slice xa pa.length xc, .slice xb pb.length xd, .func (.func 84) #[] #[.pointer (some ⟨w.heap.size, 0, none⟩), .pointer (some ⟨w.heap.size + 1, 0, none⟩)]] w4 fun e w' => e = .returned (.bool R) ∧ Below w4.heap.size w4 w') := by
    have h := alikeI_any 84 #[.pointer (some ⟨w.heap.size, 0, none⟩), .pointer (some ⟨w.heap.size + 1, 0, none⟩)] HEG.out w4 _ _ pa pb (eqk a b) HI34.out HI4.out (fun wx hbx i p q hp hq => by
      have hwx := hS.next hbx
      have l1 := HQA.out.lt p (List.mem_of_getElem? hp)
      have l2 := HQB.out.lt q (List.mem_of_getElem? hq)
      exact clo2_any a b HIH.out wx w.heap.size (w.heap.size + 1) ca cb hwx.a hwx.c (HTA.out.move (keep_below hwx.b)) (HTB.out.move (keep_below hwx.b)) HKA.out.2 HKB.out.2 p q (by omega) (by omega) (by omega) (by omega))
    rw [HPA.out, HPB.out, ← HR.out] at h
    rw [← HPA.out, ← HPB.out] at h
    exact h
  refine heldStep 5 rfl (by kernel_rfl) (fun K hK => ?_)
  go_simp
  refine HCL.out.mono ?_
  rintro e w5 ⟨rfl, hb5⟩
  refine (Hid.out hK) _ _ (hS.next hb5) (fun hS2 => ?_)
  clear hK K hS
  have hS := hS2
  clear hS2
  (try simp only [Act.put]); (try simp only [List.setIfInBounds_toArray, List.set_cons_zero, List.set_cons_succ])
  clear hb5
  refine heldTake 6 _ rfl (by kernel_rfl) (by kernel_rfl) (by kernel_rfl) (fun _ _ _ h => h) rfl hS (fun wy hy => by first | (go_simp; done) | (go_simp; rfl) | rfl) ?_
  (try simp only [Act.put]); (try simp only [List.setIfInBounds_toArray, List.set_cons_zero, List.set_cons_succ])
  refine heldDone (by kernel_rfl) ?_
  go_wp2_with fail
  go_ret
  exact ⟨rfl, hS.b⟩
end
end Go.Proofs.YtgcccndbahphaaaGreatDoor

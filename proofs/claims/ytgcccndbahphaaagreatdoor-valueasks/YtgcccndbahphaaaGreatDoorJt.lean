import Derived.Test.YtgcccndbahphaaaGreatDoorJs
import Derived.Test.YtgcccndbahphaaaGreatDoorJf
import Derived.Test.YtgcccndbahphaaaGreatDoorJi
import Derived.Test.YtgcccndbahphaaaGreatDoorRows
import Derived.Lib.LaidU8T
import Derived.Lib.LaidIn
import Derived.Test.YtgcccndbahphaaaGreatDoorJc
import Derived.Test.YtgcccndbahphaaaGreatDoorJd
import Derived.Test.YtgcccndbahphaaaGreatDoorJb
namespace Go.Proofs.YtgcccndbahphaaaGreatDoor
section
open Go.RowKit Go
/-- What holds at every point of a region of the round. -/
def Sa (w : World) (cs : Array Value) (B N : Nat) (vl : Value) (L : List (Array Value)) (gx lo hi : Nat) (c : Array Value) (v : Tv) (wx : World) : Prop := ∃ tt, Ay w cs B N tt vl L gx lo hi c v wx
theorem Sa.cells {w wx : World} {cs : Array Value} {B N : Nat} {vl : Value} {L : List (Array Value)} {gx lo hi : Nat} {c : Array Value} {v : Tv} (h : Sa w cs B N vl L gx lo hi c v wx) : ∀ j x, c[j]? = some x → wx.cell? ⟨gx, 0 + j, none⟩ = some x := by
  obtain ⟨_, h⟩ := h
  exact h.cells
theorem Sa.b {w wx : World} {cs : Array Value} {B N : Nat} {vl : Value} {L : List (Array Value)} {gx lo hi : Nat} {c : Array Value} {v : Tv} (h : Sa w cs B N vl L gx lo hi c v wx) : Below w.heap.size w wx := by
  obtain ⟨_, h⟩ := h
  exact h.a.b
theorem Sa.p {w wx : World} {cs : Array Value} {B N : Nat} {vl : Value} {L : List (Array Value)} {gx lo hi : Nat} {c : Array Value} {v : Tv} (h : Sa w cs B N vl L gx lo hi c v wx) : wx.heap[w.heap.size]? = some (.cells cs 25 (0, 0)) := by
  obtain ⟨_, h⟩ := h
  exact h.a.p
set_option maxRecDepth 1000000 in
set_option maxHeartbeats 4000000 in
theorem vasks_any (w : World) (vL vK : Value) (is : List Tv) (ks : List ByteArray) (hv : VSl w vL is) (hk : SSl w vK ks) (hT : Tabs w) : Calls Tryz.prog 3 #[.agg #[vL, vK]] w fun e w' => e = .returned (.bool true) ∧ Below w.heap.size w w' := by
  have HT := hide hT
  have HVL := hide hv
  obtain ⟨⟨a0, cap0, rfl, _, hform⟩, hmax⟩ := hv
  obtain ⟨⟨ak, ck, rfl, _, hkf⟩, hkm, _⟩ := hk
  have HKF := hide hkf
  have HC0 : Hid ((#[.slice a0 is.length cap0, .slice ak ks.length ck] : Array Value)[0]? = some (.slice a0 is.length cap0)) := rfl
  have HC1 : Hid ((#[.slice a0 is.length cap0, .slice ak ks.length ck] : Array Value)[1]? = some (.slice ak ks.length ck)) := rfl
  generalize (#[.slice a0 is.length cap0, .slice ak ks.length ck] : Array Value) = cs at *
  clear hT hform hkf
  have HW0 := hide (Rw.start w cs)
  have q0 := blk_cell (j := 0) HW0.out.p HC0.out
  go_enter Tryz.func3, Tryz.ntmps3
  go_wp2_with fail
  generalize w.alloc (.cells cs 25) = w1 at *
  refine (much_any is w1 _ 60000 (HVL.out.move (keep_below HW0.out.b)) (by omega)).mono ?_
  rintro e w2 ⟨r, rfl, hmu, hb2⟩
  have HW2 := hide (HW0.out.next hb2)
  have HMU0 := hide hmu
  clear hmu hb2 q0 HW0
  by_cases hr : 60000 < r
  · as_aux_lemma =>
    have g0 : (60000 : Int) < (r : Int) := by omega
    go_wp2_with fail
    go_ret
    exact ⟨rfl, HW2.out.b⟩
  · have g0 : ¬ (60000 : Int) < (r : Int) := by omega
    have HM : Hid (tmuchL is ≤ 60000) := by have := HMU0.out.eq (by omega); show _ ≤ _; omega
    clear HMU0
    have HB3 : Hid (Below w.heap.size w (w2.alloc (.cells (bookCells (.slice none 0 0) (.slice none 0 0) 0 0 0 0) 48))) := HW2.out.b.trans ((below_alloc4 w2 _).mono HW2.out.b.size)
    have q0 : (w2.alloc (.cells (bookCells (.slice none 0 0) (.slice none 0 0) 0 0 0 0) 48)).cell? ⟨w.heap.size, 0, none⟩ = some (.slice a0 is.length cap0) := keep_below (below_alloc4 w2 _) _ _ (blk_cell (j := 0) HW2.out.p HC0.out)
    go_wp2_with (refine wpList_buildBook rfl rfl ?_)
    generalize hw3 : w2.alloc (.cells (bookCells (.slice none 0 0) (.slice none 0 0) 0 0 0 0) 48) = w3 at *
    refine (treesB_any w w3 HB3.out _ is HVL.out (by have := HM.out; omega)).mono ?_
    rintro e w4 ⟨vl, L, rfl, htr, hb4⟩
    have HA := hide (Aw.start HW2.out.p HW2.out.b hw3.symm htr hb4)
    have HTN := hide htr.n
    have HTH := hide htr.h
    have HTI := hide htr.t
    have HMT : Hid (tmuchL (tre is) ≤ 60000) := Nat.le_trans (tre_much is) HM.out
    have HTC : Hid (∀ v ∈ tre is, chkf v 0 = 0) := fun v hv => tre_mem hv
    have HLL : Hid (L.length ≤ 60000) := by
      have h1 := htr.n
      have h2 := tmuchL_len (tre is)
      have h3 := HMT.out
      show _ ≤ _
      omega
    obtain ⟨ax, cx, hvx⟩ := own_slice htr.o
    subst hvx
    clear htr hb4 hw3 HB3 q0 HVL HM HW2
    generalize tre is = T at *
    generalize w2.heap.size = B at *
    generalize w4.heap.size = N at *
    go_wp2_with fail
    go_loopw [5] (fun ii wx => ∃ i tt : Nat, i ≤ L.length ∧ ii = .int .i64 (i : Nat) ∧ Hid (tt ≤ 134 * tmuchL (T.take i)) ∧ Hid (Aw w cs B N tt (.slice ax L.length cx) L wx)) (fun ii _ => L.length - (intOf ii).toNat)
    case atStart => exact ⟨0, 0, by omega, rfl, Nat.zero_le _, HA⟩
    case round =>
      rename World => wa
      obtain ⟨i, tt, hi, rfl, HTT, HAa⟩ := hrel
      clear HA
      by_cases hlt : i < L.length
      · have g1 : (i : Int) < (L.length : Int) := by omega
        have hTn := HTN.out
        obtain ⟨u, hu⟩ : ∃ u, T[i]? = some u := ⟨T[i]'(by omega), List.getElem?_eq_getElem (by omega)⟩
        obtain ⟨cu, hcu⟩ : ∃ cu, L[i]? = some cu := ⟨L[i], List.getElem?_eq_getElem hlt⟩
        obtain ⟨g, off, rfl, HCR⟩ : ∃ g off, ax = some ⟨g, off, none⟩ ∧ Hid (∀ t9 wx, Aw w cs B N t9 (.slice ax L.length cx) L wx → ∀ k x, cu[k]? = some x → wx.cell? ⟨g, off + i * 13 + k, none⟩ = some x) := by
          rcases id HAa.out.o.2 with ⟨e, h0⟩ | ⟨g, cap, cur, e, _⟩
          · omega
          · injection e with e1 e2 e3
            subst e1
            exact ⟨g, 0, rfl, fun t9 wx h k x hx => h.cells HTH.out hcu k x hx⟩
        have HTU := hide (HTI.out i u cu hu hcu)
        have HSU := hide HTU.out.size13
        have hmem := List.mem_of_getElem? hu
        have HCK := hide (HTC.out u hmem)
        have HTK := hide (chk_trk HCK.out)
        have HMP := hide (much_pos u)
        have HTS : Hid (tmuchL (T.take (i + 1)) = tmuchL (T.take i) + tmuch u) := tmuchL_takeq T i u hu
        have HTL : Hid (tmuchL (T.take (i + 1)) ≤ tmuchL T) := tmuchL_take_le T (i + 1)
        have HMU : Hid (tmuch u ≤ 60000) := by have h1 := HTS.out; have h2 := HTL.out; have h3 := HMT.out; show _ ≤ _; omega
        replace HMT : Hid (tmuchL (T.take i) ≤ 60000) := by have h1 := HTS.out; have h2 := HTL.out; have h3 := HMT.out; show _ ≤ _; omega
        have HDU : Hid (tdepth u ≤ 60000) := Nat.le_trans (tdepth_much u) HMU.out
        clear hu hcu hmem hTn HTI HTC HTL
        have HCA := hide (HCR.out _ _ HAa.out)
        go_wp2_with (refine wpList_valAt rfl rfl g (off + i * 13) cu rfl HSU.out HCA.out ?_)
        refine (lendValue_any u wa cu (HTU.out.move (keep_below HAa.out.b)) (by have := HMU.out; omega)).mono ?_
        rintro e wb ⟨c, rfl, hlt1, hbb⟩
        have HY := hide (Ay.start HAa.out hbb hlt1)
        have HG0 := hide (heap_alloc_new wb (.cells zv 55))
        have HXZ := hide hlt1.size
        have HA1 := hide hlt1.tin.all1
        have HIN : Hid ((Tryz.prog.info? 55).map (·.size) = some c.size) := by show _ = _; rw [HXZ.out]; exact infoV
        have HZV : Hid (zv.size = c.size) := by show _ = _; rw [HXZ.out]; rfl
        clear hlt1 hbb HCA HAa
        go_wp2_with (refine wpList_storeRow rfl rfl wb.heap.size zv c 55 rfl rfl HG0.out HIN.out HZV.out HA1.out ?_)
        clear HG0 HIN HZV HA1
        unfold zv at HY
        generalize (wb.alloc (.cells #[.int .i64 0, .bool false, .bool false, .int .u64 0, .int .u64 0, .string ⟨#[]⟩, .slice none 0 0, .int .i64 0, .int .u64 0, .int .u64 0, .string ⟨#[]⟩, .slice none 0 0, .slice none 0 0] 55)).setRow wb.heap.size c = wc at *
        obtain ⟨gx, lo, hi2, hgx, HY⟩ : ∃ gx lo hi2, wb.heap.size = gx ∧ Hid (Ay w cs B N tt (.slice (some ⟨g, off, none⟩) L.length cx) L gx lo hi2 c u wc) := ⟨_, _, _, rfl, HY⟩
        (try rw [hgx])
        (try simp only [hgx])
        clear hgx
        refine heldStart (S := Sa w cs B N (.slice (some ⟨g, off, none⟩) L.length cx) L gx lo hi2 c u) (by kernel_rfl) ?_
        have hbz : Below wc.heap.size wc wc.drew := by
          refine Below.drew ?_
          exact Below.refl _ _
        replace HY := hide (HY.out.next hbz)
        have hS : Sa w cs B N (.slice (some ⟨g, off, none⟩) L.length cx) L gx lo hi2 c u wc.drew := ⟨_, HY.out⟩
        clear hbz
        generalize wc.drew = wd at *
        refine heldTake 0 _ rfl (by kernel_rfl) (by kernel_rfl) (by kernel_rfl) (fun _ _ _ h => h) rfl hS (fun wy hy => exec_valAt (g := gx) (off := 0) (cs := c) rfl rfl HXZ.out hy.cells) ?_
        (try simp only [Act.put]); (try simp only [List.setIfInBounds_toArray, List.set_cons_zero, List.set_cons_succ])
        refine heldTake 2 _ rfl (by kernel_rfl) (by kernel_rfl) (by kernel_rfl) (fun _ _ _ h => h) rfl hS (fun wy hy => by first | (go_simp; done) | (go_simp; rfl) | rfl) ?_
        (try simp only [Act.put]); (try simp only [List.setIfInBounds_toArray, List.set_cons_zero, List.set_cons_succ])
        refine heldTake 3 _ rfl (by kernel_rfl) (by kernel_rfl) (by kernel_rfl) (fun _ _ _ h => h) rfl hS (fun wy hy => by first | (go_simp; done) | (go_simp; rfl) | rfl) ?_
        (try simp only [Act.put]); (try simp only [List.setIfInBounds_toArray, List.set_cons_zero, List.set_cons_succ])
        refine heldTake 4 _ rfl (by kernel_rfl) (by kernel_rfl) (by kernel_rfl) (fun _ _ _ h => h) rfl hS (fun wy hy => by first | (go_simp; done) | (go_simp; rfl) | rfl) ?_
        (try simp only [Act.put]); (try simp only [List.setIfInBounds_toArray, List.set_cons_zero, List.set_cons_succ])
        refine heldTake 5 _ rfl (by kernel_rfl) (by kernel_rfl) (by kernel_rfl) (fun _ _ _ h => h) rfl hS (fun wy hy => exec_valAt (g := g) (off := off + i * 13) (cs := cu) rfl rfl HSU.out (fun k x hx => by obtain ⟨t9, h9⟩ := hy; exact HCR.out t9 wy h9.a k x hx)) ?_
        (try simp only [Act.put]); (try simp only [List.setIfInBounds_toArray, List.set_cons_zero, List.set_cons_succ])
        refine heldStep 1 rfl (by kernel_rfl) (fun K hK => ?_)
        go_simp
        refine (depth_any u _ c HY.out.tin (by have := HDU.out; omega)).mono ?_
        rintro e w5 ⟨rfl, hbe⟩
        replace HY := hide (HY.out.next hbe)
        refine (Hid.out hK) _ _ (⟨_, HY.out⟩) (fun hS2 => ?_)
        clear hK K hS
        have hS := hS2
        clear hS2
        (try simp only [Act.put]); (try simp only [List.setIfInBounds_toArray, List.set_cons_zero, List.set_cons_succ])
        clear hbe
        refine heldStep 6 rfl (by kernel_rfl) (fun K hK => ?_)
        go_simp
        refine (rdepth_any u _ cu (HTU.out.move (keep_below HY.out.a.b)) (by have := HDU.out; omega)).mono ?_
        rintro e w6 ⟨rfl, hbe⟩
        replace HY := hide (HY.out.next hbe)
        refine (Hid.out hK) _ _ (⟨_, HY.out⟩) (fun hS2 => ?_)
        clear hK K hS
        have hS := hS2
        clear hS2
        (try simp only [Act.put]); (try simp only [List.setIfInBounds_toArray, List.set_cons_zero, List.set_cons_succ])
        clear hbe
        clear HDU
        generalize tdepth u = dd at *
        have gdd : (((dd : Nat) : Int) != ((dd : Nat) : Int)) = false := by simp
        refine heldTake 7 (.bool false) rfl (by kernel_rfl) (by kernel_rfl) (by kernel_rfl) (fun _ _ _ h => h) rfl hS (fun wy hy => by first | (go_simp; done) | (go_simp; rfl)) ?_
        (try simp only [Act.put]); (try simp only [List.setIfInBounds_toArray, List.set_cons_zero, List.set_cons_succ])
        refine heldTake 8 _ rfl (by kernel_rfl) (by kernel_rfl) (by kernel_rfl) (fun _ _ _ h => h) rfl hS (fun wy hy => by first | (go_simp; done) | (go_simp; rfl) | rfl) ?_
        (try simp only [Act.put]); (try simp only [List.setIfInBounds_toArray, List.set_cons_zero, List.set_cons_succ])
        refine heldTake 9 _ rfl (by kernel_rfl) (by kernel_rfl) (by kernel_rfl) (fun _ _ _ h => h) rfl hS (fun wy hy => exec_valAt (g := gx) (off := 0) (cs := c) rfl rfl HXZ.out hy.cells) ?_
        (try simp only [Act.put]); (try simp only [List.setIfInBounds_toArray, List.set_cons_zero, List.set_cons_succ])
        refine heldTake 10 _ rfl (by kernel_rfl) (by kernel_rfl) (by kernel_rfl) (fun _ _ _ h => h) rfl hS (fun wy hy => by first | (go_simp; done) | (go_simp; rfl) | rfl) ?_
        (try simp only [Act.put]); (try simp only [List.setIfInBounds_toArray, List.set_cons_zero, List.set_cons_succ])
        refine heldTake 11 _ rfl (by kernel_rfl) (by kernel_rfl) (by kernel_rfl) (fun _ _ _ h => h) rfl hS (fun wy hy => by first | (go_simp; done) | (go_simp; rfl) | rfl) ?_
        (try simp only [Act.put]); (try simp only [List.setIfInBounds_toArray, List.set_cons_zero, List.set_cons_succ])
        refine heldTake 12 _ rfl (by kernel_rfl) (by kernel_rfl) (by kernel_rfl) (fun _ _ _ h => h) rfl hS (fun wy hy => by first | (go_simp; done) | (go_simp; rfl) | rfl) ?_
        (try simp only [Act.put]); (try simp only [List.setIfInBounds_toArray, List.set_cons_zero, List.set_cons_succ])
        refine heldTake 13 _ rfl (by kernel_rfl) (by kernel_rfl) (by kernel_rfl) (fun _ _ _ h => h) rfl hS (fun wy hy => exec_valAt (g := g) (off := off + i * 13) (cs := cu) rfl rfl HSU.out (fun k x hx => by obtain ⟨t9, h9⟩ := hy; exact HCR.out t9 wy h9.a k x hx)) ?_
        (try simp only [Act.put]); (try simp only [List.setIfInBounds_toArray, List.set_cons_zero, List.set_cons_succ])
        refine heldTake 14 _ rfl (by kernel_rfl) (by kernel_rfl) (by kernel_rfl) (fun _ _ _ h => h) rfl hS (fun wy hy => by first | (go_simp; done) | (go_simp; rfl) | rfl) ?_
        (try simp only [Act.put]); (try simp only [List.setIfInBounds_toArray, List.set_cons_zero, List.set_cons_succ])
        refine heldStep 15 rfl (by kernel_rfl) (fun K hK => ?_)
        go_simp
        obtain ⟨C, f, d, uu, hB, hf⟩ := HY.out.k
        refine (sorts_any u _ B B C f tt d uu c cu hB HY.out.tin (HTU.out.move (keep_below HY.out.a.b)) HTK.out (by have := HMU.out; omega) (by have := HMU.out; have := HMT.out; have := HTT.out; omega)).mono ?_
        rintro e w7 ⟨rfl, hP⟩
        obtain ⟨n1, hn1, hP1⟩ := hP.out
        replace HY := hide (HY.out.put hf hP1)
        have HN1 := hide hn1
        refine (Hid.out hK) _ _ (⟨_, HY.out⟩) (fun hS2 => ?_)
        clear hK K hS
        have hS := hS2
        clear hS2
        (try simp only [Act.put]); (try simp only [List.setIfInBounds_toArray, List.set_cons_zero, List.set_cons_succ])
        clear hP hP1 hn1 hB hf
        refine heldTake 16 _ rfl (by kernel_rfl) (by kernel_rfl) (by kernel_rfl) (fun _ _ _ h => h) rfl hS (fun wy hy => by first | (go_simp; done) | (go_simp; rfl) | rfl) ?_
        (try simp only [Act.put]); (try simp only [List.setIfInBounds_toArray, List.set_cons_zero, List.set_cons_succ])
        refine heldTake 17 _ rfl (by kernel_rfl) (by kernel_rfl) (by kernel_rfl) (fun _ _ _ h => h) rfl hS (fun wy hy => by first | (go_simp; done) | (go_simp; rfl) | rfl) ?_
        (try simp only [Act.put]); (try simp only [List.setIfInBounds_toArray, List.set_cons_zero, List.set_cons_succ])
        refine heldTake 18 _ rfl (by kernel_rfl) (by kernel_rfl) (by kernel_rfl) (fun _ _ _ h => h) rfl hS (fun wy hy => by first | (go_simp; done) | (go_simp; rfl) | rfl) ?_
        (try simp only [Act.put]); (try simp only [List.setIfInBounds_toArray, List.set_cons_zero, List.set_cons_succ])
        refine heldTake 19 _ rfl (by kernel_rfl) (by kernel_rfl) (by kernel_rfl) (fun _ _ _ h => h) rfl hS (fun wy hy => exec_valAt (g := gx) (off := 0) (cs := c) rfl rfl HXZ.out hy.cells) ?_
        (try simp only [Act.put]); (try simp only [List.setIfInBounds_toArray, List.set_cons_zero, List.set_cons_succ])
        refine heldTake 20 _ rfl (by kernel_rfl) (by kernel_rfl) (by kernel_rfl) (fun _ _ _ h => h) rfl hS (fun wy hy => by first | (go_simp; done) | (go_simp; rfl) | rfl) ?_
        (try simp only [Act.put]); (try simp only [List.setIfInBounds_toArray, List.set_cons_zero, List.set_cons_succ])
        refine heldTake 21 _ rfl (by kernel_rfl) (by kernel_rfl) (by kernel_rfl) (fun _ _ _ h => h) rfl hS (fun wy hy => by first | (go_simp; done) | (go_simp; rfl) | rfl) ?_
        (try simp only [Act.put]); (try simp only [List.setIfInBounds_toArray, List.set_cons_zero, List.set_cons_succ])
        refine heldTake 22 _ rfl (by kernel_rfl) (by kernel_rfl) (by kernel_rfl) (fun _ _ _ h => h) rfl hS (fun wy hy => by first | (go_simp; done) | (go_simp; rfl) | rfl) ?_
        (try simp only [Act.put]); (try simp only [List.setIfInBounds_toArray, List.set_cons_zero, List.set_cons_succ])
        refine heldTake 23 _ rfl (by kernel_rfl) (by kernel_rfl) (by kernel_rfl) (fun _ _ _ h => h) rfl hS (fun wy hy => exec_valAt (g := g) (off := off + i * 13) (cs := cu) rfl rfl HSU.out (fun k x hx => by obtain ⟨t9, h9⟩ := hy; exact HCR.out t9 wy h9.a k x hx)) ?_
        (try simp only [Act.put]); (try simp only [List.setIfInBounds_toArray, List.set_cons_zero, List.set_cons_succ])
        refine heldTake 24 _ rfl (by kernel_rfl) (by kernel_rfl) (by kernel_rfl) (fun _ _ _ h => h) rfl hS (fun wy hy => by first | (go_simp; done) | (go_simp; rfl) | rfl) ?_
        (try simp only [Act.put]); (try simp only [List.setIfInBounds_toArray, List.set_cons_zero, List.set_cons_succ])
        refine heldStep 25 rfl (by kernel_rfl) (fun K hK => ?_)
        go_simp
        obtain ⟨C2, f2, d2, uu2, hB, hf⟩ := HY.out.k
        refine (asks_links u _ B B C2 f2 (tt + n1) d2 uu2 c cu hB HY.out.tin (HTU.out.move (keep_below HY.out.a.b)) HCK.out (by have := HMU.out; omega) (by have := HMU.out; have := HMT.out; have := HTT.out; have := HN1.out; omega)).mono ?_
        rintro e w8 ⟨rfl, hP⟩
        replace HY := hide (HY.out.put hf hP.out)
        refine (Hid.out hK) _ _ (⟨_, HY.out⟩) (fun hS2 => ?_)
        clear hK K hS
        have hS := hS2
        clear hS2
        (try simp only [Act.put]); (try simp only [List.setIfInBounds_toArray, List.set_cons_zero, List.set_cons_succ])
        clear hP hB hf
        refine heldTake 26 _ rfl (by kernel_rfl) (by kernel_rfl) (by kernel_rfl) (fun _ _ _ h => h) rfl hS (fun wy hy => by first | (go_simp; done) | (go_simp; rfl) | rfl) ?_
        (try simp only [Act.put]); (try simp only [List.setIfInBounds_toArray, List.set_cons_zero, List.set_cons_succ])
        refine heldTake 27 _ rfl (by kernel_rfl) (by kernel_rfl) (by kernel_rfl) (fun _ _ _ h => h) rfl hS (fun wy hy => by first | (go_simp; done) | (go_simp; rfl) | rfl) ?_
        (try simp only [Act.put]); (try simp only [List.setIfInBounds_toArray, List.set_cons_zero, List.set_cons_succ])
        refine heldDone (by kernel_rfl) ?_
        clear hS
        obtain ⟨t2, HT2, HY⟩ : ∃ t2, Hid (t2 ≤ 134 * tmuchL (T.take i) + 6 * tmuch u + 2) ∧ Hid (Ay w cs B N t2 (.slice (some ⟨g, off, none⟩) L.length cx) L gx lo hi2 c u w8) := ⟨tt + n1 + 2, by have h1 := HTT.out; have h2 := HN1.out; show _ ≤ _; omega, HY⟩
        clear HN1 HTT
        go_upto_block 2 with fail
        go_cut [7] from 56 to 79 (fun kk wx => ∃ t3, Hid (t3 ≤ 134 * tmuchL (T.take i) + 126 * tmuch u + 2) ∧ Hid (Ay w cs B N t3 (.slice (some ⟨g, off, none⟩) L.length cx) L gx lo hi2 c u wx))
        case first => as_aux_lemma =>
          go_wp2_with fail
          go_loopw [7] (fun kk wx => ∃ k t3 : Nat, k ≤ 20 ∧ kk = .int .i64 (k : Nat) ∧ Hid (t3 ≤ 134 * tmuchL (T.take i) + 6 * tmuch u + 2 + 6 * tmuch u * k) ∧ Hid (Ay w cs B N t3 (.slice (some ⟨g, off, none⟩) L.length cx) L gx lo hi2 c u wx)) (fun kk _ => 20 - (intOf kk).toNat)
          case atStart => exact ⟨0, t2, by omega, rfl, by have h1 := HT2.out; show _ ≤ _; omega, HY⟩
          case round =>
            rename World => wk
            clear HY HT2
            obtain ⟨k, t3, hk, rfl, HT3, HY⟩ := hrel
            have q1 := blk_cell (j := 1) HY.out.a.p HC1.out
            have HM20 : Hid (6 * tmuch u * k ≤ 6 * tmuch u * 20) := Nat.mul_le_mul_left _ hk
            by_cases hl1 : k < ks.length
            · have g3 : (k : Int) < (ks.length : Int) := by omega
              by_cases hl2 : k < 20
              · as_aux_lemma =>
                have g4 : (k : Int) < 20 := by omega
                obtain ⟨s, hs⟩ : ∃ s, ks[k]? = some s := ⟨ks[k], List.getElem?_eq_getElem hl1⟩
                obtain ⟨b2, off2, rfl, hk2⟩ := HKF.out.resolve_left (fun h => by rw [h] at hl1; simp at hl1)
                have HKC := hide (hk2 k s hs)
                clear hk2 hs HKF
                go_wp2_with fail
                clear q1
                refine heldStart (S := Sa w cs B N (.slice (some ⟨g, off, none⟩) L.length cx) L gx lo hi2 c u) (by kernel_rfl) ?_
                have hbz : Below wk.heap.size wk wk.drew := by
                  refine Below.drew ?_
                  exact Below.refl _ _
                replace HY := hide (HY.out.next hbz)
                have hS : Sa w cs B N (.slice (some ⟨g, off, none⟩) L.length cx) L gx lo hi2 c u wk.drew := ⟨_, HY.out⟩
                clear hbz
                generalize wk.drew = wd at *
                refine heldTake 0 _ rfl (by kernel_rfl) (by kernel_rfl) (by kernel_rfl) (fun _ _ _ h => h) rfl hS (fun wy hy => exec_valAt (g := gx) (off := 0) (cs := c) rfl rfl HXZ.out hy.cells) ?_
                (try simp only [Act.put]); (try simp only [List.setIfInBounds_toArray, List.set_cons_zero, List.set_cons_succ])
                refine heldTake 1 _ rfl (by kernel_rfl) (by kernel_rfl) (by kernel_rfl) (fun _ _ _ h => h) rfl hS (fun wy hy => by first | (go_simp; done) | (go_simp; rfl) | rfl) ?_
                (try simp only [Act.put]); (try simp only [List.setIfInBounds_toArray, List.set_cons_zero, List.set_cons_succ])
                refine heldTake 2 _ rfl (by kernel_rfl) (by kernel_rfl) (by kernel_rfl) (fun _ _ _ h => h) rfl hS (fun wy hy => by first | (go_simp; done) | (go_simp; rfl) | rfl) ?_
                (try simp only [Act.put]); (try simp only [List.setIfInBounds_toArray, List.set_cons_zero, List.set_cons_succ])
                refine heldTake 3 _ rfl (by kernel_rfl) (by kernel_rfl) (by kernel_rfl) (fun _ _ _ h => h) rfl hS (fun wy hy => by first | (go_simp; done) | (go_simp; rfl) | rfl) ?_
                (try simp only [Act.put]); (try simp only [List.setIfInBounds_toArray, List.set_cons_zero, List.set_cons_succ])
                refine heldTake 4 _ rfl (by kernel_rfl) (by kernel_rfl) (by kernel_rfl) (fun _ _ _ h => h) rfl hS (fun wy hy => exec_valAt (g := g) (off := off + i * 13) (cs := cu) rfl rfl HSU.out (fun k x hx => by obtain ⟨t9, h9⟩ := hy; exact HCR.out t9 wy h9.a k x hx)) ?_
                (try simp only [Act.put]); (try simp only [List.setIfInBounds_toArray, List.set_cons_zero, List.set_cons_succ])
                refine heldTake 5 _ rfl (by kernel_rfl) (by kernel_rfl) (by kernel_rfl) (fun _ _ _ h => h) rfl hS (fun wy hy => by first | (go_simp; done) | (go_simp; rfl) | rfl) ?_
                (try simp only [Act.put]); (try simp only [List.setIfInBounds_toArray, List.set_cons_zero, List.set_cons_succ])
                refine heldTake 6 _ rfl (by kernel_rfl) (by kernel_rfl) (by kernel_rfl) (fun _ _ _ h => h) rfl hS (fun wy hy => by have h0 := blk_cell (j := 1) hy.p HC1.out; first | (go_simp; done) | (go_simp; rfl) | rfl) ?_
                (try simp only [Act.put]); (try simp only [List.setIfInBounds_toArray, List.set_cons_zero, List.set_cons_succ])
                refine heldTake 7 _ rfl (by kernel_rfl) (by kernel_rfl) (by kernel_rfl) (fun _ _ _ h => h) rfl hS (fun wy hy => by first | (go_simp; done) | (go_simp; rfl) | rfl) ?_
                (try simp only [Act.put]); (try simp only [List.setIfInBounds_toArray, List.set_cons_zero, List.set_cons_succ])
                refine heldTake 8 _ rfl (by kernel_rfl) (by kernel_rfl) (by kernel_rfl) (fun _ _ _ h => h) rfl hS (fun wy hy => by first | (go_simp; done) | (go_simp; rfl) | rfl) ?_
                (try simp only [Act.put]); (try simp only [List.setIfInBounds_toArray, List.set_cons_zero, List.set_cons_succ])
                refine heldTake 9 _ rfl (by kernel_rfl) (by kernel_rfl) (by kernel_rfl) (fun _ _ _ h => h) rfl hS (fun wy hy => by have h0 := keep_below hy.b _ _ HKC.out; first | (go_simp; done) | (go_simp; rfl) | rfl) ?_
                (try simp only [Act.put]); (try simp only [List.setIfInBounds_toArray, List.set_cons_zero, List.set_cons_succ])
                refine heldTake 10 _ rfl (by kernel_rfl) (by kernel_rfl) (by kernel_rfl) (fun _ _ _ h => h) rfl hS (fun wy hy => by first | (go_simp; done) | (go_simp; rfl) | rfl) ?_
                (try simp only [Act.put]); (try simp only [List.setIfInBounds_toArray, List.set_cons_zero, List.set_cons_succ])
                replace HT3 : Hid (t3 ≤ 134 * tmuchL (T.take i) + 6 * tmuch u + 2 + 6 * tmuch u * k ∧ t3 ≤ 134 * tmuchL (T.take i) + 126 * tmuch u + 2) := ⟨HT3.out, by have h1 := HT3.out; have h2 := HM20.out; omega⟩
                refine heldStep 11 rfl (by kernel_rfl) (fun K hK => ?_)
                go_simp
                obtain ⟨C, f, d, uu, hB, hf⟩ := HY.out.k
                refine (finds_any u s _ B B C f t3 d uu c cu hB HY.out.tin (HTU.out.move (keep_below HY.out.a.b)) HTK.out (by have := HMU.out; omega) (by have := HMU.out; have := HMT.out; have := HT3.out; omega)).mono ?_
                rintro e we ⟨rfl, hP⟩
                obtain ⟨n1, hn1, hP1⟩ := hP.out
                replace HY := hide (HY.out.put hf hP1)
                have HN1 := hide hn1
                refine (Hid.out hK) _ _ (⟨_, HY.out⟩) (fun hS2 => ?_)
                clear hK K hS
                have hS := hS2
                clear hS2
                (try simp only [Act.put]); (try simp only [List.setIfInBounds_toArray, List.set_cons_zero, List.set_cons_succ])
                clear hP hP1 hn1 hB hf
                refine heldTake 12 _ rfl (by kernel_rfl) (by kernel_rfl) (by kernel_rfl) (fun _ _ _ h => h) rfl hS (fun wy hy => by first | (go_simp; done) | (go_simp; rfl) | rfl) ?_
                (try simp only [Act.put]); (try simp only [List.setIfInBounds_toArray, List.set_cons_zero, List.set_cons_succ])
                refine heldDone (by kernel_rfl) ?_
                clear hS
                have HT4 : Hid (t3 + n1 ≤ 134 * tmuchL (T.take i) + 6 * tmuch u + 2 + 6 * tmuch u * (k + 1)) := by
                  have h1 := HT3.out.1
                  have h2 := HN1.out
                  have h3 := Nat.mul_succ (6 * tmuch u) k
                  show _ ≤ _
                  rw [Nat.succ_eq_add_one] at h3
                  omega
                go_wp2_with fail
                go_roundw
                case rel => exact ⟨k + 1, _, by omega, by go_num, HT4, HY⟩
                case measure => simp [intOf]; omega
              · as_aux_lemma =>
                have g4 : ¬ (k : Int) < 20 := by omega
                go_wp2_with fail
                go_meet
                case rel => exact ⟨t3, by have h1 := HT3.out; have h2 := HM20.out; show _ ≤ _; omega, HY⟩
            · as_aux_lemma =>
              have g3 : ¬ (k : Int) < (ks.length : Int) := by omega
              go_wp2_with fail
              go_meet
              case rel => exact ⟨t3, by have h1 := HT3.out; have h2 := HM20.out; show _ ≤ _; omega, HY⟩
        case rest =>
          rename World => wk
          clear HY HT2
          obtain ⟨t3, HT3, HY⟩ := hcut
          obtain ⟨vy2, vk2, vi2, hcuv, _, hk2, _, _⟩ := HTU.out.parts
          obtain ⟨⟨ak2, ck2, rfl, _, hkf2⟩, hkm2, _⟩ := hk2
          have HC11 : Hid (cu[11]? = some (.slice ak2 u.ks.length ck2)) := by show _ = _; rw [hcuv]; rfl
          have HKF2 := hide hkf2
          clear hcuv hkf2
          by_cases hks : 0 < u.ks.length
          · as_aux_lemma =>
            have g5 : (0 : Int) < (u.ks.length : Int) := by omega
            have hj : i % u.ks.length < u.ks.length := Nat.mod_lt _ (by omega)
            generalize hjj : i % u.ks.length = j at *
            have htm : ((i : Nat) : Int).tmod (u.ks.length : Int) = (j : Int) := by rw [← hjj]; rfl
            have hne : ¬ u.ks.length = 0 := by omega
            have g6 : (j : Int) < (u.ks.length : Int) := by omega
            obtain ⟨s, hs⟩ : ∃ s, u.ks[j]? = some s := ⟨u.ks[j], List.getElem?_eq_getElem hj⟩
            obtain ⟨b2, off2, rfl, hk2⟩ := HKF2.out.resolve_left (fun h => by rw [h] at hj; simp at hj)
            have HKC := hide (hk2 j s hs)
            clear hk2 hs HKF2 hjj
            go_wp2_with fail
            refine heldStart (S := Sa w cs B N (.slice (some ⟨g, off, none⟩) L.length cx) L gx lo hi2 c u) (by kernel_rfl) ?_
            have hbz : Below wk.heap.size wk wk.drew := by
              refine Below.drew ?_
              exact Below.refl _ _
            replace HY := hide (HY.out.next hbz)
            have hS : Sa w cs B N (.slice (some ⟨g, off, none⟩) L.length cx) L gx lo hi2 c u wk.drew := ⟨_, HY.out⟩
            clear hbz
            generalize wk.drew = wd at *
            refine heldTake 0 _ rfl (by kernel_rfl) (by kernel_rfl) (by kernel_rfl) (fun _ _ _ h => h) rfl hS (fun wy hy => by first | (go_simp; done) | (go_simp; rfl) | rfl) ?_
            (try simp only [Act.put]); (try simp only [List.setIfInBounds_toArray, List.set_cons_zero, List.set_cons_succ])
            refine heldTake 1 _ rfl (by kernel_rfl) (by kernel_rfl) (by kernel_rfl) (fun _ _ _ h => h) rfl hS (fun wy hy => by first | (go_simp; done) | (go_simp; rfl) | rfl) ?_
            (try simp only [Act.put]); (try simp only [List.setIfInBounds_toArray, List.set_cons_zero, List.set_cons_succ])
            refine heldTake 2 _ rfl (by kernel_rfl) (by kernel_rfl) (by kernel_rfl) (fun _ _ _ h => h) rfl hS (fun wy hy => by first | (go_simp; done) | (go_simp; rfl) | rfl) ?_
            (try simp only [Act.put]); (try simp only [List.setIfInBounds_toArray, List.set_cons_zero, List.set_cons_succ])
            refine heldTake 3 _ rfl (by kernel_rfl) (by kernel_rfl) (by kernel_rfl) (fun _ _ _ h => h) rfl hS (fun wy hy => by first | (go_simp; done) | (go_simp; rfl) | rfl) ?_
            (try simp only [Act.put]); (try simp only [List.setIfInBounds_toArray, List.set_cons_zero, List.set_cons_succ])
            refine heldTake 4 _ rfl (by kernel_rfl) (by kernel_rfl) (by kernel_rfl) (fun _ _ _ h => h) rfl hS (fun wy hy => by have h0 : wy.cell? ⟨g, off + i * 13 + 11, none⟩ = some (.slice (some ⟨b2, off2, none⟩) u.ks.length ck2) := (by obtain ⟨t9, h9⟩ := hy; exact HCR.out t9 wy h9.a 11 _ HC11.out); first | (go_simp; done) | (go_simp; rfl) | rfl) ?_
            (try simp only [Act.put]); (try simp only [List.setIfInBounds_toArray, List.set_cons_zero, List.set_cons_succ])
            refine heldTake 5 _ rfl (by kernel_rfl) (by kernel_rfl) (by kernel_rfl) (fun _ _ _ h => h) rfl hS (fun wy hy => by first | (go_simp; done) | (go_simp; rfl) | rfl) ?_
            (try simp only [Act.put]); (try simp only [List.setIfInBounds_toArray, List.set_cons_zero, List.set_cons_succ])
            refine heldTake 6 (.bool true) rfl (by kernel_rfl) (by kernel_rfl) (by kernel_rfl) (fun _ _ _ h => h) rfl hS (fun wy hy => by first | (go_simp; done) | (go_simp; rfl)) ?_
            (try simp only [Act.put]); (try simp only [List.setIfInBounds_toArray, List.set_cons_zero, List.set_cons_succ])
            refine heldTake 7 _ rfl (by kernel_rfl) (by kernel_rfl) (by kernel_rfl) (fun _ _ _ h => h) rfl hS (fun wy hy => by first | (go_simp; done) | (go_simp; rfl) | rfl) ?_
            (try simp only [Act.put]); (try simp only [List.setIfInBounds_toArray, List.set_cons_zero, List.set_cons_succ])
            refine heldTake 8 _ rfl (by kernel_rfl) (by kernel_rfl) (by kernel_rfl) (fun _ _ _ h => h) rfl hS (fun wy hy => exec_valAt (g := gx) (off := 0) (cs := c) rfl rfl HXZ.out hy.cells) ?_
            (try simp only [Act.put]); (try simp only [List.setIfInBounds_toArray, List.set_cons_zero, List.set_cons_succ])
            refine heldTake 9 _ rfl (by kernel_rfl) (by kernel_rfl) (by kernel_rfl) (fun _ _ _ h => h) rfl hS (fun wy hy => by first | (go_simp; done) | (go_simp; rfl) | rfl) ?_
            (try simp only [Act.put]); (try simp only [List.setIfInBounds_toArray, List.set_cons_zero, List.set_cons_succ])
            refine heldTake 10 _ rfl (by kernel_rfl) (by kernel_rfl) (by kernel_rfl) (fun _ _ _ h => h) rfl hS (fun wy hy => by first | (go_simp; done) | (go_simp; rfl) | rfl) ?_
            (try simp only [Act.put]); (try simp only [List.setIfInBounds_toArray, List.set_cons_zero, List.set_cons_succ])
            refine heldTake 11 _ rfl (by kernel_rfl) (by kernel_rfl) (by kernel_rfl) (fun _ _ _ h => h) rfl hS (fun wy hy => by first | (go_simp; done) | (go_simp; rfl) | rfl) ?_
            (try simp only [Act.put]); (try simp only [List.setIfInBounds_toArray, List.set_cons_zero, List.set_cons_succ])
            refine heldTake 12 _ rfl (by kernel_rfl) (by kernel_rfl) (by kernel_rfl) (fun _ _ _ h => h) rfl hS (fun wy hy => exec_valAt (g := g) (off := off + i * 13) (cs := cu) rfl rfl HSU.out (fun k x hx => by obtain ⟨t9, h9⟩ := hy; exact HCR.out t9 wy h9.a k x hx)) ?_
            (try simp only [Act.put]); (try simp only [List.setIfInBounds_toArray, List.set_cons_zero, List.set_cons_succ])
            refine heldTake 13 _ rfl (by kernel_rfl) (by kernel_rfl) (by kernel_rfl) (fun _ _ _ h => h) rfl hS (fun wy hy => by first | (go_simp; done) | (go_simp; rfl) | rfl) ?_
            (try simp only [Act.put]); (try simp only [List.setIfInBounds_toArray, List.set_cons_zero, List.set_cons_succ])
            refine heldTake 14 _ rfl (by kernel_rfl) (by kernel_rfl) (by kernel_rfl) (fun _ _ _ h => h) rfl hS (fun wy hy => by first | (go_simp; done) | (go_simp; rfl) | rfl) ?_
            (try simp only [Act.put]); (try simp only [List.setIfInBounds_toArray, List.set_cons_zero, List.set_cons_succ])
            refine heldTake 15 _ rfl (by kernel_rfl) (by kernel_rfl) (by kernel_rfl) (fun _ _ _ h => h) rfl hS (fun wy hy => by first | (go_simp; done) | (go_simp; rfl) | rfl) ?_
            (try simp only [Act.put]); (try simp only [List.setIfInBounds_toArray, List.set_cons_zero, List.set_cons_succ])
            refine heldTake 16 _ rfl (by kernel_rfl) (by kernel_rfl) (by kernel_rfl) (fun _ _ _ h => h) rfl hS (fun wy hy => by first | (go_simp; done) | (go_simp; rfl) | rfl) ?_
            (try simp only [Act.put]); (try simp only [List.setIfInBounds_toArray, List.set_cons_zero, List.set_cons_succ])
            refine heldTake 17 _ rfl (by kernel_rfl) (by kernel_rfl) (by kernel_rfl) (fun _ _ _ h => h) rfl hS (fun wy hy => by have h0 : wy.cell? ⟨g, off + i * 13 + 11, none⟩ = some (.slice (some ⟨b2, off2, none⟩) u.ks.length ck2) := (by obtain ⟨t9, h9⟩ := hy; exact HCR.out t9 wy h9.a 11 _ HC11.out); first | (go_simp; done) | (go_simp; rfl) | rfl) ?_
            (try simp only [Act.put]); (try simp only [List.setIfInBounds_toArray, List.set_cons_zero, List.set_cons_succ])
            refine heldTake 18 _ rfl (by kernel_rfl) (by kernel_rfl) (by kernel_rfl) (fun _ _ _ h => h) rfl hS (fun wy hy => by first | (go_simp; done) | (go_simp; rfl) | rfl) ?_
            (try simp only [Act.put]); (try simp only [List.setIfInBounds_toArray, List.set_cons_zero, List.set_cons_succ])
            refine heldTake 19 _ rfl (by kernel_rfl) (by kernel_rfl) (by kernel_rfl) (fun _ _ _ h => h) rfl hS (fun wy hy => by first | (go_simp; done) | (go_simp; rfl) | rfl) ?_
            (try simp only [Act.put]); (try simp only [List.setIfInBounds_toArray, List.set_cons_zero, List.set_cons_succ])
            refine heldTake 20 _ rfl (by kernel_rfl) (by kernel_rfl) (by kernel_rfl) (fun _ _ _ h => h) rfl hS (fun wy hy => by first | (go_simp; done) | (go_simp; rfl) | rfl) ?_
            (try simp only [Act.put]); (try simp only [List.setIfInBounds_toArray, List.set_cons_zero, List.set_cons_succ])
            refine heldTake 21 _ rfl (by kernel_rfl) (by kernel_rfl) (by kernel_rfl) (fun _ _ _ h => h) rfl hS (fun wy hy => by first | (go_simp; done) | (go_simp; rfl) | rfl) ?_
            (try simp only [Act.put]); (try simp only [List.setIfInBounds_toArray, List.set_cons_zero, List.set_cons_succ])
            refine heldTake 22 _ rfl (by kernel_rfl) (by kernel_rfl) (by kernel_rfl) (fun _ _ _ h => h) rfl hS (fun wy hy => by first | (go_simp; done) | (go_simp; rfl) | rfl) ?_
            (try simp only [Act.put]); (try simp only [List.setIfInBounds_toArray, List.set_cons_zero, List.set_cons_succ])
            refine heldTake 23 _ rfl (by kernel_rfl) (by kernel_rfl) (by kernel_rfl) (fun _ _ _ h => h) rfl hS (fun wy hy => by have h0 : wy.cell? ⟨g, off + i * 13 + 11, none⟩ = some (.slice (some ⟨b2, off2, none⟩) u.ks.length ck2) := (by obtain ⟨t9, h9⟩ := hy; exact HCR.out t9 wy h9.a 11 _ HC11.out); first | (go_simp; done) | (go_simp; rfl) | rfl) ?_
            (try simp only [Act.put]); (try simp only [List.setIfInBounds_toArray, List.set_cons_zero, List.set_cons_succ])
            refine heldTake 24 _ rfl (by kernel_rfl) (by kernel_rfl) (by kernel_rfl) (fun _ _ _ h => h) rfl hS (fun wy hy => by first | (go_simp; done) | (go_simp; rfl) | rfl) ?_
            (try simp only [Act.put]); (try simp only [List.setIfInBounds_toArray, List.set_cons_zero, List.set_cons_succ])
            refine heldTake 25 (.int .i64 (j : Nat)) rfl (by kernel_rfl) (by kernel_rfl) (by kernel_rfl) (fun _ _ _ h => h) rfl hS (fun wy hy => by first | (go_simp; done) | (go_simp; rfl)) ?_
            (try simp only [Act.put]); (try simp only [List.setIfInBounds_toArray, List.set_cons_zero, List.set_cons_succ])
            refine heldTake 26 _ rfl (by kernel_rfl) (by kernel_rfl) (by kernel_rfl) (fun _ _ _ h => h) rfl hS (fun wy hy => by first | (go_simp; done) | (go_simp; rfl) | rfl) ?_
            (try simp only [Act.put]); (try simp only [List.setIfInBounds_toArray, List.set_cons_zero, List.set_cons_succ])
            refine heldTake 27 _ rfl (by kernel_rfl) (by kernel_rfl) (by kernel_rfl) (fun _ _ _ h => h) rfl hS (fun wy hy => by have h0 := keep_below hy.b _ _ HKC.out; first | (go_simp; done) | (go_simp; rfl) | rfl) ?_
            (try simp only [Act.put]); (try simp only [List.setIfInBounds_toArray, List.set_cons_zero, List.set_cons_succ])
            refine heldTake 28 _ rfl (by kernel_rfl) (by kernel_rfl) (by kernel_rfl) (fun _ _ _ h => h) rfl hS (fun wy hy => by first | (go_simp; done) | (go_simp; rfl) | rfl) ?_
            (try simp only [Act.put]); (try simp only [List.setIfInBounds_toArray, List.set_cons_zero, List.set_cons_succ])
            refine heldStep 29 rfl (by kernel_rfl) (fun K hK => ?_)
            go_simp
            obtain ⟨C, f, d, uu, hB, hf⟩ := HY.out.k
            refine (finds_any u s _ B B C f t3 d uu c cu hB HY.out.tin (HTU.out.move (keep_below HY.out.a.b)) HTK.out (by have := HMU.out; omega) (by have := HMU.out; have := HMT.out; have := HT3.out; omega)).mono ?_
            rintro e we ⟨rfl, hP⟩
            obtain ⟨n1, hn1, hP1⟩ := hP.out
            replace HY := hide (HY.out.put hf hP1)
            have HN1 := hide hn1
            refine (Hid.out hK) _ _ (⟨_, HY.out⟩) (fun hS2 => ?_)
            clear hK K hS
            have hS := hS2
            clear hS2
            (try simp only [Act.put]); (try simp only [List.setIfInBounds_toArray, List.set_cons_zero, List.set_cons_succ])
            clear hP hP1 hn1 hB hf
            refine heldTake 30 _ rfl (by kernel_rfl) (by kernel_rfl) (by kernel_rfl) (fun _ _ _ h => h) rfl hS (fun wy hy => by first | (go_simp; done) | (go_simp; rfl) | rfl) ?_
            (try simp only [Act.put]); (try simp only [List.setIfInBounds_toArray, List.set_cons_zero, List.set_cons_succ])
            refine heldTake 31 _ rfl (by kernel_rfl) (by kernel_rfl) (by kernel_rfl) (fun _ _ _ h => h) rfl hS (fun wy hy => by first | (go_simp; done) | (go_simp; rfl) | rfl) ?_
            (try simp only [Act.put]); (try simp only [List.setIfInBounds_toArray, List.set_cons_zero, List.set_cons_succ])
            refine heldDone (by kernel_rfl) ?_
            clear hS
            have HTT2 : Hid (t3 + n1 ≤ 134 * tmuchL (T.take (i + 1))) := by have h1 := HT3.out; have h2 := HN1.out; have h3 := HTS.out; have h4 := HMP.out; show _ ≤ _; omega
            clear HN1 HT3
            go_wp2_with fail
            refine heldStart (S := Sa w cs B N (.slice (some ⟨g, off, none⟩) L.length cx) L gx lo hi2 c u) (by kernel_rfl) ?_
            have hbz : Below we.heap.size we we.drew := by
              refine Below.drew ?_
              exact Below.refl _ _
            replace HY := hide (HY.out.next hbz)
            have hS : Sa w cs B N (.slice (some ⟨g, off, none⟩) L.length cx) L gx lo hi2 c u we.drew := ⟨_, HY.out⟩
            clear hbz
            generalize we.drew = wd at *
            refine heldTake 0 _ rfl (by kernel_rfl) (by kernel_rfl) (by kernel_rfl) (fun _ _ _ h => h) rfl hS (fun wy hy => exec_valAt (g := gx) (off := 0) (cs := c) rfl rfl HXZ.out hy.cells) ?_
            (try simp only [Act.put]); (try simp only [List.setIfInBounds_toArray, List.set_cons_zero, List.set_cons_succ])
            refine heldTake 1 _ rfl (by kernel_rfl) (by kernel_rfl) (by kernel_rfl) (fun _ _ _ h => h) rfl hS (fun wy hy => by first | (go_simp; done) | (go_simp; rfl) | rfl) ?_
            (try simp only [Act.put]); (try simp only [List.setIfInBounds_toArray, List.set_cons_zero, List.set_cons_succ])
            refine heldTake 2 _ rfl (by kernel_rfl) (by kernel_rfl) (by kernel_rfl) (fun _ _ _ h => h) rfl hS (fun wy hy => by first | (go_simp; done) | (go_simp; rfl) | rfl) ?_
            (try simp only [Act.put]); (try simp only [List.setIfInBounds_toArray, List.set_cons_zero, List.set_cons_succ])
            refine heldTake 3 _ rfl (by kernel_rfl) (by kernel_rfl) (by kernel_rfl) (fun _ _ _ h => h) rfl hS (fun wy hy => by first | (go_simp; done) | (go_simp; rfl) | rfl) ?_
            (try simp only [Act.put]); (try simp only [List.setIfInBounds_toArray, List.set_cons_zero, List.set_cons_succ])
            refine heldTake 4 _ rfl (by kernel_rfl) (by kernel_rfl) (by kernel_rfl) (fun _ _ _ h => h) rfl hS (fun wy hy => exec_valAt (g := g) (off := off + i * 13) (cs := cu) rfl rfl HSU.out (fun k x hx => by obtain ⟨t9, h9⟩ := hy; exact HCR.out t9 wy h9.a k x hx)) ?_
            (try simp only [Act.put]); (try simp only [List.setIfInBounds_toArray, List.set_cons_zero, List.set_cons_succ])
            refine heldStep 5 rfl (by kernel_rfl) (fun K hK => ?_)
            go_simp
            refine (backValue_any u _ lo hi2 c cu HY.out.l (HTU.out.move (keep_below HY.out.a.b))).mono ?_
            rintro e we ⟨rfl, hbe⟩
            replace HY := hide (HY.out.next hbe)
            refine (Hid.out hK) _ _ (⟨_, HY.out⟩) (fun hS2 => ?_)
            clear hK K hS
            have hS := hS2
            clear hS2
            (try simp only [Act.put]); (try simp only [List.setIfInBounds_toArray, List.set_cons_zero, List.set_cons_succ])
            clear hbe
            refine heldTake 6 _ rfl (by kernel_rfl) (by kernel_rfl) (by kernel_rfl) (fun _ _ _ h => h) rfl hS (fun wy hy => by first | (go_simp; done) | (go_simp; rfl) | rfl) ?_
            (try simp only [Act.put]); (try simp only [List.setIfInBounds_toArray, List.set_cons_zero, List.set_cons_succ])
            refine heldDone (by kernel_rfl) ?_
            clear hS
            have hll := HLL.out
            go_wp2_with fail
            go_roundw
            case rel => exact ⟨i + 1, _, by omega, by go_num, HTT2, HY.out.a⟩
            case measure => simp [intOf]; omega
          · as_aux_lemma =>
            have g5 : ¬ (0 : Int) < (u.ks.length : Int) := by omega
            go_wp2_with fail
            refine heldStart (S := Sa w cs B N (.slice (some ⟨g, off, none⟩) L.length cx) L gx lo hi2 c u) (by kernel_rfl) ?_
            have hbz : Below wk.heap.size wk wk.drew := by
              refine Below.drew ?_
              exact Below.refl _ _
            replace HY := hide (HY.out.next hbz)
            have hS : Sa w cs B N (.slice (some ⟨g, off, none⟩) L.length cx) L gx lo hi2 c u wk.drew := ⟨_, HY.out⟩
            clear hbz
            generalize wk.drew = wd at *
            refine heldTake 0 _ rfl (by kernel_rfl) (by kernel_rfl) (by kernel_rfl) (fun _ _ _ h => h) rfl hS (fun wy hy => by first | (go_simp; done) | (go_simp; rfl) | rfl) ?_
            (try simp only [Act.put]); (try simp only [List.setIfInBounds_toArray, List.set_cons_zero, List.set_cons_succ])
            refine heldTake 1 _ rfl (by kernel_rfl) (by kernel_rfl) (by kernel_rfl) (fun _ _ _ h => h) rfl hS (fun wy hy => by first | (go_simp; done) | (go_simp; rfl) | rfl) ?_
            (try simp only [Act.put]); (try simp only [List.setIfInBounds_toArray, List.set_cons_zero, List.set_cons_succ])
            refine heldTake 2 _ rfl (by kernel_rfl) (by kernel_rfl) (by kernel_rfl) (fun _ _ _ h => h) rfl hS (fun wy hy => by first | (go_simp; done) | (go_simp; rfl) | rfl) ?_
            (try simp only [Act.put]); (try simp only [List.setIfInBounds_toArray, List.set_cons_zero, List.set_cons_succ])
            refine heldTake 3 _ rfl (by kernel_rfl) (by kernel_rfl) (by kernel_rfl) (fun _ _ _ h => h) rfl hS (fun wy hy => by first | (go_simp; done) | (go_simp; rfl) | rfl) ?_
            (try simp only [Act.put]); (try simp only [List.setIfInBounds_toArray, List.set_cons_zero, List.set_cons_succ])
            refine heldTake 4 _ rfl (by kernel_rfl) (by kernel_rfl) (by kernel_rfl) (fun _ _ _ h => h) rfl hS (fun wy hy => by have h0 : wy.cell? ⟨g, off + i * 13 + 11, none⟩ = some (.slice ak2 u.ks.length ck2) := (by obtain ⟨t9, h9⟩ := hy; exact HCR.out t9 wy h9.a 11 _ HC11.out); first | (go_simp; done) | (go_simp; rfl) | rfl) ?_
            (try simp only [Act.put]); (try simp only [List.setIfInBounds_toArray, List.set_cons_zero, List.set_cons_succ])
            refine heldTake 5 _ rfl (by kernel_rfl) (by kernel_rfl) (by kernel_rfl) (fun _ _ _ h => h) rfl hS (fun wy hy => by first | (go_simp; done) | (go_simp; rfl) | rfl) ?_
            (try simp only [Act.put]); (try simp only [List.setIfInBounds_toArray, List.set_cons_zero, List.set_cons_succ])
            refine heldTake 6 (.bool false) rfl (by kernel_rfl) (by kernel_rfl) (by kernel_rfl) (fun _ _ _ h => h) rfl hS (fun wy hy => by first | (go_simp; done) | (go_simp; rfl)) ?_
            (try simp only [Act.put]); (try simp only [List.setIfInBounds_toArray, List.set_cons_zero, List.set_cons_succ])
            refine heldTake 7 _ rfl (by kernel_rfl) (by kernel_rfl) (by kernel_rfl) (fun _ _ _ h => h) rfl hS (fun wy hy => by first | (go_simp; done) | (go_simp; rfl) | rfl) ?_
            (try simp only [Act.put]); (try simp only [List.setIfInBounds_toArray, List.set_cons_zero, List.set_cons_succ])
            refine heldSkip 8 rfl (by kernel_rfl) (by kernel_rfl) (by kernel_rfl) (fun _ _ _ h => h) rfl hS ?_
            (try simp only [Act.put]); (try simp only [List.setIfInBounds_toArray, List.set_cons_zero, List.set_cons_succ])
            refine heldSkip 9 rfl (by kernel_rfl) (by kernel_rfl) (by kernel_rfl) (fun _ _ _ h => h) rfl hS ?_
            (try simp only [Act.put]); (try simp only [List.setIfInBounds_toArray, List.set_cons_zero, List.set_cons_succ])
            refine heldSkip 10 rfl (by kernel_rfl) (by kernel_rfl) (by kernel_rfl) (fun _ _ _ h => h) rfl hS ?_
            (try simp only [Act.put]); (try simp only [List.setIfInBounds_toArray, List.set_cons_zero, List.set_cons_succ])
            refine heldSkip 11 rfl (by kernel_rfl) (by kernel_rfl) (by kernel_rfl) (fun _ _ _ h => h) rfl hS ?_
            (try simp only [Act.put]); (try simp only [List.setIfInBounds_toArray, List.set_cons_zero, List.set_cons_succ])
            refine heldSkip 12 rfl (by kernel_rfl) (by kernel_rfl) (by kernel_rfl) (fun _ _ _ h => h) rfl hS ?_
            (try simp only [Act.put]); (try simp only [List.setIfInBounds_toArray, List.set_cons_zero, List.set_cons_succ])
            refine heldSkip 13 rfl (by kernel_rfl) (by kernel_rfl) (by kernel_rfl) (fun _ _ _ h => h) rfl hS ?_
            (try simp only [Act.put]); (try simp only [List.setIfInBounds_toArray, List.set_cons_zero, List.set_cons_succ])
            refine heldSkip 14 rfl (by kernel_rfl) (by kernel_rfl) (by kernel_rfl) (fun _ _ _ h => h) rfl hS ?_
            (try simp only [Act.put]); (try simp only [List.setIfInBounds_toArray, List.set_cons_zero, List.set_cons_succ])
            refine heldSkip 15 rfl (by kernel_rfl) (by kernel_rfl) (by kernel_rfl) (fun _ _ _ h => h) rfl hS ?_
            (try simp only [Act.put]); (try simp only [List.setIfInBounds_toArray, List.set_cons_zero, List.set_cons_succ])
            refine heldSkip 16 rfl (by kernel_rfl) (by kernel_rfl) (by kernel_rfl) (fun _ _ _ h => h) rfl hS ?_
            (try simp only [Act.put]); (try simp only [List.setIfInBounds_toArray, List.set_cons_zero, List.set_cons_succ])
            refine heldSkip 17 rfl (by kernel_rfl) (by kernel_rfl) (by kernel_rfl) (fun _ _ _ h => h) rfl hS ?_
            (try simp only [Act.put]); (try simp only [List.setIfInBounds_toArray, List.set_cons_zero, List.set_cons_succ])
            refine heldSkip 18 rfl (by kernel_rfl) (by kernel_rfl) (by kernel_rfl) (fun _ _ _ h => h) rfl hS ?_
            (try simp only [Act.put]); (try simp only [List.setIfInBounds_toArray, List.set_cons_zero, List.set_cons_succ])
            refine heldSkip 19 rfl (by kernel_rfl) (by kernel_rfl) (by kernel_rfl) (fun _ _ _ h => h) rfl hS ?_
            (try simp only [Act.put]); (try simp only [List.setIfInBounds_toArray, List.set_cons_zero, List.set_cons_succ])
            refine heldSkip 20 rfl (by kernel_rfl) (by kernel_rfl) (by kernel_rfl) (fun _ _ _ h => h) rfl hS ?_
            (try simp only [Act.put]); (try simp only [List.setIfInBounds_toArray, List.set_cons_zero, List.set_cons_succ])
            refine heldSkip 21 rfl (by kernel_rfl) (by kernel_rfl) (by kernel_rfl) (fun _ _ _ h => h) rfl hS ?_
            (try simp only [Act.put]); (try simp only [List.setIfInBounds_toArray, List.set_cons_zero, List.set_cons_succ])
            refine heldSkip 22 rfl (by kernel_rfl) (by kernel_rfl) (by kernel_rfl) (fun _ _ _ h => h) rfl hS ?_
            (try simp only [Act.put]); (try simp only [List.setIfInBounds_toArray, List.set_cons_zero, List.set_cons_succ])
            refine heldSkip 23 rfl (by kernel_rfl) (by kernel_rfl) (by kernel_rfl) (fun _ _ _ h => h) rfl hS ?_
            (try simp only [Act.put]); (try simp only [List.setIfInBounds_toArray, List.set_cons_zero, List.set_cons_succ])
            refine heldSkip 24 rfl (by kernel_rfl) (by kernel_rfl) (by kernel_rfl) (fun _ _ _ h => h) rfl hS ?_
            (try simp only [Act.put]); (try simp only [List.setIfInBounds_toArray, List.set_cons_zero, List.set_cons_succ])
            refine heldSkip 25 rfl (by kernel_rfl) (by kernel_rfl) (by kernel_rfl) (fun _ _ _ h => h) rfl hS ?_
            (try simp only [Act.put]); (try simp only [List.setIfInBounds_toArray, List.set_cons_zero, List.set_cons_succ])
            refine heldSkip 26 rfl (by kernel_rfl) (by kernel_rfl) (by kernel_rfl) (fun _ _ _ h => h) rfl hS ?_
            (try simp only [Act.put]); (try simp only [List.setIfInBounds_toArray, List.set_cons_zero, List.set_cons_succ])
            refine heldSkip 27 rfl (by kernel_rfl) (by kernel_rfl) (by kernel_rfl) (fun _ _ _ h => h) rfl hS ?_
            (try simp only [Act.put]); (try simp only [List.setIfInBounds_toArray, List.set_cons_zero, List.set_cons_succ])
            refine heldSkip 28 rfl (by kernel_rfl) (by kernel_rfl) (by kernel_rfl) (fun _ _ _ h => h) rfl hS ?_
            (try simp only [Act.put]); (try simp only [List.setIfInBounds_toArray, List.set_cons_zero, List.set_cons_succ])
            refine heldSkip 29 rfl (by kernel_rfl) (by kernel_rfl) (by kernel_rfl) (fun _ _ _ h => h) rfl hS ?_
            (try simp only [Act.put]); (try simp only [List.setIfInBounds_toArray, List.set_cons_zero, List.set_cons_succ])
            refine heldSkip 30 rfl (by kernel_rfl) (by kernel_rfl) (by kernel_rfl) (fun _ _ _ h => h) rfl hS ?_
            (try simp only [Act.put]); (try simp only [List.setIfInBounds_toArray, List.set_cons_zero, List.set_cons_succ])
            refine heldTake 31 _ rfl (by kernel_rfl) (by kernel_rfl) (by kernel_rfl) (fun _ _ _ h => h) rfl hS (fun wy hy => by first | (go_simp; done) | (go_simp; rfl) | rfl) ?_
            (try simp only [Act.put]); (try simp only [List.setIfInBounds_toArray, List.set_cons_zero, List.set_cons_succ])
            refine heldDone (by kernel_rfl) ?_
            clear hS
            have HTT2 : Hid (t3 ≤ 134 * tmuchL (T.take (i + 1))) := by have h1 := HT3.out; have h3 := HTS.out; have h4 := HMP.out; show _ ≤ _; omega
            clear HT3
            go_wp2_with fail
            refine heldStart (S := Sa w cs B N (.slice (some ⟨g, off, none⟩) L.length cx) L gx lo hi2 c u) (by kernel_rfl) ?_
            have hbz : Below wd.heap.size wd wd.drew := by
              refine Below.drew ?_
              exact Below.refl _ _
            replace HY := hide (HY.out.next hbz)
            have hS : Sa w cs B N (.slice (some ⟨g, off, none⟩) L.length cx) L gx lo hi2 c u wd.drew := ⟨_, HY.out⟩
            clear hbz
            generalize wd.drew = wd at *
            refine heldTake 0 _ rfl (by kernel_rfl) (by kernel_rfl) (by kernel_rfl) (fun _ _ _ h => h) rfl hS (fun wy hy => exec_valAt (g := gx) (off := 0) (cs := c) rfl rfl HXZ.out hy.cells) ?_
            (try simp only [Act.put]); (try simp only [List.setIfInBounds_toArray, List.set_cons_zero, List.set_cons_succ])
            refine heldTake 1 _ rfl (by kernel_rfl) (by kernel_rfl) (by kernel_rfl) (fun _ _ _ h => h) rfl hS (fun wy hy => by first | (go_simp; done) | (go_simp; rfl) | rfl) ?_
            (try simp only [Act.put]); (try simp only [List.setIfInBounds_toArray, List.set_cons_zero, List.set_cons_succ])
            refine heldTake 2 _ rfl (by kernel_rfl) (by kernel_rfl) (by kernel_rfl) (fun _ _ _ h => h) rfl hS (fun wy hy => by first | (go_simp; done) | (go_simp; rfl) | rfl) ?_
            (try simp only [Act.put]); (try simp only [List.setIfInBounds_toArray, List.set_cons_zero, List.set_cons_succ])
            refine heldTake 3 _ rfl (by kernel_rfl) (by kernel_rfl) (by kernel_rfl) (fun _ _ _ h => h) rfl hS (fun wy hy => by first | (go_simp; done) | (go_simp; rfl) | rfl) ?_
            (try simp only [Act.put]); (try simp only [List.setIfInBounds_toArray, List.set_cons_zero, List.set_cons_succ])
            refine heldTake 4 _ rfl (by kernel_rfl) (by kernel_rfl) (by kernel_rfl) (fun _ _ _ h => h) rfl hS (fun wy hy => exec_valAt (g := g) (off := off + i * 13) (cs := cu) rfl rfl HSU.out (fun k x hx => by obtain ⟨t9, h9⟩ := hy; exact HCR.out t9 wy h9.a k x hx)) ?_
            (try simp only [Act.put]); (try simp only [List.setIfInBounds_toArray, List.set_cons_zero, List.set_cons_succ])
            refine heldStep 5 rfl (by kernel_rfl) (fun K hK => ?_)
            go_simp
            refine (backValue_any u _ lo hi2 c cu HY.out.l (HTU.out.move (keep_below HY.out.a.b))).mono ?_
            rintro e we ⟨rfl, hbe⟩
            replace HY := hide (HY.out.next hbe)
            refine (Hid.out hK) _ _ (⟨_, HY.out⟩) (fun hS2 => ?_)
            clear hK K hS
            have hS := hS2
            clear hS2
            (try simp only [Act.put]); (try simp only [List.setIfInBounds_toArray, List.set_cons_zero, List.set_cons_succ])
            clear hbe
            refine heldTake 6 _ rfl (by kernel_rfl) (by kernel_rfl) (by kernel_rfl) (fun _ _ _ h => h) rfl hS (fun wy hy => by first | (go_simp; done) | (go_simp; rfl) | rfl) ?_
            (try simp only [Act.put]); (try simp only [List.setIfInBounds_toArray, List.set_cons_zero, List.set_cons_succ])
            refine heldDone (by kernel_rfl) ?_
            clear hS
            have hll := HLL.out
            go_wp2_with fail
            go_roundw
            case rel => exact ⟨i + 1, _, by omega, by go_num, HTT2, HY.out.a⟩
            case measure => simp [intOf]; omega
      · as_aux_lemma =>
        have g1 : ¬ (i : Int) < (L.length : Int) := by omega
        obtain ⟨C, f, d, uu, hB, hf⟩ := HAa.out.k
        have HBk : Hid (Bk4 wa B B (fun q => q = B ∨ N ≤ q) tt) := ⟨C, f, d, uu, hB, hf⟩
        clear hB hf
        go_wp2_with fail
        refine (look4_any HBk.out).mono ?_
        rintro e w9 ⟨rfl, hh⟩
        have hB := HAa.out.hB
        have hN := HAa.out.hN
        have HB9 : Hid (Below w.heap.size w w9) := HAa.out.b.trans (hh.out.2.below HAa.out.b.size (fun q e => by rcases e with e | e <;> omega))
        clear hh hB hN
        go_wp2_with fail
        refine (wakes_any w9 (HT.out.next HB9.out)).mono ?_
        rintro e w10 ⟨rfl, hb10⟩
        have HB10 : Hid (Below w.heap.size w w10) := HB9.out.trans (hb10.mono HB9.out.size)
        clear hb10
        go_wp2_with fail
        go_ret
        exact ⟨rfl, HB10.out⟩
end
section
open Go.RowKit Go
theorem acc_eq : (Rows.laid_unicode_utf8_acceptRanges : DataW Unit) = Lib.acceptData := by kernel_rfl
theorem fst_eq : Rows.laid_unicode_utf8_first = Lib.firstData := by kernel_rfl
theorem tabs_of_laid {W : World} (h : laidMet Tryz.prog [("unicode/utf8.acceptRanges", Rows.laid_unicode_utf8_acceptRanges), ("unicode/utf8.first", Rows.laid_unicode_utf8_first)] W) : Tabs W := by
  rw [acc_eq, fst_eq] at h
  exact utf8Tabs_of_readsT (U8Types.of196 Tryz.laysValid) ⟨by kernel_rfl, by kernel_rfl, by kernel_rfl, by kernel_rfl, by kernel_rfl, by kernel_rfl, by kernel_rfl⟩ (Lib.laidMet.reads h (.tail _ (.head _))) (Lib.laidMet.reads h (.head _))
/-- The settled world, the tables laid. -/
noncomputable def laidWorld6 (os : Os) : World :=
  let w0 := World.holding Tryz.prog os ⟨#[], #[], []⟩
  let put (h : Array Obj) (g : Nat) (cs : Array Value) : Array Obj := h.modify g fun
    | .cells _ t frozen => .cells cs t frozen
    | o => o
  let h1 := put w0.heap 2 (Lib.firstTab.map fun z => Value.int .u8 z).toArray
  let h2 := put h1 3 ((List.range 16).flatMap fun i => [Value.int .u8 (Lib.accLo i), Value.int .u8 (Lib.accHi i)]).toArray
  { w0 with heap := h2 }
theorem laid_met6 (os : Os) (args : Array Value) : laidMet Tryz.prog [("unicode/utf8.acceptRanges", Rows.laid_unicode_utf8_acceptRanges), ("unicode/utf8.first", Rows.laid_unicode_utf8_first)] ((laidWorld6 os).forCall (fun _ _ => 0) ⟨#[], args, []⟩).memory := by
  rw [acc_eq, fst_eq]
  exact (LaidIn.of_run (l := [("unicode/utf8.acceptRanges", Lib.acceptData), ("unicode/utf8.first", Lib.firstData)]) [3, 2] 8 (by kernel_rfl) (by kernel_rfl) (by kernel_rfl) (by kernel_rfl)).met
end
section
open Go.ChangeShapes Go.WideShapes Go.ChangeAt Go.RowKit Go.Deep Go.Joins Go
theorem weight_le {H : Type} {t : TypeId} {d : DataW H} (h : (d.weights Tryz.prog t).all (· ≤ reachBytes) = true) {n : Nat} (hn : n ∈ d.weights Tryz.prog t) : n ≤ 140737488351232 := by
  have := List.all_eq_true.1 h n hn
  unfold reachBytes at this
  simpa using this
theorem weight_each {H : Type} {ts : List TypeId} {ds : List (DataW H)} (h : (DataW.weightsEach Tryz.prog ts ds).all (· ≤ reachBytes) = true) {j : Nat} {t : TypeId} {d : DataW H} (ht : ts[j]? = some t) (hd : ds[j]? = some d) : (d.weights Tryz.prog t).all (· ≤ reachBytes) = true :=
  List.all_eq_true.2 fun n hn => List.all_eq_true.1 h n (DataW.weights_mem_each ht hd n hn)
theorem bsl_open6 {H : Type} {enc : TypeId × Value → H} {w : World} {base fuel : Nat} {held : Bool} {v : Value} {x : DataW H × List MemPlace} (h : DataW.trod enc Tryz.prog w base (fun _ => true) held fuel 51 [v] = some x) (hW : (x.1.weights Tryz.prog 51).all (· ≤ reachBytes) = true) : ∃ xs, BSl w v xs ∧ xs.length ≤ 140737488351232 := by
  rcases open_ints Tryz.underlying51 Tryz.underlying5 Tryz.cells5 h with ⟨hcs, _⟩ | ⟨a, len, cap, zs, hcs, _, hl, hm, hz, hx, hcell, hwz⟩
  · injection hcs with hcs _
    subst hcs
    exact ⟨_, bsl_of_row none 0 0 [] (Nat.le_refl _) (Nat.zero_le _) rfl (by simp) (fun _ => rfl) (fun _ hh => by cases hh), by simp⟩
  · injection hcs with hcs _
    subst hcs
    simp only [if_true] at hz
    refine ⟨_, bsl_of_row (some a) len cap zs hl hm hz hwz (fun hh => by cases hh) (fun a' hh c hc => by cases hh; exact hcell c (by omega)), ?_⟩
    have h1 := weight_le hW (n := cap) (by rw [hx]; exact row_weight a len cap zs hz)
    have hlen : ((zs.take len).map Int.toNat).length = len := by simp; omega
    omega
theorem Tryz.bytesStr : Tryz.prog.bytesOf 9 = 16 := by kernel_rfl
theorem Tryz.bytesValue : Tryz.prog.bytesOf 55 = 160 := by kernel_rfl
theorem ssl_open {H : Type} {enc : TypeId × Value → H} {w : World} {base fuel : Nat} {held : Bool} {v : Value} {x : DataW H × List MemPlace} (h : DataW.trod enc Tryz.prog w base (fun _ => true) held fuel 23 [v] = some x) (hW : (x.1.weights Tryz.prog 23).all (· ≤ reachBytes) = true) : ∃ ks, SSl w v ks := by
  rcases open_strings Tryz.underlying23 Tryz.underlying9 Tryz.cells_str h with ⟨hcs, _⟩ | ⟨a, len, cap, ss, hcs, _, hl, hm, hmm, hx, hel, hsz⟩
  · injection hcs with hcs _
    subst hcs
    exact ⟨[], ⟨none, 0, rfl, ⟨by simp, fun _ => rfl⟩, .inl rfl⟩, by simp, by simp⟩
  · injection hcs with hcs _
    subst hcs
    simp only [if_true] at hmm
    have hlen : (ss.take len).length = len := by rw [List.length_take]; omega
    unfold maxLen at hm
    have hw1 : len ≤ 140737488351232 := by
      have h1 := weight_le hW (n := ((strs (H := H) (ss.take len)).length + (strs (H := H) (ss.drop len)).length) * Tryz.prog.bytesOf 9) (by rw [hx]; simp only [DataW.weights, Tryz.underlying23]; exact List.mem_cons_self ..)
      rw [Tryz.bytesStr] at h1
      have h2 : (strs (H := H) (ss.take len)).length = len := by simp [strs]; omega
      omega
    have hw2 : ∀ s ∈ ss.take len, s.size ≤ 140737488351232 := fun s hs => by
      refine weight_le hW ?_
      rw [hx]
      simp only [DataW.weights, Tryz.underlying23]
      refine List.mem_cons.2 (.inr (List.mem_append.2 (.inl (weights_all (d := .lit (.string s.data.toList)) (List.mem_map.2 ⟨s, hs, rfl⟩) _ ?_))))
      simp only [DataW.weights, List.mem_singleton]
      rfl
    refine ⟨ss.take len, ⟨some a, cap, by rw [hlen], ⟨by rw [hlen]; exact hl, fun h => by cases h⟩, ?_⟩, by rw [hlen]; exact hw1, hw2⟩
    by_cases hz : len = 0
    · exact .inl (by rw [hz]; rfl)
    · obtain ⟨b, off, spot⟩ := a
      have hspot : spot = none := by
        have := hel 0 (by omega)
        simpa [Addr.add] using World.cell?_spot this
      subst hspot
      refine .inr ⟨b, off, rfl, fun j s hj => ?_⟩
      have hjl : j < len := by
        have := (List.getElem?_eq_some_iff.1 hj).1
        omega
      have h1 := hel j (by omega)
      rw [addr_add] at h1
      rw [h1]
      rw [List.getElem?_take_of_lt hjl] at hj
      rw [List.getD_eq_getElem?_getD, hj]
      rfl
theorem vsl_of {w : World} {a : Addr} {len cap : Nat} (hl : len ≤ cap) (hm : len ≤ 140737488351232) (each : ∀ i, i < len → ∃ t cs', Tin w t cs' ∧ ∀ j u, cs'[j]? = some u → w.cell? ((a.add (i * 13)).add j) = some u) : ∃ is, VSl w (.slice (some a) len cap) is := by
  have hch : ∀ i, ∃ t : Tv, i < len → ∃ cs', Tin w t cs' ∧ ∀ j u, cs'[j]? = some u → w.cell? ((a.add (i * 13)).add j) = some u := fun i => by
    by_cases hi : i < len
    · obtain ⟨t, h⟩ := each i hi
      exact ⟨t, fun _ => h⟩
    · exact ⟨.mk 0 false false 0 0 ByteArray.empty [] ⟨0, 0, 0, []⟩ [] [], fun h => absurd h hi⟩
  obtain ⟨f, hf⟩ := Classical.axiomOfChoice hch
  have hln : ((List.range len).map f).length = len := by simp
  refine ⟨(List.range len).map f, ⟨some a, cap, by rw [hln], ⟨by rw [hln]; exact hl, fun h => by cases h⟩, ?_⟩, by rw [hln]; omega⟩
  by_cases hz : len = 0
  · exact .inl (by rw [hz]; rfl)
  · obtain ⟨b, off, spot⟩ := a
    have hspot : spot = none := by
      obtain ⟨t, cs', ht, hc⟩ := each 0 (by omega)
      obtain ⟨vy, vk, vi, he, _⟩ := ht.parts
      have := hc 0 (.int .i64 t.k) (by rw [he]; rfl)
      simpa [Addr.add] using World.cell?_spot this
    subst hspot
    refine .inr ⟨b, off, rfl, fun i t hi => ?_⟩
    have hil : i < len := by
      have := (List.getElem?_eq_some_iff.1 hi).1
      omega
    rw [List.getElem?_map, List.getElem?_range hil] at hi
    injection hi with hi
    subst hi
    obtain ⟨cs', h1, h2⟩ := hf i hil
    refine ⟨cs', h1, fun j u hu => ?_⟩
    have := h2 j u hu
    rw [addr_add, addr_add] at this
    exact this
theorem Tryz.cellsValue : Tryz.prog.cellsOf 55 = 13 := by kernel_rfl
theorem Tryz.cells_bool : Tryz.prog.cellsOf 4 = 1 := by kernel_rfl
theorem Tryz.cells_strs : Tryz.prog.cellsOf 23 = 1 := by kernel_rfl
theorem Tryz.cells_values : Tryz.prog.cellsOf 22 = 1 := by kernel_rfl
theorem Tryz.cells_bytes6 : Tryz.prog.cellsOf 51 = 1 := by kernel_rfl
set_option maxRecDepth 100000 in
/-- A value opened. -/
theorem value_open {H : Type} {enc : TypeId × Value → H} {w : World} {base : Nat} {held : Bool} : ∀ (fuel : Nat) (cs : List Value) (x : DataW H × List MemPlace), DataW.trod enc Tryz.prog w base (fun _ => true) held fuel 55 cs = some x → (x.1.weights Tryz.prog 55).all (· ≤ reachBytes) = true → ∃ t, Tin w t cs.toArray := by
  intro fuel
  induction fuel using Nat.strongRecOn with
  | _ fuel ih =>
    intro cs x h hW
    obtain ⟨xs, n, hfu, hx, hlen, hxl, hf⟩ := DataW.trod_struct Tryz.underlying55 h
    rw [Tryz.cellsValue] at hlen
    match cs, hlen, xs, hxl with
    | [c0, c1, c2, c3, c4, c5, c6, c7, c8, c9, c10, c11, c12], _, [y0, y1, y2, y3, y4, y5, y6, y7, y8, y9], _ =>
      have g0 : DataW.trod enc Tryz.prog w base (fun _ => true) held n 3 [c0] = some y0 := by simpa [Tryz.cells_int] using hf 0 _ rfl
      have g1 : DataW.trod enc Tryz.prog w base (fun _ => true) held n 4 [c1] = some y1 := by simpa [Tryz.cells_bool] using hf 1 _ rfl
      have g2 : DataW.trod enc Tryz.prog w base (fun _ => true) held n 4 [c2] = some y2 := by simpa [Tryz.cells_bool] using hf 2 _ rfl
      have g3 : DataW.trod enc Tryz.prog w base (fun _ => true) held n 50 [c3] = some y3 := by simpa [Tryz.cells_u64] using hf 3 _ rfl
      have g4 : DataW.trod enc Tryz.prog w base (fun _ => true) held n 50 [c4] = some y4 := by simpa [Tryz.cells_u64] using hf 4 _ rfl
      have g5 : DataW.trod enc Tryz.prog w base (fun _ => true) held n 9 [c5] = some y5 := by simpa [Tryz.cells_str] using hf 5 _ rfl
      have g6 : DataW.trod enc Tryz.prog w base (fun _ => true) held n 51 [c6] = some y6 := by simpa [Tryz.cells_bytes6] using hf 6 _ rfl
      have g7 : DataW.trod enc Tryz.prog w base (fun _ => true) held n 53 [c7, c8, c9, c10] = some y7 := by simpa [Tryz.cellsLink] using hf 7 _ rfl
      have g8 : DataW.trod enc Tryz.prog w base (fun _ => true) held n 23 [c11] = some y8 := by simpa [Tryz.cells_strs] using hf 8 _ rfl
      have g9 : DataW.trod enc Tryz.prog w base (fun _ => true) held n 22 [c12] = some y9 := by simpa [Tryz.cells_values] using hf 9 _ rfl
      have hWE : (DataW.weightsEach Tryz.prog [3, 4, 4, 50, 50, 9, 51, 53, 23, 22] [y0.1, y1.1, y2.1, y3.1, y4.1, y5.1, y6.1, y7.1, y8.1, y9.1]).all (· ≤ reachBytes) = true := by
        rw [hx] at hW
        simp only [DataW.weights, Tryz.underlying55] at hW
        exact hW
      obtain ⟨n0, f0, _, _⟩ := DataW.trod_int (fuel := n) (cs := [c0]) Tryz.underlying3 g0
      obtain ⟨b1, f1, _⟩ := DataW.trod_bool (fuel := n) (cs := [c1]) Tryz.underlying4 g1
      obtain ⟨b2, f2, _⟩ := DataW.trod_bool (fuel := n) (cs := [c2]) Tryz.underlying4 g2
      obtain ⟨n3, f3, _, w3⟩ := DataW.trod_int (fuel := n) (cs := [c3]) Tryz.underlying50 g3
      obtain ⟨n4, f4, _, w4⟩ := DataW.trod_int (fuel := n) (cs := [c4]) Tryz.underlying50 g4
      obtain ⟨s5, f5, hx5, hs5⟩ := DataW.trod_string (fuel := n) (cs := [c5]) Tryz.underlying9 g5
      obtain ⟨y, hy, hyl⟩ := bsl_open6 g6 (weight_each hWE (j := 6) rfl rfl)
      obtain ⟨z0, z1, z2, z3, k, hx7, _, e0, e1, e2, e3⟩ := trod_struct4 Tryz.underlying53 g7
      obtain ⟨m0, f7, _, _⟩ := DataW.trod_int (fuel := k) (cs := [c7]) Tryz.underlying3 (by simpa [Tryz.cells_int] using e0)
      obtain ⟨m1, f8, _, w8⟩ := DataW.trod_int (fuel := k) (cs := [c8]) Tryz.underlying50 (by simpa [Tryz.cells_u64] using e1)
      obtain ⟨m2, f9, _, w9⟩ := DataW.trod_int (fuel := k) (cs := [c9]) Tryz.underlying50 (by simpa [Tryz.cells_u64] using e2)
      obtain ⟨s10, f10, hx10, hs10⟩ := DataW.trod_string (fuel := k) (cs := [c10]) Tryz.underlying9 (by simpa [Tryz.cells_str] using e3)
      obtain ⟨ks, hk⟩ := ssl_open g8 (weight_each hWE (j := 8) rfl rfl)
      injection f0 with f0 _
      injection f1 with f1 _
      injection f2 with f2 _
      injection f3 with f3 _
      injection f4 with f4 _
      injection f5 with f5 _
      injection f7 with f7 _
      injection f8 with f8 _
      injection f9 with f9 _
      injection f10 with f10 _
      subst f0 f1 f2 f3 f4 f5 f7 f8 f9 f10
      have b3 := bounds_u64 w3
      have b4 := bounds_u64 w4
      have b8 := bounds_u64 w8
      have b9 := bounds_u64 w9
      have hs5 : s5.size ≤ 140737488351232 := weight_le (weight_each hWE (j := 5) (t := 9) rfl rfl) (by rw [hx5]; simp only [DataW.weights, List.mem_singleton]; rfl)
      have hW7 := weight_each hWE (j := 7) (t := 53) rfl rfl
      have hs10 : s10.size ≤ 140737488351232 := by
        rw [hx7] at hW7
        simp only [DataW.weights, Tryz.underlying53] at hW7
        exact weight_le (weight_each hW7 (j := 3) (t := 9) rfl rfl) (by rw [hx10]; simp only [DataW.weights, List.mem_singleton]; rfl)
      have hW9 := weight_each hWE (j := 9) (t := 22) rfl rfl
      have hv : ∃ is, VSl w c12 is := by
        rcases DataW.trod_slice Tryz.underlying22 g9 with ⟨hcs, _⟩ | ⟨a, len, cap, elems, rest, m, hfm, hcs, hx9, hb, hl, hm, hlen2, hel, _, _⟩
        · injection hcs with hcs _
          subst hcs
          exact ⟨[], ⟨none, 0, rfl, ⟨by simp, fun _ => rfl⟩, .inl rfl⟩, by simp⟩
        · injection hcs with hcs _
          subst hcs
          have hm2 : len ≤ 140737488351232 := by
            have h1 := weight_le hW9 (n := ((elems.map (·.1)).length + (rest.map (·.1)).length) * Tryz.prog.bytesOf 55) (by rw [hx9]; simp only [DataW.weights, Tryz.underlying22]; exact List.mem_cons_self ..)
            rw [Tryz.bytesValue, List.length_map] at h1
            omega
          have hwe : ∀ (i : Nat) (z : DataW H × List MemPlace), elems[i]? = some z → (z.1.weights Tryz.prog 55).all (· ≤ reachBytes) = true := fun i z hz => List.all_eq_true.2 fun n hn => by
            refine List.all_eq_true.1 hW9 n ?_
            rw [hx9]
            simp only [DataW.weights, Tryz.underlying22]
            exact List.mem_cons.2 (.inr (List.mem_append.2 (.inl (weights_all (List.mem_map.2 ⟨z, List.mem_of_getElem? hz, rfl⟩) n hn))))
          have each : ∀ i, i < len → ∃ t cs', Tin w t cs' ∧ ∀ j u, cs'[j]? = some u → w.cell? ((a.add (i * 13)).add j) = some u := by
            intro i hi
            have h1 := hel i hi
            rw [Tryz.cellsValue] at h1
            have h2 : ∃ z, elems[i]? = some z := ⟨elems[i]'(by omega), List.getElem?_eq_getElem (by omega)⟩
            obtain ⟨z, hz⟩ := h2
            rw [hz] at h1
            obtain ⟨cs', h3, h4⟩ := Option.bind_eq_some_iff.1 h1
            obtain ⟨t, ht⟩ := ih m (by omega) cs' z h4 (hwe i z hz)
            obtain ⟨_, hln, hcell⟩ := World.cells?_some h3
            refine ⟨t, cs'.toArray, ht, fun j u hu => ?_⟩
            rw [List.getElem?_toArray] at hu
            have hj : j < 13 := by
              have := (List.getElem?_eq_some_iff.1 hu).1
              omega
            rw [hcell j hj]
            exact hu
          exact vsl_of hl hm2 each
      obtain ⟨is, hi⟩ := hv
      refine ⟨.mk n0 b1 b2 n3.toNat n4.toNat s5 y ⟨m0, m1.toNat, m2.toNat, sl s10⟩ ks is, ?_⟩
      have q3 : ((n3.toNat : Nat) : Int) = n3 := by omega
      have q4 : ((n4.toNat : Nat) : Int) = n4 := by omega
      have q8 : ((m1.toNat : Nat) : Int) = m1 := by omega
      have q9 : ((m2.toNat : Nat) : Int) = m2 := by omega
      have hT := Tin.of (t := .mk n0 b1 b2 n3.toNat n4.toNat s5 y ⟨m0, m1.toNat, m2.toNat, sl s10⟩ ks is) (vy := c6) (vk := c11) (vi := c12) hy hk hi ⟨by show n3.toNat < _; omega, by show n4.toNat < _; omega, hs5, hyl, ⟨by show m1.toNat < _; omega, by show m2.toNat < _; omega, sl_byte s10, by show (sl s10).length ≤ _; rw [sl_len]; omega⟩, by show (sl s10).length ≤ _; rw [sl_len]; exact hs10⟩
      have e : vcs (.mk n0 b1 b2 n3.toNat n4.toNat s5 y ⟨m0, m1.toNat, m2.toNat, sl s10⟩ ks is) c6 c11 c12 = [.int .i64 n0, .bool b1, .bool b2, .int .u64 n3, .int .u64 n4, .string s5, c6, .int .i64 m0, .int .u64 m1, .int .u64 m2, .string s10, c11, c12].toArray := by
        simp only [vcs, Tv.k, Tv.f, Tv.g, Tv.n, Tv.b, Tv.s, Tv.l, nstr_sl, q3, q4, q8, q9]
      rw [e] at hT
      exact hT
/-- A slice of values opened. -/
theorem values_open {H : Type} {enc : TypeId × Value → H} {w : World} {base fuel : Nat} {held : Bool} {v : Value} {x : DataW H × List MemPlace} (h : DataW.trod enc Tryz.prog w base (fun _ => true) held fuel 22 [v] = some x) (hW : (x.1.weights Tryz.prog 22).all (· ≤ reachBytes) = true) : ∃ is, VSl w v is := by
  rcases DataW.trod_slice Tryz.underlying22 h with ⟨hcs, _⟩ | ⟨a, len, cap, elems, rest, m, hfm, hcs, hx9, hb, hl, hm, hlen2, hel, _, _⟩
  · injection hcs with hcs _
    subst hcs
    exact ⟨[], ⟨none, 0, rfl, ⟨by simp, fun _ => rfl⟩, .inl rfl⟩, by simp⟩
  · injection hcs with hcs _
    subst hcs
    have hm2 : len ≤ 140737488351232 := by
      have h1 := weight_le hW (n := ((elems.map (·.1)).length + (rest.map (·.1)).length) * Tryz.prog.bytesOf 55) (by rw [hx9]; simp only [DataW.weights, Tryz.underlying22]; exact List.mem_cons_self ..)
      rw [Tryz.bytesValue, List.length_map] at h1
      omega
    have hwe : ∀ (i : Nat) (z : DataW H × List MemPlace), elems[i]? = some z → (z.1.weights Tryz.prog 55).all (· ≤ reachBytes) = true := fun i z hz => List.all_eq_true.2 fun n hn => by
      refine List.all_eq_true.1 hW n ?_
      rw [hx9]
      simp only [DataW.weights, Tryz.underlying22]
      exact List.mem_cons.2 (.inr (List.mem_append.2 (.inl (weights_all (List.mem_map.2 ⟨z, List.mem_of_getElem? hz, rfl⟩) n hn))))
    refine vsl_of hl hm2 fun i hi => ?_
    have h1 := hel i hi
    rw [Tryz.cellsValue] at h1
    have h2 : ∃ z, elems[i]? = some z := ⟨elems[i]'(by omega), List.getElem?_eq_getElem (by omega)⟩
    obtain ⟨z, hz⟩ := h2
    rw [hz] at h1
    obtain ⟨cs', h3, h4⟩ := Option.bind_eq_some_iff.1 h1
    obtain ⟨t, ht⟩ := value_open m cs' z h4 (hwe i z hz)
    obtain ⟨_, hln, hcell⟩ := World.cells?_some h3
    refine ⟨t, cs'.toArray, ht, fun j u hu => ?_⟩
    rw [List.getElem?_toArray] at hu
    have hj : j < 13 := by
      have := (List.getElem?_eq_some_iff.1 hu).1
      omega
    rw [hcell j hj]
    exact hu
end
end Go.Proofs.YtgcccndbahphaaaGreatDoor

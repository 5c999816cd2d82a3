import Derived.Test.YtidglddjinfncabDoorJk
import Derived.Lib.AppendZerosOnto
import Derived.Lib.SliceRun
import Derived.Laws.Concat
namespace Go.Proofs.YtidglddjinfncabDoor
section
open Go.RowKit Go
/-- A row's text in a base. -/
def btext (b : Bs) (xs : List Nat) : List Nat := (cutd b xs).map fun d => (sl b.t).getD d 0
theorem btext_byte (b : Bs) (xs : List Nat) : ∀ x ∈ btext b xs, x < 256 := by
  intro x hx
  obtain ⟨d, _, rfl⟩ := List.mem_map.1 hx
  exact getD_lt (sl_byte b.t) d
theorem map_step (ds : List Nat) (f : Nat → Nat) (k : Nat) (hk : k < ds.length) : ((ds.take k).map f ++ ds.drop k).set k (f (ds.getD k 0)) = (ds.take (k + 1)).map f ++ ds.drop (k + 1) := by
  rw [take_at ds k hk, List.map_append, List.drop_eq_getElem_cons hk, List.set_append_right _ _ (by simp; omega)]
  have hl : ((ds.take k).map f).length = k := by rw [List.length_map, List.length_take]; omega
  rw [hl, Nat.sub_self, List.set_cons_zero]
  simp
theorem map_get (ds : List Nat) (f : Nat → Nat) (k : Nat) (hk : k < ds.length) : ((ds.take k).map f ++ ds.drop k).getD k 0 = ds.getD k 0 := by
  have hl : ((ds.take k).map f).length = k := by rw [List.length_map, List.length_take]; omega
  rw [List.getD_eq_getElem?_getD, List.getElem?_append_right (by omega), hl, Nat.sub_self, List.getElem?_drop, Nat.add_zero, ← List.getD_eq_getElem?_getD]
theorem map_len (ds : List Nat) (f : Nat → Nat) (k : Nat) (hk : k ≤ ds.length) : ((ds.take k).map f ++ ds.drop k).length = ds.length := by
  rw [List.length_append, List.length_map, List.length_take, List.length_drop]
  omega
theorem cutd_len {b : Bs} (hb : Bok b) {xs : List Nat} (h : ∀ x ∈ xs, x < 256) : (cutd b xs).length ≤ 9 * xs.length + 9 := by
  unfold cutd
  split
  · unfold conv
    rw [List.length_append, List.length_replicate]
    have hd : ∀ x ∈ xs.dropWhile (· == 0), x < 256 := fun x hx => h x ((List.dropWhile_suffix _).subset hx)
    have h1 := digB_len hb.t _ _ (val_pow hd (by decide) (by decide) hb.t)
    have h2 := congrArg List.length (List.takeWhile_append_dropWhile (p := (· == 0)) (l := xs))
    rw [List.length_append] at h2
    omega
  · rename_i h0
    unfold encW
    rw [grp_len (by omega) _ _ (Nat.le_refl _), List.length_append, flat_len, List.length_replicate]
    have h1 := Nat.mod_lt (b.n - xs.length * 8 % b.n) (show 0 < b.n by omega)
    have h2 := hb.n
    have h3 := Nat.div_le_self (xs.length * 8 + (b.n - xs.length * 8 % b.n) % b.n) b.n
    omega
set_option maxRecDepth 1000000 in
set_option maxHeartbeats 1000000 in
theorem text_any (w : World) (b : Bs) (v : Value) (xs : List Nat) (hb : Bok b) (hv : BSl w v xs) (hl : xs.length ≤ 1000) :
    Calls Tryd.prog 25 #[.agg b.cs, v] w fun e w' => e = .returned (.string (nstr (btext b xs))) ∧ Below w.heap.size w w' := by
  have HV := hide hv
  have HB := hide hb
  have HL := hide hl
  obtain ⟨⟨a, cap, rfl, hn, hc⟩, hmax, hby⟩ := hv
  have HBY := hide hby
  have HCL : Hid ((cutd b xs).length ≤ 10000) := by have := cutd_len hb hby; show _ ≤ _; omega
  have HCD := hide (cutd_lt hb xs)
  have HBT : Hid (btext b xs = (cutd b xs).map fun d => (sl b.t).getD d 0) := rfl
  have HBB := hide (btext_byte b xs)
  clear hn hc hby hb hl
  obtain ⟨bl, bt, bn⟩ := b
  have HT : Hid ((w.alloc (.cells #[.string bl, .string bt, .int .i64 (bn : Nat)] 63)).heap[w.heap.size]? = some (.cells (Bs.cs ⟨bl, bt, bn⟩) 63 (0, 0))) := heap_alloc_new w _
  have HB0 := hide (below_alloc4 w (.cells #[.string bl, .string bt, .int .i64 (bn : Nat)] 63))
  have HV0 := hide (HV.out.move (keep_below HB0.out))
  simp only [Bs.cs]
  go_enter Tryd.func25, Tryd.ntmps25
  go_wp2_with fail
  generalize w.alloc (.cells #[.string bl, .string bt, .int .i64 (bn : Nat)] 63) = w0 at *
  refine (cut_any w0 ⟨bl, bt, bn⟩ _ xs HB.out HV0.out HL.out).mono ?_
  rintro e w1 ⟨vo, rfl, ho, hb1⟩
  have HO := hide (own_mono4 ho HB0.out.size)
  have HB1 : Hid (Below w.heap.size w w1) := HB0.out.trans (hb1.mono HB0.out.size)
  have HT1 : Hid (w1.heap[w.heap.size]? = some (.cells (Bs.cs ⟨bl, bt, bn⟩) 63 (0, 0))) := (hb1.block _ (blk_lt HT.out)).trans HT.out
  have HGE : Hid (∀ g, vo.ownBlock = some g → ¬ g = w.heap.size) := fun g hg e => by have := (ho.lt g hg).1; have := blk_lt HT.out; omega
  obtain ⟨a2, c2, hv2, hcp, hq0⟩ := own_form ho
  subst hv2
  clear hq0 ho hb1 HT HV0 HB0
  generalize hDS : cutd ⟨bl, bt, bn⟩ xs = ds at *
  generalize hBX : btext ⟨bl, bt, bn⟩ xs = bx at *
  have HBXE := hide hBX
  clear hDS hBX
  go_wp2_with fail
  go_loopw [13] (fun ii wx => ∃ k : Nat, k ≤ ds.length ∧ ii = .int .i64 (k : Nat) ∧ Hid (wx.ownsRow w.heap.size 5 1 (.slice a2 ds.length c2) ds.length (bv ((ds.take k).map (fun d => (sl bt).getD d 0) ++ ds.drop k))) ∧ Hid (wx.heap[w.heap.size]? = some (.cells (Bs.cs ⟨bl, bt, bn⟩) 63 (0, 0))) ∧ Hid (Below w.heap.size w wx)) (fun ii _ => ds.length - (intOf ii).toNat)
  case atStart => exact ⟨0, by omega, rfl, HO, HT1, HB1⟩
  case round =>
    obtain ⟨k, hk, rfl, HI, HTI, HBI⟩ := hrel
    have hdl : ds.length ≤ 10000 := HCL.out
    by_cases hlt : k < ds.length
    · have g1 : (k : Int) < (ds.length : Int) := by omega
      obtain ⟨a3, c3, hv3, hq1, hq2, hcl⟩ := own_form HI.out
      injection hv3 with e1 e2 e3
      subst e1
      obtain ⟨g, rfl, hq3⟩ := hcl k _ (bv_get (by rw [map_len _ _ _ (by omega)]; exact hlt))
      obtain ⟨q1, f1⟩ := own_cell HI.out (bv_get (xs := (ds.take k).map (fun d => (sl bt).getD d 0) ++ ds.drop k) (j := k) (by rw [map_len _ _ _ (by omega)]; exact hlt))
      rw [map_get ds _ k hlt] at q1
      have hDX : ds.getD k 0 < bt.size := by
        rw [List.getD_eq_getElem?_getD, List.getElem?_eq_getElem hlt]
        exact HCD.out _ (List.getElem_mem hlt)
      have hDX2 : (ds.getD k 0 : Int) < (bt.size : Int) := by omega
      have c1 : wr.cell? ⟨w.heap.size, 1, none⟩ = some (.string bt) := blk_cell HTI.out rfl
      have HMS := hide (map_step ds (fun d => (sl bt).getD d 0) k hlt)
      have HSA := hide (sl_at bt (ds.getD k 0) hDX)
      have HGN : Hid (¬ g = w.heap.size) := HGE.out g rfl
      have hgn : ¬ g = w.heap.size := HGN.out
      clear hcl e2 e3 hq1 hq2 hq3
      generalize ds.getD k 0 = d at *
      have HSV : Hid (wr.setCell ⟨g, k, none⟩ (.int .u8 (bt[d].toNat : Int)) = wr.setCell ⟨g, k, none⟩ (.int .u8 (((sl bt).getD d 0 : Nat) : Int))) := by show _ = _; rw [HSA.out]
      go_wp2_with fail
      go_roundw
      case rel => 
        refine ⟨k + 1, by omega, by go_num, ?_, ?_, ?_⟩
        · show World.ownsRow _ _ _ _ _ _ _
          rw [HSV.out, ← HMS.out, ← bv_setL]
          exact own_set _ HI.out
        · exact blk_other _ _ HTI.out (fun e => hgn e.symm)
        · exact HBI.out.trans (((Kp.refl (fun q => q = g) wr).setCell ⟨g, k, none⟩ _ (fun _ => rfl)).below HBI.out.size (fun q e => by subst e; exact (HI.out.lt q rfl).1))
      case measure => simp [intOf]; omega
    · have hke : k = ds.length := by omega
      have g1 : ¬ (k : Int) < (ds.length : Int) := by omega
      have ho := HI.out
      rw [List.take_of_length_le (by omega), List.drop_of_length_le (by omega), List.append_nil, ← HBT.out] at ho
      have hbl : bx.length = ds.length := by rw [HBT.out, List.length_map]
      rw [← hbl] at ho
      have HBS := hide (BSl.own ho HBB.out)
      rw [hbl] at HBS
      have cv := HBS.out.text
      clear ho hbl hke hlt
      go_wp2_with fail
      go_ret
      exact ⟨by rw [HBXE.out]; rfl, HBI.out⟩
end
section
open Go.RowKit Go
set_option maxRecDepth 1000000 in
set_option maxHeartbeats 1000000 in
/-- slices.Grow of nil. -/
theorem grow_any (w : World) (n : Nat) (h0 : 0 < n) (hn : n ≤ 1000) :
    Calls Tryd.prog 36 #[.slice none 0 0, .int .i64 (n : Nat)] w fun e w' => ∃ v, e = .returned v ∧ w'.ownsRow w.heap.size 5 1 v 0 (bv []) ∧ Below w.heap.size w w' := by
  obtain ⟨i5, hi, hz0, hz1, hz2⟩ := info5_ex
  have hold : (Builtin.firstCells i5.size 0 (.slice none 0 0)).run Tryd.prog w.drew = .ok ([] : List Value).toArray w.drew := run_firstCells_none w.drew i5.size 0 0 0
  have hrz : ∀ ty, (Builtin.append_ #[30, 3] ty #[.slice none 0 0, .int .i64 (n : Nat)]).run Tryd.prog w = .ok (.slice (some ⟨w.heap.size, 0, none⟩) n (grownCap w n 0 5)) (w.drew.alloc (.cells (Builtin.zeroCells (Value.int .u8 0).cells n ++ Builtin.zeroCells (Value.int .u8 0).cells (grownCap w n 0 5 - n)) 5)) := fun ty => by
    have h := Lib.run_append_grow_zeros w 30 3 ty 5 i5 (.int .u8 0) .i64 .i64 Tryd.underlying30 Tryd.underlying3 hi hz0 none 0 0 [] hold n h0 (by rw [hz1]; omega) (by omega) (by omega) (by rw [hz2]; omega) (growslice_fits (by omega) (by rw [hz2]; omega))
    simpa using h
  have hG := grownCap_ge w n 0 5
  have hM := grownCap_le_maxLen w n 0 5 (by unfold maxLen; omega)
  have HO : Hid ((w.drew.alloc (.cells (Builtin.zeroCells (Value.int .u8 0).cells n ++ Builtin.zeroCells (Value.int .u8 0).cells (grownCap w n 0 5 - n)) 5)).ownsRow w.heap.size 5 1 (.slice (some ⟨w.heap.size, 0, none⟩) 0 (grownCap w n 0 5)) 0 (bv [])) := by
    refine ⟨rfl, .inr ⟨w.heap.size, grownCap w n 0 5, _, rfl, Nat.le_refl _, heap_alloc_new w.drew _, by omega, hM, ?_, by simp [bv]⟩⟩
    simp [Builtin.zeroCells, Value.cells]
    omega
  have HB : Hid (Below w.heap.size w (w.drew.alloc (.cells (Builtin.zeroCells (Value.int .u8 0).cells n ++ Builtin.zeroCells (Value.int .u8 0).cells (grownCap w n 0 5 - n)) 5))) := (Below.refl w.heap.size w).drew.alloc (Nat.le_refl _) _
  clear hold hi hz0 hz1 hz2
  have h1 : ¬ ((n : Int) < 0) := by omega
  have h4 : (n : Int) > 0 := by omega
  have hG63 : (grownCap w n 0 5 : Int) ≤ 9223372036854775807 := by unfold maxLen at hM; omega
  generalize grownCap w n 0 5 = G at *
  go_enter Tryd.func36, Tryd.ntmps36
  go_wp2_with (at_builtin; refine Lib.wpList_append_run _ rfl _ _ _ _ rfl _ _ rfl rfl _ _ (hrz _) ?_)
  go_ret
  exact ⟨_, rfl, HO.out, HB.out⟩
end
section
open Go.RowKit Go
/-- Rows of bytes in a block of slices. -/
structure Rws (w : World) (g : Nat) (vs : List Value) (xss : List (List Nat)) : Prop where
  n : vs.length = xss.length
  c : ∀ i, i < vs.length → w.cell? ⟨g, i, none⟩ = some (vs.getD i undef)
  b : ∀ i, i < vs.length → BSl w (vs.getD i undef) (xss.getD i [])
theorem Rws.below {w w' : World} {g : Nat} {vs : List Value} {xss : List (List Nat)} (h : Rws w g vs xss) (hb : Below w.heap.size w w') : Rws w' g vs xss :=
  ⟨h.n, fun i hi => keep_below hb _ _ (h.c i hi), fun i hi => (h.b i hi).move (keep_below hb)⟩
/-- How many bytes the first k rows have, and all bytes. -/
def fln (xss : List (List Nat)) (k : Nat) : Nat := (xss.take k).flatten.length
def fla (xss : List (List Nat)) (k : Nat) : List Nat := (xss.take k).flatten
theorem fla_len (xss : List (List Nat)) (k : Nat) : (fla xss k).length = fln xss k := rfl
theorem fla_succ (xss : List (List Nat)) (k : Nat) (hk : k < xss.length) : fla xss (k + 1) = fla xss k ++ xss.getD k [] := by
  unfold fla
  rw [List.take_succ_eq_append_getElem hk, List.flatten_append]
  simp [List.getD, hk]
theorem fln_succ (xss : List (List Nat)) (k : Nat) (hk : k < xss.length) : fln xss (k + 1) = fln xss k + (xss.getD k []).length := by
  rw [← fla_len, ← fla_len, fla_succ xss k hk, List.length_append]
theorem fln_le (xss : List (List Nat)) (k : Nat) : fln xss k ≤ fln xss xss.length := by
  unfold fln
  rw [List.take_length]
  conv => rhs; rw [← List.take_append_drop k xss, List.flatten_append, List.length_append]
  omega
theorem fla_all (xss : List (List Nat)) : fla xss xss.length = xss.flatten := by unfold fla; rw [List.take_length]
set_option maxRecDepth 1000000 in
set_option maxHeartbeats 1000000 in
/-- slices.Concat. -/
theorem concat_any (w : World) (g n : Nat) (vs : List Value) (xss : List (List Nat)) (hr : Rws w g vs xss) (hn : vs.length = n) (hn0 : n ≤ 100) (h0 : 0 < fln xss n) (hl : fln xss n ≤ 1000) :
    Calls Tryd.prog 21 #[.slice (some ⟨g, 0, none⟩) n n] w fun e w' => ∃ v, e = .returned v ∧ w'.ownsRow w.heap.size 5 1 v (fln xss n) (bv (fla xss n)) ∧ Below w.heap.size w w' := by
  have HR := hide hr
  have HN := hide hn
  have HL := hide hl
  have H0 := hide h0
  have HX : Hid (xss.length = n) := by have := hr.n; show _ = _; omega
  clear hr hn hl h0
  go_enter Tryd.func21, Tryd.ntmps21
  go_wp2_with fail
  go_loopw [3, 11] (fun ss ii wx => wx = w ∧ ∃ k : Nat, k ≤ n ∧ ii = .int .i64 (k : Nat) ∧ ss = .int .i64 (fln xss k : Nat)) (fun _ ii _ => n - (intOf ii).toNat)
  case atStart => exact ⟨rfl, 0, by omega, rfl, rfl⟩
  case round =>
    obtain ⟨rfl, k, hk, rfl, rfl⟩ := hrel
    by_cases hlt : k < n
    · have g1 : (k : Int) < (n : Int) := by omega
      have q1 := HR.out.c k (by have := HN.out; omega)
      have HB1 := hide (HR.out.b k (by have := HN.out; omega))
      have HF := hide (fln_succ xss k (by have := HX.out; omega))
      have HF2 := hide (fln_le xss (k + 1))
      obtain ⟨⟨a, cap, hv, _⟩, _, _⟩ := HB1.out
      rw [hv] at q1
      have g3 : fln xss k + (xss.getD k []).length ≤ 1000 := by have := HF2.out; rw [HF.out, HX.out] at this; have := HL.out; omega
      have HSU : Hid (fln xss k + (xss.getD k []).length = fln xss (k + 1)) := HF.out.symm
      clear hv HF HF2
      generalize fln xss k = s1 at *
      generalize (xss.getD k []).length = s3 at *
      have g2 : ¬ ((s1 : Int) + (s3 : Int) < 0) := by omega
      go_wp2_with fail
      go_roundw
      case rel => exact ⟨trivial, k + 1, by omega, by go_num, by have := HSU.out; congr 1; omega⟩
      case measure => simp [intOf]; omega
    · have hkn : k = n := by omega
      subst hkn
      have g1 : ¬ (k : Int) < (k : Int) := by omega
      generalize hS : fln xss k = S at *
      have HS := hide hS
      clear hS hlt
      have h1 := H0.out
      have h2 := HL.out
      go_wp2_with fail
      refine (grow_any wr S h1 h2).mono ?_
      rintro e w1 ⟨v1, rfl, ho1, hb1⟩
      have HO1 := hide ho1
      have HB1 := hide hb1
      clear ho1 hb1
      obtain ⟨a1, c1, hv1, _⟩ := own_form HO1.out
      subst hv1
      go_wp2_with fail
      go_loopw [6, 27] (fun vv ii wx => ∃ j : Nat, j ≤ k ∧ ii = .int .i64 (j : Nat) ∧ Hid (wx.ownsRow wr.heap.size 5 1 vv (fln xss j) (bv (fla xss j))) ∧ Hid (Below wr.heap.size wr wx)) (fun _ ii _ => k - (intOf ii).toNat)
      case atStart => exact ⟨0, by omega, rfl, HO1, HB1⟩
      case round => as_aux_lemma =>
        rename World => wz
        obtain ⟨j, hj, rfl, HO, HB⟩ := hrel
        clear HO1 HB1
        by_cases hjl : j < k
        · have g5 : (j : Int) < (k : Int) := by omega
          have HR2 := hide (HR.out.below HB.out)
          have q1 := HR2.out.c j (by have := HN.out; omega)
          have HBL := hide (HR2.out.b j (by have := HN.out; omega))
          have HF := hide (fln_succ xss j (by have := HX.out; omega))
          have HFA := hide (fla_succ xss j (by have := HX.out; omega))
          have HF2 : Hid (fln xss (j + 1) ≤ 1000) := by have := fln_le xss (j + 1); rw [HX.out, HS.out] at this; exact Nat.le_trans this HL.out
          obtain ⟨⟨a, cap, hv, _⟩, _, _⟩ := HBL.out
          rw [hv] at q1 HBL
          obtain ⟨a2, c2, hv2, _⟩ := own_form HO.out
          subst hv2
          have HZ : Hid (fln xss j + (xss.getD j []).length ≤ 140737488355328) := by have := HF2.out; rw [HF.out] at this; show _ ≤ _; omega
          clear hv HR2
          go_wp2_with (at_builtin; refine append_bsl rfl _ _ rfl wr.heap.size _ (fln xss j) (fla xss j) rfl HO.out _ (xss.getD j []) rfl HBL.out HZ.out HB.out.size ?_)
          intro v7 w7 ho7 hg7
          have HB7 : Hid (Below wr.heap.size wr w7) := HB.out.grown hg7 HB.out.size (fun g hg => (HO.out.lt g hg).1)
          have HO7 : Hid (w7.ownsRow wr.heap.size 5 1 v7 (fln xss (j + 1)) (bv (fla xss (j + 1)))) := by show World.ownsRow _ _ _ _ _ _ _; rw [HF.out, HFA.out]; exact ho7
          clear ho7 hg7 HO HB HBL HF HFA HF2 HZ
          go_wp2_with fail
          go_roundw
          case rel => exact ⟨j + 1, by omega, by go_num, HO7, HB7⟩
          case measure => simp [intOf]; omega
        · have hjk : j = k := by omega
          subst hjk
          have g5 : ¬ (j : Int) < (j : Int) := by omega
          have ho := HO.out
          rw [HS.out] at ho
          obtain ⟨a2, c2, hv2, _⟩ := own_form ho
          subst hv2
          have HO2 := hide ho
          clear ho HO
          go_wp2_with fail
          go_ret
          exact ⟨_, rfl, by rw [HS.out]; exact HO2.out, HB.out⟩
end
section
open Go.RowKit Go
/-- What Bytes lays. -/
def lrow (l : Lk) : List Nat := if lok l then lbytes l else []
theorem lrow_byte {l : Lk} (h : ∀ x ∈ l.d, x < 256) : ∀ x ∈ lrow l, x < 256 := by
  unfold lrow
  split
  · exact lbytes_byte (by assumption) h
  · simp
theorem lrow_len (l : Lk) : (lrow l).length ≤ 76 := by
  unfold lrow
  split
  · exact lbytes_len (by assumption)
  · simp
set_option maxRecDepth 1000000 in
set_option maxHeartbeats 1000000 in
theorem bytes4_any (w : World) (l : Lk) (hl : Lkb l) :
    Calls Tryd.prog 10 #[lkv l] w fun e w' => ∃ v', e = .returned (.tuple #[v', .int .i64 (if lok l then 0 else 40)]) ∧ w'.ownsRow w.heap.size 5 1 v' (lrow l).length (bv (lrow l)) ∧ Below w.heap.size w w' := by
  have HL := hide hl
  have HT : Hid ((w.alloc (.cells #[.int .i64 l.v, .int .u64 (l.c : Nat), .int .u64 (l.h : Nat), .string (nstr l.d)] 33)).heap[w.heap.size]? = some (.cells (lcs l) 33 (0, 0))) := heap_alloc_new w _
  have HB := hide (below_alloc4 w (.cells #[.int .i64 l.v, .int .u64 (l.c : Nat), .int .u64 (l.h : Nat), .string (nstr l.d)] 33))
  simp only [lkv]
  by_cases hlk : lok l
  · have HLR : Hid (lrow l = lbytes l) := by show _ = _; unfold lrow; rw [if_pos hlk]
    rw [if_pos hlk, HLR.out]
    have HLK := hide hlk
    clear hlk hl
    go_enter Tryd.func10, Tryd.ntmps10
    go_wp2_with fail
    generalize w.alloc (.cells #[.int .i64 l.v, .int .u64 (l.c : Nat), .int .u64 (l.h : Nat), .string (nstr l.d)] 33) = w0 at *
    refine (check_any w0 l HL.out).mono ?_
    rintro e w1 ⟨rfl, hb1⟩
    rw [if_pos HLK.out]
    have q0 : w1.heap[w.heap.size]? = some (.cells (lcs l) 33 (0, 0)) := (hb1.block _ (blk_lt HT.out)).trans HT.out
    have HB1 : Hid (Below w.heap.size w w1) := HB.out.trans (hb1.mono HB.out.size)
    have c2 : w1.cell? ⟨w.heap.size, 2, none⟩ = some (.int .u64 (l.h : Nat)) := blk_cell q0 rfl
    have c3 : w1.cell? ⟨w.heap.size, 3, none⟩ = some (.string (nstr l.d)) := blk_cell q0 rfl
    have cv := conv_sb w1 (nstr l.d)
    go_wp2_with fail
    have HS1 : Hid (BSl (Lib.bytesWorld w1 5 (nstr l.d)) (.slice (some ⟨w1.heap.size, 0, none⟩) (nstr l.d).size (grownCap w1 (nstr l.d).size 0 5)) l.d) := by
      have h := conv_sb_bsl w1 (nstr l.d) (by rw [HL.out.size]; have := HL.out.n; omega)
      rw [sl_nstr HL.out.d] at h
      exact h
    have HB2 : Hid (Below w.heap.size w (Lib.bytesWorld w1 5 (nstr l.d))) := HB1.out.trans ((conv_sb_below w1 _).mono HB1.out.size)
    have HT2 : Hid ((Lib.bytesWorld w1 5 (nstr l.d)).heap[w.heap.size]? = some (.cells (lcs l) 33 (0, 0))) := (Lib.bytesWorld_at_old w1 5 _ _ (blk_lt q0)).trans q0
    clear cv c2 c3 q0 hb1
    generalize grownCap w1 (nstr l.d).size 0 5 = G at *
    generalize w1.heap.size = gg at *
    generalize Lib.bytesWorld w1 5 (nstr l.d) = w2 at *
    refine (dlay_any w2 l.h _ l.d HL.out.h HS1.out).mono ?_
    rintro e w3 ⟨vd, rfl, ho3, hb3⟩
    have HDL := hide (dlay_ok (lok_okd HLK.out))
    rw [HDL.out] at ho3 ⊢
    have HO3 := hide ho3
    have HB3 : Hid (Below w.heap.size w w3) := HB2.out.trans (hb3.mono HB2.out.size)
    have q3 : w3.heap[w.heap.size]? = some (.cells (lcs l) 33 (0, 0)) := (hb3.block _ (blk_lt HT2.out)).trans HT2.out
    have HWB : Hid (w.heap.size ≤ w2.heap.size) := HB2.out.size
    have c0 : w3.cell? ⟨w.heap.size, 0, none⟩ = some (.int .i64 l.v) := blk_cell q3 rfl
    have c1 : w3.cell? ⟨w.heap.size, 1, none⟩ = some (.int .u64 (l.c : Nat)) := blk_cell q3 rfl
    clear ho3 hb3 q3 HS1 HT2 HB2 HDL
    obtain ⟨ad, cd, hvd, _⟩ := own_form HO3.out
    subst hvd
    have HBYT : Hid (∀ x ∈ l.h :: l.d.length :: l.d, x < 256) := by
      have hk := lok_okd HLK.out
      intro x hx
      unfold okd at hk
      simp only [List.mem_cons] at hx
      rcases hx with e | e | e
      · omega
      · omega
      · exact HL.out.d x e
    have HRL : Hid ((l.h :: l.d.length :: l.d).length ≤ 66) := by
      have hk := lok_okd HLK.out
      unfold okd at hk
      show _ ≤ _
      simp
      omega
    by_cases hv0 : l.v = 0
    · as_aux_lemma =>
      have HBY : Hid (lbytes l = l.h :: l.d.length :: l.d) := by show _ = _; unfold lbytes; rw [if_pos hv0]
      rw [hv0] at c0 ⊢
      generalize l.h :: l.d.length :: l.d = rw3 at *
      go_wp2_with fail
      go_ret2
      exact ⟨_, rfl, by rw [HBY.out]; exact own_mono4 HO3.out HWB.out, HB3.out⟩
    · as_aux_lemma =>
      have hv1 : l.v = 1 := by
        rcases HLK.out with h1 | h1
        · exact absurd h1.1 hv0
        · exact h1.1
      have HC : Hid (l.c < 9223372036854775808) := by
        rcases HLK.out with h1 | h1
        · exact absurd h1.1 hv0
        · exact h1.2.1
      have HBY : Hid (lbytes l = 1 :: digs 9 l.c ++ (l.h :: l.d.length :: l.d)) := by show _ = _; unfold lbytes; rw [if_neg hv0]
      have HDB : Hid (∀ x ∈ digs 9 l.c, x < 256) := fun x hx => lbytes_byte HLK.out HL.out.d x (by rw [HBY.out]; simp [hx])
      rw [hv1] at c0 ⊢
      clear hv0 hv1
      generalize l.h :: l.d.length :: l.d = rw3 at *
      go_wp2_with fail
      refine (vlay_any (l.c : Nat) w3 (by omega) (by have := HC.out; omega)).mono ?_
      rintro e w4 ⟨vc, rfl, ho4, hb4⟩
      rw [Int.toNat_natCast] at ho4
      have HV4 := hide (BSl.own ho4 HDB.out)
      have HD4 := hide (BSl.own (own_below4 HO3.out hb4) HBYT.out)
      have HB4 : Hid (Below w.heap.size w w4) := HB3.out.trans (hb4.mono HB3.out.size)
      obtain ⟨ac, cc, hvc, _⟩ := own_form ho4
      subst hvc
      clear ho4 hb4 HO3 HB3 c0 c1
      have HDN := hide (digs_len 9 l.c)
      have hb5 := below_alloc4 w4 (.cells #[.int .u8 1] 5)
      have hb6 := hb5.trans ((below_alloc4 (w4.alloc (.cells #[.int .u8 1] 5)) (.cells #[.slice (some ⟨w4.heap.size, 0, none⟩) 1 1, .slice ac (digs 9 l.c).length cc, .slice ad rw3.length cd] 30)).mono hb5.size)
      have HRW : Hid (Rws ((w4.alloc (.cells #[.int .u8 1] 5)).alloc (.cells #[.slice (some ⟨w4.heap.size, 0, none⟩) 1 1, .slice ac (digs 9 l.c).length cc, .slice ad rw3.length cd] 30)) (w4.heap.size + 1) [.slice (some ⟨w4.heap.size, 0, none⟩) 1 1, .slice ac (digs 9 l.c).length cc, .slice ad rw3.length cd] [[1], digs 9 l.c, rw3]) := by
        have h1 := heap_alloc_new (w4.alloc (.cells #[.int .u8 1] 5)) (.cells #[.slice (some ⟨w4.heap.size, 0, none⟩) 1 1, .slice ac (digs 9 l.c).length cc, .slice ad rw3.length cd] 30)
        have e : (w4.alloc (.cells #[.int .u8 1] 5)).heap.size = w4.heap.size + 1 := by simp
        rw [e] at h1
        refine ⟨rfl, fun i hi => ?_, fun i hi => ?_⟩
        · match i, hi with
          | 0, _ => exact blk_cell h1 rfl
          | 1, _ => exact blk_cell h1 rfl
          | 2, _ => exact blk_cell h1 rfl
        · match i, hi with
          | 0, _ => exact (one_bsl w4 1 (by decide)).move (keep_alloc _ _)
          | 1, _ => exact HV4.out.move (keep_below hb6)
          | 2, _ => exact HD4.out.move (keep_below hb6)
      have HB6 : Hid (Below w.heap.size w ((w4.alloc (.cells #[.int .u8 1] 5)).alloc (.cells #[.slice (some ⟨w4.heap.size, 0, none⟩) 1 1, .slice ac (digs 9 l.c).length cc, .slice ad rw3.length cd] 30))) := HB4.out.trans (hb6.mono HB4.out.size)
      have HF3 : Hid (fla [[1], digs 9 l.c, rw3] 3 = lbytes l) := by show _ = _; rw [HBY.out]; unfold fla; simp
      have HN3 : Hid (fln [[1], digs 9 l.c, rw3] 3 = (lbytes l).length) := by show _ = _; rw [← fla_len, HF3.out]
      have HLN : Hid (0 < (lbytes l).length ∧ (lbytes l).length ≤ 1000) := by
        have h1 := lbytes_len HLK.out
        show _ ∧ _
        rw [HBY.out] at h1 ⊢
        refine ⟨by simp, by omega⟩
      clear hb5 hb6 HV4 HD4 HB4
      go_wp2_with fail
      generalize (w4.alloc (.cells #[.int .u8 1] 5)).alloc (.cells #[.slice (some ⟨w4.heap.size, 0, none⟩) 1 1, .slice ac (digs 9 l.c).length cc, .slice ad rw3.length cd] 30) = w6 at *
      refine (concat_any w6 (w4.heap.size + 1) 3 _ _ HRW.out rfl (by decide) (by rw [HN3.out]; exact HLN.out.1) (by rw [HN3.out]; exact HLN.out.2)).mono ?_
      rintro e w7 ⟨v7, rfl, ho7, hb7⟩
      rw [HF3.out, HN3.out] at ho7
      have HO7 := hide (own_mono4 ho7 HB6.out.size)
      have HB7 : Hid (Below w.heap.size w w7) := HB6.out.trans (hb7.mono HB6.out.size)
      obtain ⟨a7, c7, hv7, _⟩ := own_form ho7
      subst hv7
      clear ho7 hb7 HRW HB6
      go_wp2_with fail
      go_ret2
      exact ⟨_, rfl, HO7.out, HB7.out⟩
  · have HLR : Hid (lrow l = []) := by show _ = _; unfold lrow; rw [if_neg hlk]
    rw [if_neg hlk, HLR.out]
    have HLK := hide hlk
    clear hlk
    go_enter Tryd.func10, Tryd.ntmps10
    go_wp2_with fail
    generalize w.alloc (.cells #[.int .i64 l.v, .int .u64 (l.c : Nat), .int .u64 (l.h : Nat), .string (nstr l.d)] 33) = w0 at *
    refine (check_any w0 l HL.out).mono ?_
    rintro e w1 ⟨rfl, hb1⟩
    rw [if_neg HLK.out]
    have HB1 : Hid (Below w.heap.size w w1) := HB.out.trans (hb1.mono HB.out.size)
    clear hb1
    go_wp2_with fail
    go_ret2
    exact ⟨_, rfl, ⟨rfl, .inl ⟨rfl, rfl⟩⟩, HB1.out⟩
end
section
open Go.RowKit Go
theorem sl_map16 (l : List Nat) : (l.map fun d => (sl s16).getD d 0) = l.map (d16.getD · 0) := by rw [sl16]
theorem btext16 (xs : List Nat) : btext b16 xs = of16 xs := by
  show (encW 4 xs).map (fun d => (sl s16).getD d 0) = _
  rw [sl16]
  rfl
theorem btext32 (xs : List Nat) : btext b32 xs = of32 xs := by
  show (encW 5 xs).map (fun d => (sl s32).getD d 0) = _
  rw [sl32]
  rfl
theorem btext58 (xs : List Nat) : btext b58 xs = of58 xs := by
  show (conv 256 58 xs).map (fun d => (sl s58).getD d 0) = _
  rw [sl58]
  rfl
/-- What TextIn tells, and its error. -/
def ltin (l : Lk) (n : Int) : List Nat × Int := if lok l then (if l.v = 0 ∨ ¬ (n = 1 ∨ n = 2 ∨ n = 3) then ([], 45) else (sl (bof n).l ++ btext (bof n) (lbytes l), 0)) else ([], 40)
def lttx (l : Lk) : List Nat × Int := if lok l then (ltext l, 0) else ([], 40)
theorem bof_ok {n : Int} (h : n = 1 ∨ n = 2 ∨ n = 3) : Bok (bof n) := by
  rcases h with rfl | rfl | rfl
  · exact bok16
  · exact bok32
  · exact bok58
theorem ltin_text {l : Lk} (h : lok l) (hv : l.v ≠ 0) {n : Nat} (hn : n = 1 ∨ n = 2 ∨ n = 3) : ltin l n = (ltextin l n, 0) := by
  unfold ltin
  rw [if_pos h, if_neg (by omega)]
  rcases hn with rfl | rfl | rfl
  · show (sl b16.l ++ btext b16 _, _) = _
    rw [btext16]
    rfl
  · show (sl b32.l ++ btext b32 _, _) = _
    rw [btext32]
    rfl
  · show (sl b58.l ++ btext b58 _, _) = _
    rw [btext58]
    rfl
theorem add_str (a b : ByteArray) : sl (a ++ b) = sl a ++ sl b := by
  simp [sl]
end
section
open Go.RowKit Go
theorem nstr_cat (a : ByteArray) {xs : List Nat} (h : ∀ x ∈ xs, x < 256) : a ++ nstr xs = nstr (sl a ++ xs) := by
  rw [← nstr_sl (a ++ nstr xs), add_str, sl_nstr h]
theorem qstep_base {C : World → Prop} {ops : Array Oper} {o : Oper} {a : Act} {K : Act → Prop} {p : Operand} (hgd : Region.wanted o (yielded ops a.tmps) = true) (ho : o.op = .load 63 p) (g : Nat) (cs : Array Value)
    (hp : a.eval p = .pointer (some ⟨g, 0, none⟩)) (hn : cs.size = 3) (hc : ∀ w, C w → w.heap[g]? = some (.cells cs 63 (0, 0)))
    (h : K (a.put o.dst (.agg cs))) : if Region.wanted o (yielded ops a.tmps) = true then o.quiet Tryd.prog a C K else K (a.put o.dst undef) := by
  rw [if_pos hgd]
  refine ⟨.agg cs, fun w hC => ?_, h⟩
  have hr : (Instr.loadAt 63 (.pointer (some ⟨g, 0, none⟩))).run Tryd.prog w = .ok (.agg cs) w := by
    simp only [Instr.loadAt, Instr.sureAddr, Sem.run_bind, Sem.run_pure, Result.andThen]
    exact run_loadVar_row (P := Tryd.prog) w g 63 63 cs (0, 0) _ (hc w hC) Tryd.underlying63 rfl (by rw [hn]; exact infoB)
  unfold Oper.quietAt execOp
  simp only [ho, Sem.run_bind, hp, hr, Result.andThen_ok]
  exact ⟨rfl, rfl⟩
/-- Two strings joined, as a step of a region that draws. -/
theorem qstep_cat {C : World → Prop} {ops : Array Oper} {o : Oper} {a : Act} {K : Act → Prop} {x y : Operand} {T T2 : TypeId} (hgd : Region.wanted o (yielded ops a.tmps) = true) (ho : o.op = .binOp .add T x y T2) (A B : ByteArray)
    (hx : a.eval x = .string A) (hy : a.eval y = .string B) (hz : A.size + B.size ≤ 9223372036854775807)
    (h : K (a.put o.dst (.string (A ++ B)))) : if Region.wanted o (yielded ops a.tmps) = true then o.quiet Tryd.prog a C K else K (a.put o.dst undef) := by
  rw [if_pos hgd]
  refine ⟨.string (A ++ B), fun w hC => ?_, h⟩
  unfold Oper.quietAt execOp
  simp only [ho, Sem.run_bind, hx, hy, eqGuard_at_string, binOp_string_add, run_string_add_sum w A B (by omega), Result.andThen_ok, Sem.run_pure]
  exact ⟨rfl, rfl⟩
set_option maxRecDepth 1000000 in
set_option maxHeartbeats 1000000 in
theorem textin_any (w : World) (l : Lk) (n : Int) (hl : Lkb l) :
    Calls Tryd.prog 23 #[lkv l, .int .i64 n] w fun e w' => e = .returned (.tuple #[.string (nstr (ltin l n).1), .int .i64 (ltin l n).2]) ∧ Below w.heap.size w w' := by
  have HL := hide hl
  have HT : Hid ((w.alloc (.cells #[.int .i64 l.v, .int .u64 (l.c : Nat), .int .u64 (l.h : Nat), .string (nstr l.d)] 33)).heap[w.heap.size]? = some (.cells (lcs l) 33 (0, 0))) := heap_alloc_new w _
  have HB := hide (below_alloc4 w (.cells #[.int .i64 l.v, .int .u64 (l.c : Nat), .int .u64 (l.h : Nat), .string (nstr l.d)] 33))
  simp only [lkv]
  generalize hR : ltin l n = R
  have HR := hide hR
  clear hR hl
  go_enter Tryd.func23, Tryd.ntmps23
  go_wp2_with fail
  generalize w.alloc (.cells #[.int .i64 l.v, .int .u64 (l.c : Nat), .int .u64 (l.h : Nat), .string (nstr l.d)] 33) = w0 at *
  refine (bytes4_any w0 l HL.out).mono ?_
  rintro e w1 ⟨v1, rfl, ho1, hb1⟩
  have HB1 : Hid (Below w.heap.size w w1) := HB.out.trans (hb1.mono HB.out.size)
  have HT1 : Hid (w1.heap[w.heap.size]? = some (.cells (lcs l) 33 (0, 0))) := (hb1.block _ (blk_lt HT.out)).trans HT.out
  have HV1 := hide (BSl.own ho1 (lrow_byte HL.out.d))
  have HRL := hide (lrow_len l)
  obtain ⟨a1, c1, hv1, hq1, hq2, hq3⟩ := own_form ho1
  subst hv1
  clear ho1 hb1 hq1 hq2 hq3 HT HB
  by_cases hlk : lok l
  · rw [if_pos hlk]
    have HLW : Hid (lrow l = lbytes l) := by show _ = _; unfold lrow; rw [if_pos hlk]
    have HR2 : Hid ((if l.v = 0 ∨ ¬ (n = 1 ∨ n = 2 ∨ n = 3) then ([], 45) else (sl (bof n).l ++ btext (bof n) (lrow l), (0 : Int))) = R) := by
      show _ = _
      rw [← HR.out]
      unfold ltin
      rw [if_pos hlk, HLW.out]
    clear HR hlk HLW
    generalize lrow l = lr at *
    go_wp2_with fail
    refine (baseOf_any w1 n).mono ?_
    rintro e w2 ⟨rfl, hb2⟩
    have HB2 : Hid (Below w.heap.size w w2) := HB1.out.trans (hb2.mono HB1.out.size)
    have HT2 : Hid (w2.heap[w.heap.size]? = some (.cells (lcs l) 33 (0, 0))) := (hb2.block _ (blk_lt HT1.out)).trans HT1.out
    have HV2 := hide (HV1.out.move (keep_below hb2))
    have HOK := hide (bof_ok (n := n))
    clear hb2 HB1 HT1 HV1
    generalize bof n = bb at *
    obtain ⟨bl, bt, bn⟩ := bb
    simp only [Bs.cs]
    have hb3 := below_alloc4 w2 (.cells #[.string bl, .string bt, .int .i64 (bn : Nat)] 63)
    have HB3 : Hid (Below w.heap.size w (w2.alloc (.cells #[.string bl, .string bt, .int .i64 (bn : Nat)] 63))) := HB2.out.trans (hb3.mono HB2.out.size)
    have HTB : Hid ((w2.alloc (.cells #[.string bl, .string bt, .int .i64 (bn : Nat)] 63)).heap[w2.heap.size]? = some (.cells (Bs.cs ⟨bl, bt, bn⟩) 63 (0, 0))) := heap_alloc_new w2 _
    have HV3 := hide (HV2.out.move (keep_below hb3))
    have c0 : (w2.alloc (.cells #[.string bl, .string bt, .int .i64 (bn : Nat)] 63)).cell? ⟨w.heap.size, 0, none⟩ = some (.int .i64 l.v) := keep_below hb3 _ _ (blk_cell HT2.out rfl)
    clear hb3 HB2 HT2 HV2
    by_cases hn : n = 1 ∨ n = 2 ∨ n = 3
    · rw [decide_eq_true hn]
      by_cases hv : l.v = 0
      · as_aux_lemma =>
        rw [if_pos (.inl hv)] at HR2
        rw [hv] at c0 ⊢
        clear hn
        go_wp2_with fail
        go_ret2
        exact ⟨by rw [← HR2.out]; rfl, HB3.out⟩
      · have g0 : (l.v == 0) = false := beq_eq_false_iff_ne.2 hv
        rw [if_neg (by rintro (h | h); exact hv h; exact h hn)] at HR2
        have HBO := hide (HOK.out hn)
        clear hn hv HOK
        have q0 : (w2.alloc (.cells #[.string bl, .string bt, .int .i64 (bn : Nat)] 63)).cell? ⟨w2.heap.size, 0, none⟩ = some (.string bl) := blk_cell HTB.out rfl
        go_wp2_with fail
        generalize w2.alloc (.cells #[.string bl, .string bt, .int .i64 (bn : Nat)] 63) = w3 at *
        generalize w2.heap.size = gB at *
        as_aux_lemma =>
        have k0 : ∀ t : Ext w3, t.w'.cell? ⟨gB, 0, none⟩ = some (.string bl) := fun t => Ext.cell q0 t
        have HQ : Hid (∀ wx, (∃ t : Ext w3, wx = t.w') → wx.heap[gB]? = some (.cells (Bs.cs ⟨bl, bt, bn⟩) 63 (0, 0))) := by
          rintro _ ⟨t, rfl⟩
          exact (t.h.block _ (blk_lt HTB.out)).trans HTB.out
        have HCT : Hid (∀ t : Ext w3, Calls Tryd.prog 25 #[.agg (Bs.cs ⟨bl, bt, bn⟩), .slice a1 lr.length c1] t.w' fun e w'' => e = .returned (.string (nstr (btext ⟨bl, bt, bn⟩ lr))) ∧ ∃ t' : Ext w3, w'' = t'.w') := fun t => Calls.ext_below (text_any t.w' ⟨bl, bt, bn⟩ _ lr HBO.out (Ext.bsl HV3.out t) (Nat.le_trans HRL.out (by decide)))
        have HCN : Hid ((Bs.cs ⟨bl, bt, bn⟩).size = 3) := rfl
        have HBX : Hid ((nstr (btext ⟨bl, bt, bn⟩ lr)).size ≤ 1000) := by
          show _ ≤ _
          rw [nstr_size (btext_byte _ _)]
          unfold btext
          rw [List.length_map]
          have h1 := cutd_len HBO.out HV3.out.byte
          have h2 := HRL.out
          omega
        have HSZ : Hid (bl.size + (nstr (btext ⟨bl, bt, bn⟩ lr)).size ≤ 9223372036854775807) := by have h1 := HBO.out.z; have h2 := HBX.out; simp only at h1; show _ ≤ _; omega
        have HNC := hide (nstr_cat bl (btext_byte ⟨bl, bt, bn⟩ lr))
        generalize hcl : Bs.cs ⟨bl, bt, bn⟩ = cl at *
        generalize btext ⟨bl, bt, bn⟩ lr = bx at *
        refine region_ext (by kernel_rfl) (by kernel_rfl) ?_
        repeat (
          refine wpQuiet_step (fun K hK => ?_)
          first
            | (refine qstep_base rfl rfl gB cl rfl HCN.out HQ.out (hK _ ?_); clear hK K)
            | (refine qstep_cat rfl rfl bl (nstr bx) rfl rfl HSZ.out (hK _ ?_); clear hK K)
            | (go_simp
               first
                 | (refine hK _ ?_; clear hK K)
                 | (apply Exists.intro
                    refine ⟨fun _ => ?_, hK _ ?_⟩
                    (go_at_call 25; exact HCT.out _)
                    clear hK K)))
        refine wpQuiet_nil ?_
        rintro _ ⟨tq, rfl⟩
        have HBF : Hid (Below w.heap.size w tq.w') := HB3.out.trans (tq.h.mono HB3.out.size)
        go_wp2_with fail
        go_ret2
        exact ⟨by rw [← HR2.out]; simp only; rw [← HNC.out]; rfl, HBF.out⟩
    · as_aux_lemma =>
      rw [decide_eq_false hn]
      rw [if_pos (.inr hn)] at HR2
      clear hn
      go_wp2_with fail
      go_ret2
      exact ⟨by rw [← HR2.out]; rfl, HB3.out⟩
  · as_aux_lemma =>
    rw [if_neg hlk]
    have HR2 : Hid (R = ([], 40)) := by show _ = _; rw [← HR.out]; unfold ltin; rw [if_neg hlk]
    clear HR hlk
    go_wp2_with fail
    go_ret2
    exact ⟨by rw [HR2.out]; rfl, HB1.out⟩
end
section
open Go.RowKit Go
/-- What ending tells. -/
def lend (xs : List Nat) : Nat × List Nat × Nat × Nat := if (dread xs).2.2.2 = 0 then dread xs else (0, [], 0, lerr (dread xs).2.2.2)
theorem lend_third (v : Int) (c at' : Nat) (b : List Nat) : lthird v c at' b = if (lend (b.drop at')).2.2.2 = 0 then (⟨v, c, (lend (b.drop at')).1, (lend (b.drop at')).2.1⟩, at' + (lend (b.drop at')).2.2.1, 0) else (Lk.none, 0, (lend (b.drop at')).2.2.2) := by
  unfold lthird lend
  by_cases h : (dread (b.drop at')).2.2.2 = 0
  · rw [if_pos h, if_pos h, if_pos h]
  · rw [if_neg h, if_neg h, if_neg]
    unfold lerr
    simp only
    split <;> omega
set_option maxRecDepth 1000000 in
set_option maxHeartbeats 1000000 in
theorem lending_any (w : World) (v : Value) (xs : List Nat) (hb : BSl w v xs) :
    Calls Tryd.prog 37 #[v] w fun e w' => ∃ v', e = .returned (.tuple #[.int .u64 ((lend xs).1 : Nat), v', .int .i64 ((lend xs).2.2.1 : Nat), .int .i64 ((lend xs).2.2.2 : Nat)]) ∧ w'.ownsRow w.heap.size 5 1 v' (lend xs).2.1.length (bv (lend xs).2.1) ∧ Below w.heap.size w w' := by
  have HB := hide hb
  obtain ⟨⟨a, cap, rfl, hn, hc⟩, hmax, hby⟩ := hb
  have HLE : Hid (lend xs = if (dread xs).2.2.2 = 0 then dread xs else (0, [], 0, lerr (dread xs).2.2.2)) := rfl
  clear hn hc hby
  go_enter Tryd.func37, Tryd.ntmps37
  go_wp2_with fail
  refine (dread_any w _ xs HB.out).mono ?_
  rintro e w1 ⟨v1, rfl, ho1, hb1⟩
  have HB1 := hide hb1
  generalize dread xs = r at *
  obtain ⟨rh, rdd, rn, re⟩ := r
  simp only at ho1 HLE ⊢
  have HO1 := hide ho1
  obtain ⟨a1, c1, hv1, _⟩ := own_form ho1
  subst hv1
  clear ho1 hb1
  by_cases h0 : re = 0
  · subst h0
    have HZ : Hid (lend xs = (rh, rdd, rn, 0)) := by show _ = _; rw [HLE.out, if_pos rfl]
    clear HLE
    go_wp2_with fail
    exact bodyPost_ret (results_four rfl _ _ _) rfl ⟨_, by rw [HZ.out]; rfl, by rw [HZ.out]; exact HO1.out, HB1.out⟩
  · have g0 : ((re : Int) == 0) = false := beq_eq_false_iff_ne.2 (by omega)
    by_cases h1 : re = 32
    · subst h1
      have HZ : Hid (lend xs = (0, [], 0, 42)) := by show _ = _; rw [HLE.out]; rfl
      clear HLE
      go_wp2_with fail
      exact bodyPost_ret (results_four rfl _ _ _) rfl ⟨_, by rw [HZ.out]; rfl, by rw [HZ.out]; exact World.ownsRow_nil _ _ _ _, HB1.out⟩
    · have g1 : ((re : Int) == 32) = false := beq_eq_false_iff_ne.2 (by omega)
      by_cases h2 : re = 33
      · subst h2
        have HZ : Hid (lend xs = (0, [], 0, 42)) := by show _ = _; rw [HLE.out]; rfl
        clear HLE
        go_wp2_with fail
        exact bodyPost_ret (results_four rfl _ _ _) rfl ⟨_, by rw [HZ.out]; rfl, by rw [HZ.out]; exact World.ownsRow_nil _ _ _ _, HB1.out⟩
      · have g2 : ((re : Int) == 33) = false := beq_eq_false_iff_ne.2 (by omega)
        have HZ : Hid (lend xs = (0, [], 0, 43)) := by show _ = _; rw [HLE.out, if_neg h0]; unfold lerr; rw [if_neg (by omega)]
        clear HLE
        go_wp2_with fail
        exact bodyPost_ret (results_four rfl _ _ _) rfl ⟨_, by rw [HZ.out]; rfl, by rw [HZ.out]; exact World.ownsRow_nil _ _ _ _, HB1.out⟩
end
end Go.Proofs.YtidglddjinfncabDoor

import Derived.Test.YtbbalhfjgpaabaaGreatDoorJe
import Derived.Test.YtbbalhfjgpaabaaGreatDoorJj
import Derived.Test.YtbbalhfjgpaabaaGreatDoorJc
namespace Go.Proofs.YtbbalhfjgpaabaaGreatDoor
section
open Go.RowKit Go
set_option maxRecDepth 1000000 in
set_option maxHeartbeats 1000000 in
theorem eqF_any {w : World} {v u : Value} {xs : List Fd} (hv : FSl w v xs) (hu : FSl w u xs) :
    Calls Tryz.prog 118 #[v, u] w fun e w' => e = .returned (.bool true) ∧ Below w.heap.size w w' := by
  have hmax := hv.max
  obtain ⟨⟨av, cv, rfl, _, hg⟩, _⟩ := hv
  obtain ⟨⟨au, cu, rfl, _, hf⟩, _⟩ := hu
  have HG := hide hg
  have HF := hide hf
  have HI := hide infoFd
  have HA : Hid (∀ w, (isAgg 104).run Tryz.prog w = .ok true w) := aggFd
  have HEQ : Hid (∀ (w : World) (x : Fd), (Op.equalIn 10000 104 (.agg (fdc x)) (.agg (fdc x))).run Tryz.prog w = .ok true w) := eqfd
  clear hf hg
  go_enter Tryz.func118, Tryz.ntmps118
  go_wp2_with fail
  go_loopw [5] (fun ii wx => ∃ i : Nat, i ≤ xs.length ∧ ii = .int .i64 (i : Nat) ∧ Hid (Below w.heap.size w wx)) (fun ii _ => xs.length - (intOf ii).toNat)
  case atStart => exact ⟨0, by omega, rfl, Below.refl _ _⟩
  case round =>
    obtain ⟨i, hi, rfl, HBw⟩ := hrel
    by_cases hlt : i < xs.length
    · as_aux_lemma =>
      have g1 : (i : Int) < (xs.length : Int) := by omega
      obtain ⟨x, hx⟩ : ∃ x, xs[i]? = some x := ⟨xs[i], List.getElem?_eq_getElem hlt⟩
      obtain ⟨b, off, rfl, hcc⟩ := HF.out.resolve_left (fun h => by rw [h] at hlt; simp at hlt)
      obtain ⟨b2, off2, rfl, hcd⟩ := HG.out.resolve_left (fun h => by rw [h] at hlt; simp at hlt)
      have HQ1 : Hid (∀ w', (∃ t : Ext wr, w' = t.w') → ∀ j y, (fdc x)[j]? = some y → w'.cell? ⟨b2, off2 + i * 5 + j, none⟩ = some y) := fun w' ⟨t, e⟩ j y hy => by
        rw [e]
        obtain ⟨c, ⟨rfl, _⟩, hcell⟩ := hcd i x hx
        exact keep_below t.h _ _ (keep_below HBw.out _ _ (hcell j y hy))
      have HQ2 : Hid (∀ w', (∃ t : Ext wr, w' = t.w') → ∀ j y, (fdc x)[j]? = some y → w'.cell? ⟨b, off + i * 5 + j, none⟩ = some y) := fun w' ⟨t, e⟩ j y hy => by
        rw [e]
        obtain ⟨c, ⟨rfl, _⟩, hcell⟩ := hcc i x hx
        exact keep_below t.h _ _ (keep_below HBw.out _ _ (hcell j y hy))
      clear hcc hcd hx
      go_wp2_with fail
      refine region_ext (by kernel_rfl) (by kernel_rfl) ?_
      repeat (
        with_reducible refine wpQuiet_step (fun K hK => ?_)
        first
          | (refine qstep_ex11 rfl (.agg (fdc x)) (fun w' hw' => exec_aggAt HI.out HA.out rfl (g := b2) (off := off2 + i * 5) rfl rfl (HQ1.out w' hw')) (hK _ ?_); clear hK K)
          | (refine qstep_ex11 rfl (.agg (fdc x)) (fun w' hw' => exec_aggAt HI.out HA.out rfl (g := b) (off := off + i * 5) rfl rfl (HQ2.out w' hw')) (hK _ ?_); clear hK K)
          | (refine qstep_ex11 rfl (.bool false) (fun w' hw' => exec_neG eqgF rfl (A := fdc x) rfl rfl (HEQ.out w' x)) (hK _ ?_); clear hK K)
          | (go_simp
             with_reducible refine hK _ ?_
             clear hK K))
      refine wpQuiet_nil ?_
      rintro _ ⟨tq, rfl⟩
      have HB2 : Hid (Below w.heap.size w tq.w') := HBw.out.trans (tq.h.mono HBw.out.size)
      clear HQ1 HQ2
      go_wp2_with fail
      go_roundw
      case rel => exact ⟨i + 1, by omega, by go_num, HB2⟩
      case measure => simp [intOf]; omega
    · have g1 : ¬ (i : Int) < (xs.length : Int) := by omega
      go_wp2_with fail
      go_ret
      exact ⟨rfl, HBw.out⟩
set_option maxRecDepth 1000000 in
set_option maxHeartbeats 1000000 in
theorem eqC_any {w : World} {v u : Value} {xs : List Cz} (hv : CSl w v xs) (hu : CSl w u xs) :
    Calls Tryz.prog 119 #[v, u] w fun e w' => e = .returned (.bool true) ∧ Below w.heap.size w w' := by
  have hmax := hv.max
  obtain ⟨⟨av, cv, rfl, _, hg⟩, _⟩ := hv
  obtain ⟨⟨au, cu, rfl, _, hf⟩, _⟩ := hu
  have HG := hide hg
  have HF := hide hf
  have HI := hide infoCz
  have HA : Hid (∀ w, (isAgg 114).run Tryz.prog w = .ok true w) := aggCz
  have HEQ : Hid (∀ (w : World) (x : Cz), (Op.equalIn 10000 114 (.agg (czc x)) (.agg (czc x))).run Tryz.prog w = .ok true w) := eqcz
  clear hf hg
  go_enter Tryz.func119, Tryz.ntmps119
  go_wp2_with fail
  go_loopw [5] (fun ii wx => ∃ i : Nat, i ≤ xs.length ∧ ii = .int .i64 (i : Nat) ∧ Hid (Below w.heap.size w wx)) (fun ii _ => xs.length - (intOf ii).toNat)
  case atStart => exact ⟨0, by omega, rfl, Below.refl _ _⟩
  case round =>
    obtain ⟨i, hi, rfl, HBw⟩ := hrel
    by_cases hlt : i < xs.length
    · as_aux_lemma =>
      have g1 : (i : Int) < (xs.length : Int) := by omega
      obtain ⟨x, hx⟩ : ∃ x, xs[i]? = some x := ⟨xs[i], List.getElem?_eq_getElem hlt⟩
      obtain ⟨b, off, rfl, hcc⟩ := HF.out.resolve_left (fun h => by rw [h] at hlt; simp at hlt)
      obtain ⟨b2, off2, rfl, hcd⟩ := HG.out.resolve_left (fun h => by rw [h] at hlt; simp at hlt)
      have HQ1 : Hid (∀ w', (∃ t : Ext wr, w' = t.w') → ∀ j y, (czc x)[j]? = some y → w'.cell? ⟨b2, off2 + i * 2 + j, none⟩ = some y) := fun w' ⟨t, e⟩ j y hy => by
        rw [e]
        obtain ⟨c, ⟨rfl, _⟩, hcell⟩ := hcd i x hx
        exact keep_below t.h _ _ (keep_below HBw.out _ _ (hcell j y hy))
      have HQ2 : Hid (∀ w', (∃ t : Ext wr, w' = t.w') → ∀ j y, (czc x)[j]? = some y → w'.cell? ⟨b, off + i * 2 + j, none⟩ = some y) := fun w' ⟨t, e⟩ j y hy => by
        rw [e]
        obtain ⟨c, ⟨rfl, _⟩, hcell⟩ := hcc i x hx
        exact keep_below t.h _ _ (keep_below HBw.out _ _ (hcell j y hy))
      clear hcc hcd hx
      go_wp2_with fail
      refine region_ext (by kernel_rfl) (by kernel_rfl) ?_
      repeat (
        with_reducible refine wpQuiet_step (fun K hK => ?_)
        first
          | (refine qstep_ex11 rfl (.agg (czc x)) (fun w' hw' => exec_aggAt HI.out HA.out rfl (g := b2) (off := off2 + i * 2) rfl rfl (HQ1.out w' hw')) (hK _ ?_); clear hK K)
          | (refine qstep_ex11 rfl (.agg (czc x)) (fun w' hw' => exec_aggAt HI.out HA.out rfl (g := b) (off := off + i * 2) rfl rfl (HQ2.out w' hw')) (hK _ ?_); clear hK K)
          | (refine qstep_ex11 rfl (.bool false) (fun w' hw' => exec_neG eqgC rfl (A := czc x) rfl rfl (HEQ.out w' x)) (hK _ ?_); clear hK K)
          | (go_simp
             with_reducible refine hK _ ?_
             clear hK K))
      refine wpQuiet_nil ?_
      rintro _ ⟨tq, rfl⟩
      have HB2 : Hid (Below w.heap.size w tq.w') := HBw.out.trans (tq.h.mono HBw.out.size)
      clear HQ1 HQ2
      go_wp2_with fail
      go_roundw
      case rel => exact ⟨i + 1, by omega, by go_num, HB2⟩
      case measure => simp [intOf]; omega
    · have g1 : ¬ (i : Int) < (xs.length : Int) := by omega
      go_wp2_with fail
      go_ret
      exact ⟨rfl, HBw.out⟩
theorem eqS_same {w : World} {v u : Value} {ks : List ByteArray} (hv : SSl w v ks) (hu : SSl w u ks) : Calls Tryz.prog 28 #[v, u] w fun e w' => e = .returned (.bool true) ∧ Below w.heap.size w w' := by
  refine (eqStrings_any hv hu).mono ?_
  rintro e w' ⟨rfl, hb⟩
  exact ⟨by simp, hb⟩
set_option maxRecDepth 1000000 in
set_option maxHeartbeats 2000000 in
theorem eqT_any {w : World} {t : Tp} (c cu : Array Value) (h : Tpi w t c) (hu : Tpi w t cu) : Calls Tryz.prog 67 #[.agg c, .agg cu] w fun e w' => e = .returned (.bool true) ∧ Below w.heap.size w w' := by
  obtain ⟨⟨vf, vc, vw, rfl, hF, hC, hW⟩, _⟩ := h
  obtain ⟨⟨uf, uc, uw, rfl, gF, gC, gW⟩, _⟩ := hu
  have HF := hide hF
  have HC := hide hC
  have HW := hide hW
  have HUF := hide gF
  have HUC := hide gC
  have HUW := hide gW
  obtain ⟨⟨af, cf, rfl, _, _⟩, _⟩ := hF
  obtain ⟨⟨ac, cc, rfl, _, _⟩, _⟩ := hC
  obtain ⟨⟨aw, cw, rfl, _, _⟩, _, _⟩ := hW
  obtain ⟨⟨bf, df, rfl, _, _⟩, _⟩ := gF
  obtain ⟨⟨bc, dc, rfl, _, _⟩, _⟩ := gC
  obtain ⟨⟨bw, dw, rfl, _, _⟩, _, _⟩ := gW
  unfold tpc
  obtain ⟨W, hW2⟩ : ∃ W, W = (w.alloc (.cells #[.string t.n, .int .i64 t.k, .int .i64 t.lo, .int .i64 t.hi, .string t.r.n, .bool t.r.z, .slice af t.fs.length cf, .slice ac t.cs.length cc, .slice aw t.ws.length cw] 69)).alloc (.cells #[.string t.n, .int .i64 t.k, .int .i64 t.lo, .int .i64 t.hi, .string t.r.n, .bool t.r.z, .slice bf t.fs.length df, .slice bc t.cs.length dc, .slice bw t.ws.length dw] 69) := ⟨_, rfl⟩
  have z1 : (w.alloc (.cells #[.string t.n, .int .i64 t.k, .int .i64 t.lo, .int .i64 t.hi, .string t.r.n, .bool t.r.z, .slice af t.fs.length cf, .slice ac t.cs.length cc, .slice aw t.ws.length cw] 69)).heap.size = w.heap.size + 1 := by simp
  have HA : Hid (W.heap[w.heap.size]? = some (.cells #[.string t.n, .int .i64 t.k, .int .i64 t.lo, .int .i64 t.hi, .string t.r.n, .bool t.r.z, .slice af t.fs.length cf, .slice ac t.cs.length cc, .slice aw t.ws.length cw] 69 (0, 0))) := by rw [hW2]; exact blk_alloc _ (heap_alloc_new w _)
  have HU : Hid (W.heap[w.heap.size + 1]? = some (.cells #[.string t.n, .int .i64 t.k, .int .i64 t.lo, .int .i64 t.hi, .string t.r.n, .bool t.r.z, .slice bf t.fs.length df, .slice bc t.cs.length dc, .slice bw t.ws.length dw] 69 (0, 0))) := by
    have h := heap_alloc_new (w.alloc (.cells #[.string t.n, .int .i64 t.k, .int .i64 t.lo, .int .i64 t.hi, .string t.r.n, .bool t.r.z, .slice af t.fs.length cf, .slice ac t.cs.length cc, .slice aw t.ws.length cw] 69)) (.cells #[.string t.n, .int .i64 t.k, .int .i64 t.lo, .int .i64 t.hi, .string t.r.n, .bool t.r.z, .slice bf t.fs.length df, .slice bc t.cs.length dc, .slice bw t.ws.length dw] 69)
    rw [z1] at h
    rw [hW2]
    exact h
  have HB : Hid (Below w.heap.size w W) := by rw [hW2]; exact (below_alloc4 w _).trans ((below_alloc4 _ _).mono (by rw [z1]; omega))
  have HIR := hide infoRf
  have HAR : Hid (∀ w, (isAgg 65).run Tryz.prog w = .ok true w) := aggRf
  have HR1 : Hid (∀ j u, (#[.string t.r.n, .bool t.r.z] : Array Value)[j]? = some u → W.cell? ⟨w.heap.size, 4 + j, none⟩ = some u) := sub_cell HA.out (fun j u hj => by
    rcases j with _ | _ | j
    · exact hj
    · exact hj
    · simp at hj)
  have HR2 : Hid (∀ j u, (#[.string t.r.n, .bool t.r.z] : Array Value)[j]? = some u → W.cell? ⟨w.heap.size + 1, 4 + j, none⟩ = some u) := sub_cell HU.out (fun j u hj => by
    rcases j with _ | _ | j
    · exact hj
    · exact hj
    · simp at hj)
  have HEQ : Hid ((decide (t.r.n = t.r.n) && (t.r.z == t.r.z)) = true) := by show _ = _; cases t.r.z <;> simp
  go_enter Tryz.func67, Tryz.ntmps67
  go_upto_region 1 with fail
  (try simp only [Act.put]); (try simp only [LsA, Ls0, LsS])
  rw [← hW2]
  clear hW2 z1
  have a0 : W.cell? ⟨w.heap.size, 0, none⟩ = some (.string t.n) := blk_cell (j := 0) HA.out rfl
  have a1 : W.cell? ⟨w.heap.size, 1, none⟩ = some (.int .i64 t.k) := blk_cell (j := 1) HA.out rfl
  have a2 : W.cell? ⟨w.heap.size, 2, none⟩ = some (.int .i64 t.lo) := blk_cell (j := 2) HA.out rfl
  have a3 : W.cell? ⟨w.heap.size, 3, none⟩ = some (.int .i64 t.hi) := blk_cell (j := 3) HA.out rfl
  have a6 : W.cell? ⟨w.heap.size, 6, none⟩ = some (.slice af t.fs.length cf) := blk_cell (j := 6) HA.out rfl
  have u0 : W.cell? ⟨w.heap.size + 1, 0, none⟩ = some (.string t.n) := blk_cell (j := 0) HU.out rfl
  have u1 : W.cell? ⟨w.heap.size + 1, 1, none⟩ = some (.int .i64 t.k) := blk_cell (j := 1) HU.out rfl
  have u2 : W.cell? ⟨w.heap.size + 1, 2, none⟩ = some (.int .i64 t.lo) := blk_cell (j := 2) HU.out rfl
  have u3 : W.cell? ⟨w.heap.size + 1, 3, none⟩ = some (.int .i64 t.hi) := blk_cell (j := 3) HU.out rfl
  have u6 : W.cell? ⟨w.heap.size + 1, 6, none⟩ = some (.slice bf t.fs.length df) := blk_cell (j := 6) HU.out rfl
  have e0 := str_yes t.n
  have e1 : (t.k == t.k) = true := beq_self_eq_true _
  have e2 : (t.lo == t.lo) = true := beq_self_eq_true _
  have e3 : (t.hi == t.hi) = true := beq_self_eq_true _
  go_upto_region 2 with (first
    | (refine wpList_aggAt rfl rfl HIR.out HAR.out w.heap.size 4 #[.string t.r.n, .bool t.r.z] rfl rfl HR1.out ?_)
    | (refine wpList_aggAt rfl rfl HIR.out HAR.out (w.heap.size + 1) 4 #[.string t.r.n, .bool t.r.z] rfl rfl HR2.out ?_)
    | (with_reducible refine wpList_eqrf rfl rfl t.r.n t.r.n t.r.z t.r.z true rfl rfl HEQ.out ?_))
  clear a0 a1 a2 a3 u0 u1 u2 u3 e0 e1 e2 e3 HR1 HR2 HEQ HIR HAR
  go_wp2_with fail
  refine (eqF_any (HF.out.mv (keep_below HB.out)) (HUF.out.mv (keep_below HB.out))).mono ?_
  rintro e w2 ⟨rfl, hb2⟩
  have HA2 := hide ((hb2.block _ (blk_lt HA.out)).trans HA.out)
  have HU2 := hide ((hb2.block _ (blk_lt HU.out)).trans HU.out)
  have HB2 : Hid (Below w.heap.size w w2) := HB.out.trans (hb2.mono HB.out.size)
  clear hb2 HA HU HB a6 u6
  have a7 : w2.cell? ⟨w.heap.size, 7, none⟩ = some (.slice ac t.cs.length cc) := blk_cell (j := 7) HA2.out rfl
  have u7 : w2.cell? ⟨w.heap.size + 1, 7, none⟩ = some (.slice bc t.cs.length dc) := blk_cell (j := 7) HU2.out rfl
  go_wp2_with fail
  refine (eqC_any (HC.out.mv (keep_below HB2.out)) (HUC.out.mv (keep_below HB2.out))).mono ?_
  rintro e w3 ⟨rfl, hb3⟩
  have HA3 := hide ((hb3.block _ (blk_lt HA2.out)).trans HA2.out)
  have HU3 := hide ((hb3.block _ (blk_lt HU2.out)).trans HU2.out)
  have HB3 : Hid (Below w.heap.size w w3) := HB2.out.trans (hb3.mono HB2.out.size)
  clear hb3 HA2 HU2 HB2 a7 u7
  have a8 : w3.cell? ⟨w.heap.size, 8, none⟩ = some (.slice aw t.ws.length cw) := blk_cell (j := 8) HA3.out rfl
  have u8 : w3.cell? ⟨w.heap.size + 1, 8, none⟩ = some (.slice bw t.ws.length dw) := blk_cell (j := 8) HU3.out rfl
  go_wp2_with fail
  refine (eqS_same (HW.out.move (keep_below HB3.out)) (HUW.out.move (keep_below HB3.out))).mono ?_
  rintro e w4 ⟨rfl, hb4⟩
  have HB4 : Hid (Below w.heap.size w w4) := HB3.out.trans (hb4.mono HB3.out.size)
  clear hb4 HA3 HU3 HB3 a8 u8
  go_wp2_with fail
  go_ret
  exact ⟨rfl, HB4.out⟩
end
section
open Go.RowKit Go
set_option maxRecDepth 1000000 in
set_option maxHeartbeats 1000000 in
theorem eqTs_any {w : World} {v u : Value} {ts : List Tp} (hv : TSl w v ts) (hu : TSl w u ts) : Calls Tryz.prog 34 #[v, u] w fun e w' => e = .returned (.bool true) ∧ Below w.heap.size w w' := by
  have hmax := hv.max
  have HV := hide hv
  have HU := hide hu
  obtain ⟨⟨av, cv, rfl, _, _⟩, _⟩ := hv
  obtain ⟨⟨au, cu, rfl, _, _⟩, _⟩ := hu
  have HI := hide infoTp
  have HAG : Hid (∀ w, (isAgg 69).run Tryz.prog w = .ok true w) := aggTp
  go_enter Tryz.func34, Tryz.ntmps34
  go_wp2_with fail
  go_loopw [5] (fun ii wx => ∃ i : Nat, i ≤ ts.length ∧ ii = .int .i64 (i : Nat) ∧ Hid (Below w.heap.size w wx)) (fun ii _ => ts.length - (intOf ii).toNat)
  case atStart => exact ⟨0, by omega, rfl, Below.refl _ _⟩
  case round =>
    obtain ⟨i, hi, rfl, HBw⟩ := hrel
    by_cases hlt : i < ts.length
    · as_aux_lemma =>
      have g1 : (i : Int) < (ts.length : Int) := by omega
      obtain ⟨t, ht⟩ : ∃ t, ts[i]? = some t := ⟨ts[i], List.getElem?_eq_getElem hlt⟩
      obtain ⟨b, off, c, e1, h1, h2, -, -⟩ := tsl_at HV.out ht
      obtain ⟨b2, off2, c2, e2, h3, h4, -, -⟩ := tsl_at HU.out ht
      subst e1
      subst e2
      have HZ1 := hide h1.size9
      have HZ2 := hide h3.size9
      have HT1 : Hid (∀ wy, Below w.heap.size w wy → Tpi wy t c) := fun wy hy => h1.move (keep_below hy)
      have HT2 : Hid (∀ wy, Below w.heap.size w wy → Tpi wy t c2) := fun wy hy => h3.move (keep_below hy)
      have HC1 : Hid (∀ wy, Below w.heap.size w wy → ∀ j u, c[j]? = some u → wy.cell? ⟨b, off + i * 9 + j, none⟩ = some u) := fun wy hy j u hj => keep_below hy _ _ (h2 j u hj)
      have HC2 : Hid (∀ wy, Below w.heap.size w wy → ∀ j u, c2[j]? = some u → wy.cell? ⟨b2, off2 + i * 9 + j, none⟩ = some u) := fun wy hy j u hj => keep_below hy _ _ (h4 j u hj)
      clear h1 h2 h3 h4 ht
      go_wp2_with fail
      refine heldStart (S := fun wy => Below w.heap.size w wy) (by kernel_rfl) ?_
      have hS : Below w.heap.size w wr.drew := Below.drew HBw.out
      clear HBw
      generalize wr.drew = W6 at *
      refine heldTake 0 _ rfl (by kernel_rfl) (by kernel_rfl) (by kernel_rfl) (fun _ _ _ h => h) rfl hS (fun wy hy => by first | (go_simp; done) | (go_simp; rfl) | rfl) ?_
      (try simp only [Act.put]); (try simp only [LsA, Ls0, LsS])
      refine heldTake 1 _ rfl (by kernel_rfl) (by kernel_rfl) (by kernel_rfl) (fun _ _ _ h => h) rfl hS (fun wy hy => by first | (go_simp; done) | (go_simp; rfl) | rfl) ?_
      (try simp only [Act.put]); (try simp only [LsA, Ls0, LsS])
      refine heldTake 2 _ rfl (by kernel_rfl) (by kernel_rfl) (by kernel_rfl) (fun _ _ _ h => h) rfl hS (fun wy hy => by first | (go_simp; done) | (go_simp; rfl) | rfl) ?_
      (try simp only [Act.put]); (try simp only [LsA, Ls0, LsS])
      refine heldTake 4 _ rfl (by kernel_rfl) (by kernel_rfl) (by kernel_rfl) (fun _ _ _ h => h) rfl hS (fun wy hy => by first | (go_simp; done) | (go_simp; rfl) | rfl) ?_
      (try simp only [Act.put]); (try simp only [LsA, Ls0, LsS])
      refine heldTake 5 _ rfl (by kernel_rfl) (by kernel_rfl) (by kernel_rfl) (fun _ _ _ h => h) rfl hS (fun wy hy => by first | (go_simp; done) | (go_simp; rfl) | rfl) ?_
      (try simp only [Act.put]); (try simp only [LsA, Ls0, LsS])
      refine heldTake 6 _ rfl (by kernel_rfl) (by kernel_rfl) (by kernel_rfl) (fun _ _ _ h => h) rfl hS (fun wy hy => by first | (go_simp; done) | (go_simp; rfl) | rfl) ?_
      (try simp only [Act.put]); (try simp only [LsA, Ls0, LsS])
      refine heldTake 3 _ rfl (by kernel_rfl) (by kernel_rfl) (by kernel_rfl) (fun _ _ _ h => h) rfl hS (fun wy hy => exec_aggAt (g := b) (off := off + i * 9) (cs := c) HI.out HAG.out rfl rfl HZ1.out (HC1.out wy hy)) ?_
      (try simp only [Act.put]); (try simp only [LsA, Ls0, LsS])
      refine heldTake 7 _ rfl (by kernel_rfl) (by kernel_rfl) (by kernel_rfl) (fun _ _ _ h => h) rfl hS (fun wy hy => exec_aggAt (g := b2) (off := off2 + i * 9) (cs := c2) HI.out HAG.out rfl rfl HZ2.out (HC2.out wy hy)) ?_
      (try simp only [Act.put]); (try simp only [LsA, Ls0, LsS])
      refine heldStep 8 rfl (by kernel_rfl) (fun K1 hK1 => ?_)
      go_simp
      refine (eqT_any c c2 (HT1.out _ hS) (HT2.out _ hS)).mono ?_
      rintro e v1 ⟨rfl, hb1⟩
      have hS1 : Below w.heap.size w v1 := hS.trans (hb1.mono hS.size)
      refine (Hid.out hK1) _ _ hS1 (fun hS2 => ?_)
      clear hK1 K1 hS
      have hS := hS2
      clear hS2
      (try simp only [Act.put]); (try simp only [LsA, Ls0, LsS])
      clear hb1 hS1
      refine heldTake 9 _ rfl (by kernel_rfl) (by kernel_rfl) (by kernel_rfl) (fun _ _ _ h => h) rfl hS (fun wy hy => by first | (go_simp; done) | (go_simp; rfl) | rfl) ?_
      (try simp only [Act.put]); (try simp only [LsA, Ls0, LsS])
      refine heldDone (by kernel_rfl) ?_
      have HB2 := hide hS
      clear hS
      go_wp2_with fail
      go_roundw
      case rel => exact ⟨i + 1, by omega, by go_num, HB2⟩
      case measure => simp [intOf]; omega
    · have g1 : ¬ (i : Int) < (ts.length : Int) := by omega
      go_wp2_with fail
      go_ret
      exact ⟨rfl, HBw.out⟩
theorem flr_sz {l : List Tp} (hl : ∀ t ∈ l, t.r.n.size ≤ 140737488351232) : ∀ (k : Nat) (s : ByteArray) (z : Bool), s.size ≤ 140737488351232 → (fwr l k s z).1.size ≤ 140737488351232
  | 0, _, _, _ => by show (ByteArray.mk #[]).size ≤ _; decide
  | k + 1, s, z, h => by
    cases hp : plc l s with
    | none => rw [fwr_none hp]; exact h
    | some i =>
      obtain ⟨t, ht, _⟩ := plc_lt hp
      by_cases hk : t.k = 1
      · rw [fwr_on hp ht hk]
        exact flr_sz hl k _ _ (hl t (List.mem_of_getElem? ht))
      · rw [fwr_end hp ht hk]
        exact h
end
end Go.Proofs.YtbbalhfjgpaabaaGreatDoor

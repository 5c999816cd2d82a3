import Derived.Test.YtagkogpjckjobaaGreatDoorJl
import Derived.Test.YtagkogpjckjobaaGreatDoorJd
import Derived.Test.YtagkogpjckjobaaGreatDoorJa
import Derived.Test.YtagkogpjckjobaaGreatDoorJc
import Derived.Test.YtagkogpjckjobaaGreatDoorJb
namespace Go.Proofs.YtagkogpjckjobaaGreatDoor
section
open Go.RowKit Go
/-! ### LendFields -/
/-! ### LendCases -/
end
section
open Go.RowKit Go
/-! ### Fields and cases compared -/
theorem eqfd (w : World) (f : Fd) : (Op.equalIn 10000 80 (.agg (fdc f)) (.agg (fdc f))).run Tryz.prog w = .ok true w := by
  have u4 := Tryz.underlying4
  have u9 := Tryz.underlying9
  have a4 := Tryz.isAgg4
  have a9 := Tryz.isAgg9
  have z4 := Tryz.sizeOf4
  have z9 := Tryz.sizeOf9
  have hS : Tryz.prog.underlying 80 = some (.struct (Tryz.prog.fieldsOf 80)) := by kernel_rfl
  have hp : Tryz.prog.stoodInHeld 80 = false := by kernel_rfl
  have hS2 : Tryz.prog.underlying 24 = some (.struct (Tryz.prog.fieldsOf 24)) := by kernel_rfl
  have hp2 : Tryz.prog.stoodInHeld 24 = false := by kernel_rfl
  have e1 := str_yes f.n
  have e2 := str_yes f.k
  have e3 := str_yes f.r.n
  have hR : ∀ w, (Op.equalIn 9999 24 (.agg #[.string f.r.n, .bool f.r.z]) (.agg #[.string f.r.n, .bool f.r.z])).run Tryz.prog w = .ok true w := fun w => by
    rw [show (9999 : Nat) = 9998 + 1 from rfl, run_equalIn_agg w 9998 24 _ _ hS2 hp2]
    simp only [Program.fieldsOf, Tryz.underlying24]
    go_simp
  unfold fdc
  rw [show (10000 : Nat) = 9999 + 1 from rfl, run_equalIn_agg w 9999 80 _ _ hS hp]
  simp only [Program.fieldsOf, Tryz.underlying80]
  go_simp
theorem eqgF : Tryz.prog.eqGuardType Tryz.prog.depth 80 = false := by kernel_rfl
theorem eqcz (w : World) (c : Cz) : (Op.equalIn 10000 82 (.agg (czc c)) (.agg (czc c))).run Tryz.prog w = .ok true w := by
  have u9 := Tryz.underlying9
  have a9 := Tryz.isAgg9
  have z9 := Tryz.sizeOf9
  have hS : Tryz.prog.underlying 82 = some (.struct (Tryz.prog.fieldsOf 82)) := by kernel_rfl
  have hp : Tryz.prog.stoodInHeld 82 = false := by kernel_rfl
  have e1 := str_yes c.n
  have e2 := str_yes c.k
  unfold czc
  rw [show (10000 : Nat) = 9999 + 1 from rfl, run_equalIn_agg w 9999 82 _ _ hS hp]
  simp only [Program.fieldsOf, Tryz.underlying82]
  go_simp
theorem eqgC : Tryz.prog.eqGuardType Tryz.prog.depth 82 = false := by kernel_rfl
/-- != of two structs that are alike. -/
theorem exec_neG {T : TypeId} (hg : Tryz.prog.eqGuardType Tryz.prog.depth T = false) {o : Oper} {a : Act} {x y : Operand} {T2 : TypeId} {A : Array Value} {w : World} (ho : o.op = .binOp .neq T x y T2) (hx : a.eval x = .agg A) (hy : a.eval y = .agg A) (he : (Op.equalIn 10000 T (.agg A) (.agg A)).run Tryz.prog w = .ok true w) : (execOp a.eval o).run Tryz.prog w = .ok (.value (.bool false)) w := by
  unfold execOp
  simp only [ho, Sem.run_bind, hx, hy, run_eqGuard_agg w _ T x y A A hg, run_neq_struct, he, Result.andThen_ok]
  rfl
theorem qstep_ex11 {C : World → Prop} {ops : Array Oper} {o : Oper} {a : Act} {K : Act → Prop} (hgd : Region.wanted o (yielded ops a.tmps) = true) (v : Value) (hx : ∀ w, C w → (execOp a.eval o).run Tryz.prog w = .ok (.value v) w)
    (h : K (a.put o.dst v)) : if Region.wanted o (yielded ops a.tmps) = true then o.quiet Tryz.prog a C K else K (a.put o.dst undef) := by
  rw [if_pos hgd]
  refine ⟨v, fun w hC => ?_, h⟩
  unfold Oper.quietAt
  rw [hx w hC]
  exact ⟨rfl, rfl⟩
/-! ### BackFields -/
/-! ### BackCases -/
end
section
open Go.RowKit Go

end
section
open Go.RowKit Go
/-- A base and how many bits its digits have. -/
def bw (base w : Nat) : Prop := (base = 1 ∧ w = 4) ∨ (base = 2 ∧ w = 5)
end
section
open Go.RowKit Go
theorem nstr_eq {xs : List Nat} {S : ByteArray} (h : ∀ x ∈ xs, x < 256) : ((nstr xs).toList == S.toList) = decide (xs = sl S) := by
  by_cases e : xs = sl S
  · rw [e, nstr_sl]
    simp
  · rw [decide_eq_false e]
    refine beq_eq_false_iff_ne.2 fun h2 => e (nstr_inj h (sl_byte S) ?_)
    rw [nstr_sl]
    exact h2
end
section
open Go.RowKit Go
theorem nat_ne {a b : Nat} : ((a : Int) != (b : Int)) = decide (a ≠ b) := by
  rw [Bool.eq_iff_iff]
  simp
  omega
end
section
open Go.RowKit Go
theorem str_bne (s t : ByteArray) : (s.toList != t.toList) = !decide (s = t) := by
  have h := nstr_eq (S := t) (sl_byte s)
  rw [nstr_sl] at h
  unfold bne
  rw [h]
  congr 1
  by_cases e : s = t
  · rw [e]; simp
  · have e2 : sl s ≠ sl t := fun h2 => e (by rw [← nstr_sl s, h2, nstr_sl])
    simp [e, e2]
set_option maxRecDepth 1000000 in
set_option maxHeartbeats 400000 in
theorem eqStrings_any {w : World} {v u : Value} {ks ls : List ByteArray} (hv : SSl w v ks) (hu : SSl w u ls) :
    Calls Tryz.prog 11 #[v, u] w fun e w' => e = .returned (.bool (decide (ks = ls))) ∧ Below w.heap.size w w' := by
  generalize hR : decide (ks = ls) = R
  have HR := hide hR
  clear hR
  obtain ⟨⟨av, cv, rfl, _, hf⟩, hkm, _⟩ := hv
  obtain ⟨⟨au, cu, rfl, _, hg⟩, hlm, _⟩ := hu
  have HF := hide hf
  have HG := hide hg
  clear hf hg
  by_cases hl : ks.length = ls.length
  · have g0 : ((ks.length : Int) != (ls.length : Int)) = false := by rw [nat_ne]; simp [hl]
    have HL := hide hl
    clear hl
    go_enter Tryz.func11, Tryz.ntmps11
    go_wp2_with fail
    go_loopw [5] (fun ii wx => ∃ i : Nat, i ≤ ks.length ∧ ii = .int .i64 (i : Nat) ∧ Hid (∀ j, j < i → ks[j]? = ls[j]?) ∧ Hid (Below w.heap.size w wx)) (fun ii _ => ks.length - (intOf ii).toNat)
    case atStart => exact ⟨0, by omega, rfl, fun j hj => absurd hj (by omega), Below.refl _ _⟩
    case round =>
      obtain ⟨i, hi, rfl, HI, HBw⟩ := hrel
      by_cases hlt : i < ks.length
      · have g1 : (i : Int) < (ks.length : Int) := by omega
        have hlt2 : i < ls.length := by rw [← HL.out]; exact hlt
        have g2 : (i : Int) < (ls.length : Int) := by omega
        obtain ⟨s, hs⟩ : ∃ s, ks[i]? = some s := ⟨ks[i], List.getElem?_eq_getElem hlt⟩
        obtain ⟨t, ht⟩ : ∃ s, ls[i]? = some s := ⟨ls[i], List.getElem?_eq_getElem hlt2⟩
        obtain ⟨b, off, rfl, hcc⟩ := HF.out.resolve_left (fun h => by rw [h] at hlt; simp at hlt)
        obtain ⟨b2, off2, rfl, hcd⟩ := HG.out.resolve_left (fun h => by rw [h] at hlt2; simp at hlt2)
        have c1 := keep_below HBw.out _ _ (hcc i s hs)
        have c2 := keep_below HBw.out _ _ (hcd i t ht)
        clear hcc hcd HF HG
        by_cases he : s = t
        · as_aux_lemma =>
          have hne : (s.toList == t.toList) = true := by rw [he]; simp
          have HI2 : Hid (∀ j, j < i + 1 → ks[j]? = ls[j]?) := fun j hj => by
            by_cases hji : j = i
            · rw [hji, hs, ht, he]
            · exact HI.out j (by omega)
          clear he hs ht HI
          go_wp2_with fail
          go_region
          go_wp2_with fail
          have HB2 : Hid (Below w.heap.size w wr.drew) := HBw.out.drew
          go_roundw
          case rel => exact ⟨i + 1, by omega, by go_num, HI2, HB2⟩
          case measure => simp [intOf]; omega
        · as_aux_lemma =>
          have hne : (s.toList == t.toList) = false := by have h := str_bne s t; simp [he] at h; exact beq_eq_false_iff_ne.2 h
          have HN : Hid (ks ≠ ls) := fun h => by
            rw [h, ht] at hs
            exact he (Option.some.inj hs).symm
          clear he hs ht HI
          go_wp2_with fail
          go_region
          go_wp2_with fail
          go_ret
          exact ⟨by rw [← HR.out, decide_eq_false HN.out]; rfl, HBw.out.drew⟩
      · as_aux_lemma =>
        have g1 : ¬ (i : Int) < (ks.length : Int) := by omega
        have HN : Hid (ks = ls) := List.ext_getElem? fun j => by
          by_cases hj : j < i
          · exact HI.out j hj
          · rw [List.getElem?_eq_none (by omega), List.getElem?_eq_none (by rw [← HL.out]; omega)]
        go_wp2_with fail
        go_ret
        exact ⟨by rw [← HR.out, decide_eq_true HN.out]; rfl, HBw.out⟩
  · as_aux_lemma =>
    have g0 : ((ks.length : Int) != (ls.length : Int)) = true := by rw [nat_ne]; simp [hl]
    have HN : Hid (ks ≠ ls) := fun h => hl (by rw [h])
    clear hl HF HG
    go_enter Tryz.func11, Tryz.ntmps11
    go_wp2_with fail
    go_ret
    exact ⟨by rw [← HR.out, decide_eq_false HN.out]; rfl, Below.refl _ _⟩
end
section
open Go.RowKit Go
/-! ### EqFields -/
set_option maxRecDepth 1000000 in
set_option maxHeartbeats 1000000 in
theorem eqF_any {w : World} {v u : Value} {xs : List Fd} (hv : FSl w v xs) (hu : FSl w u xs) :
    Calls Tryz.prog 40 #[v, u] w fun e w' => e = .returned (.bool true) ∧ Below w.heap.size w w' := by
  have hmax := hv.max
  obtain ⟨⟨av, cv, rfl, _, hg⟩, _⟩ := hv
  obtain ⟨⟨au, cu, rfl, _, hf⟩, _⟩ := hu
  have HG := hide hg
  have HF := hide hf
  have HI := hide infoFd
  have HA : Hid (∀ w, (isAgg 80).run Tryz.prog w = .ok true w) := aggFd
  have HEQ : Hid (∀ (w : World) (x : Fd), (Op.equalIn 10000 80 (.agg (fdc x)) (.agg (fdc x))).run Tryz.prog w = .ok true w) := eqfd
  clear hf hg
  go_enter Tryz.func40, Tryz.ntmps40
  go_wp2_with fail
  go_loopw [5] (fun ii wx => ∃ i : Nat, i ≤ xs.length ∧ ii = .int .i64 (i : Nat) ∧ Hid (Below w.heap.size w wx)) (fun ii _ => xs.length - (intOf ii).toNat)
  case atStart => exact ⟨0, by omega, rfl, Below.refl _ _⟩
  case round =>
    obtain ⟨i, hi, rfl, HBw⟩ := hrel
    by_cases hlt : i < xs.length
    · as_aux_lemma =>
      have g1 : (i : Int) < (xs.length : Int) := by omega
      obtain ⟨x, hx⟩ : ∃ x, xs[i]? = some x := ⟨xs[i], List.getElem?_eq_getElem hlt⟩
      obtain ⟨b, off, rfl, hcc⟩ := HF.out.resolve_left (fun h => by rw [h] at hlt; simp at hlt)
      obtain ⟨b2, off2, rfl, hcd⟩ := HG.out.resolve_left (fun h => by rw [h] at hlt; simp at hlt)
      have HQ1 : Hid (∀ w', (∃ t : Ext wr, w' = t.w') → ∀ j y, (fdc x)[j]? = some y → w'.cell? ⟨b2, off2 + i * 5 + j, none⟩ = some y) := fun w' ⟨t, e⟩ j y hy => by
        rw [e]
        obtain ⟨c, ⟨rfl, _⟩, hcell⟩ := hcd i x hx
        exact keep_below t.h _ _ (keep_below HBw.out _ _ (hcell j y hy))
      have HQ2 : Hid (∀ w', (∃ t : Ext wr, w' = t.w') → ∀ j y, (fdc x)[j]? = some y → w'.cell? ⟨b, off + i * 5 + j, none⟩ = some y) := fun w' ⟨t, e⟩ j y hy => by
        rw [e]
        obtain ⟨c, ⟨rfl, _⟩, hcell⟩ := hcc i x hx
        exact keep_below t.h _ _ (keep_below HBw.out _ _ (hcell j y hy))
      clear hcc hcd hx
      go_wp2_with fail
      refine region_ext (by kernel_rfl) (by kernel_rfl) ?_
      repeat (
        with_reducible refine wpQuiet_step (fun K hK => ?_)
        first
          | (refine qstep_ex11 rfl (.agg (fdc x)) (fun w' hw' => exec_aggAt HI.out HA.out rfl (g := b2) (off := off2 + i * 5) rfl rfl (HQ1.out w' hw')) (hK _ ?_); clear hK K)
          | (refine qstep_ex11 rfl (.agg (fdc x)) (fun w' hw' => exec_aggAt HI.out HA.out rfl (g := b) (off := off + i * 5) rfl rfl (HQ2.out w' hw')) (hK _ ?_); clear hK K)
          | (refine qstep_ex11 rfl (.bool false) (fun w' hw' => exec_neG eqgF rfl (A := fdc x) rfl rfl (HEQ.out w' x)) (hK _ ?_); clear hK K)
          | (go_simp
             with_reducible refine hK _ ?_
             clear hK K))
      refine wpQuiet_nil ?_
      rintro _ ⟨tq, rfl⟩
      have HB2 : Hid (Below w.heap.size w tq.w') := HBw.out.trans (tq.h.mono HBw.out.size)
      clear HQ1 HQ2
      go_wp2_with fail
      go_roundw
      case rel => exact ⟨i + 1, by omega, by go_num, HB2⟩
      case measure => simp [intOf]; omega
    · have g1 : ¬ (i : Int) < (xs.length : Int) := by omega
      go_wp2_with fail
      go_ret
      exact ⟨rfl, HBw.out⟩
/-! ### EqCases -/
set_option maxRecDepth 1000000 in
set_option maxHeartbeats 1000000 in
theorem eqC_any {w : World} {v u : Value} {xs : List Cz} (hv : CSl w v xs) (hu : CSl w u xs) :
    Calls Tryz.prog 41 #[v, u] w fun e w' => e = .returned (.bool true) ∧ Below w.heap.size w w' := by
  have hmax := hv.max
  obtain ⟨⟨av, cv, rfl, _, hg⟩, _⟩ := hv
  obtain ⟨⟨au, cu, rfl, _, hf⟩, _⟩ := hu
  have HG := hide hg
  have HF := hide hf
  have HI := hide infoCz
  have HA : Hid (∀ w, (isAgg 82).run Tryz.prog w = .ok true w) := aggCz
  have HEQ : Hid (∀ (w : World) (x : Cz), (Op.equalIn 10000 82 (.agg (czc x)) (.agg (czc x))).run Tryz.prog w = .ok true w) := eqcz
  clear hf hg
  go_enter Tryz.func41, Tryz.ntmps41
  go_wp2_with fail
  go_loopw [5] (fun ii wx => ∃ i : Nat, i ≤ xs.length ∧ ii = .int .i64 (i : Nat) ∧ Hid (Below w.heap.size w wx)) (fun ii _ => xs.length - (intOf ii).toNat)
  case atStart => exact ⟨0, by omega, rfl, Below.refl _ _⟩
  case round =>
    obtain ⟨i, hi, rfl, HBw⟩ := hrel
    by_cases hlt : i < xs.length
    · as_aux_lemma =>
      have g1 : (i : Int) < (xs.length : Int) := by omega
      obtain ⟨x, hx⟩ : ∃ x, xs[i]? = some x := ⟨xs[i], List.getElem?_eq_getElem hlt⟩
      obtain ⟨b, off, rfl, hcc⟩ := HF.out.resolve_left (fun h => by rw [h] at hlt; simp at hlt)
      obtain ⟨b2, off2, rfl, hcd⟩ := HG.out.resolve_left (fun h => by rw [h] at hlt; simp at hlt)
      have HQ1 : Hid (∀ w', (∃ t : Ext wr, w' = t.w') → ∀ j y, (czc x)[j]? = some y → w'.cell? ⟨b2, off2 + i * 2 + j, none⟩ = some y) := fun w' ⟨t, e⟩ j y hy => by
        rw [e]
        obtain ⟨c, ⟨rfl, _⟩, hcell⟩ := hcd i x hx
        exact keep_below t.h _ _ (keep_below HBw.out _ _ (hcell j y hy))
      have HQ2 : Hid (∀ w', (∃ t : Ext wr, w' = t.w') → ∀ j y, (czc x)[j]? = some y → w'.cell? ⟨b, off + i * 2 + j, none⟩ = some y) := fun w' ⟨t, e⟩ j y hy => by
        rw [e]
        obtain ⟨c, ⟨rfl, _⟩, hcell⟩ := hcc i x hx
        exact keep_below t.h _ _ (keep_below HBw.out _ _ (hcell j y hy))
      clear hcc hcd hx
      go_wp2_with fail
      refine region_ext (by kernel_rfl) (by kernel_rfl) ?_
      repeat (
        with_reducible refine wpQuiet_step (fun K hK => ?_)
        first
          | (refine qstep_ex11 rfl (.agg (czc x)) (fun w' hw' => exec_aggAt HI.out HA.out rfl (g := b2) (off := off2 + i * 2) rfl rfl (HQ1.out w' hw')) (hK _ ?_); clear hK K)
          | (refine qstep_ex11 rfl (.agg (czc x)) (fun w' hw' => exec_aggAt HI.out HA.out rfl (g := b) (off := off + i * 2) rfl rfl (HQ2.out w' hw')) (hK _ ?_); clear hK K)
          | (refine qstep_ex11 rfl (.bool false) (fun w' hw' => exec_neG eqgC rfl (A := czc x) rfl rfl (HEQ.out w' x)) (hK _ ?_); clear hK K)
          | (go_simp
             with_reducible refine hK _ ?_
             clear hK K))
      refine wpQuiet_nil ?_
      rintro _ ⟨tq, rfl⟩
      have HB2 : Hid (Below w.heap.size w tq.w') := HBw.out.trans (tq.h.mono HBw.out.size)
      clear HQ1 HQ2
      go_wp2_with fail
      go_roundw
      case rel => exact ⟨i + 1, by omega, by go_num, HB2⟩
      case measure => simp [intOf]; omega
    · have g1 : ¬ (i : Int) < (xs.length : Int) := by omega
      go_wp2_with fail
      go_ret
      exact ⟨rfl, HBw.out⟩
/-- EqStrings of the same texts. -/
theorem eqS_same {w : World} {v u : Value} {ks : List ByteArray} (hv : SSl w v ks) (hu : SSl w u ks) : Calls Tryz.prog 11 #[v, u] w fun e w' => e = .returned (.bool true) ∧ Below w.heap.size w w' := by
  refine (eqStrings_any hv hu).mono ?_
  rintro e w' ⟨rfl, hb⟩
  exact ⟨by simp, hb⟩
/-! ### EqType -/
set_option maxRecDepth 1000000 in
set_option maxHeartbeats 2000000 in
theorem eqT_any {w : World} {t : Tp} (c cu : Array Value) (h : Tpi w t c) (hu : Tpi w t cu) : Calls Tryz.prog 23 #[.agg c, .agg cu] w fun e w' => e = .returned (.bool true) ∧ Below w.heap.size w w' := by
  obtain ⟨⟨vf, vc, vw, rfl, hF, hC, hW⟩, _⟩ := h
  obtain ⟨⟨uf, uc, uw, rfl, gF, gC, gW⟩, _⟩ := hu
  have HF := hide hF
  have HC := hide hC
  have HW := hide hW
  have HUF := hide gF
  have HUC := hide gC
  have HUW := hide gW
  obtain ⟨⟨af, cf, rfl, _, _⟩, _⟩ := hF
  obtain ⟨⟨ac, cc, rfl, _, _⟩, _⟩ := hC
  obtain ⟨⟨aw, cw, rfl, _, _⟩, _, _⟩ := hW
  obtain ⟨⟨bf, df, rfl, _, _⟩, _⟩ := gF
  obtain ⟨⟨bc, dc, rfl, _, _⟩, _⟩ := gC
  obtain ⟨⟨bw, dw, rfl, _, _⟩, _, _⟩ := gW
  unfold tpc
  obtain ⟨W, hW2⟩ : ∃ W, W = (w.alloc (.cells #[.string t.n, .int .i64 t.k, .int .i64 t.lo, .int .i64 t.hi, .string t.r.n, .bool t.r.z, .slice af t.fs.length cf, .slice ac t.cs.length cc, .slice aw t.ws.length cw] 29)).alloc (.cells #[.string t.n, .int .i64 t.k, .int .i64 t.lo, .int .i64 t.hi, .string t.r.n, .bool t.r.z, .slice bf t.fs.length df, .slice bc t.cs.length dc, .slice bw t.ws.length dw] 29) := ⟨_, rfl⟩
  have z1 : (w.alloc (.cells #[.string t.n, .int .i64 t.k, .int .i64 t.lo, .int .i64 t.hi, .string t.r.n, .bool t.r.z, .slice af t.fs.length cf, .slice ac t.cs.length cc, .slice aw t.ws.length cw] 29)).heap.size = w.heap.size + 1 := by simp
  have HA : Hid (W.heap[w.heap.size]? = some (.cells #[.string t.n, .int .i64 t.k, .int .i64 t.lo, .int .i64 t.hi, .string t.r.n, .bool t.r.z, .slice af t.fs.length cf, .slice ac t.cs.length cc, .slice aw t.ws.length cw] 29 (0, 0))) := by rw [hW2]; exact blk_alloc _ (heap_alloc_new w _)
  have HU : Hid (W.heap[w.heap.size + 1]? = some (.cells #[.string t.n, .int .i64 t.k, .int .i64 t.lo, .int .i64 t.hi, .string t.r.n, .bool t.r.z, .slice bf t.fs.length df, .slice bc t.cs.length dc, .slice bw t.ws.length dw] 29 (0, 0))) := by
    have h := heap_alloc_new (w.alloc (.cells #[.string t.n, .int .i64 t.k, .int .i64 t.lo, .int .i64 t.hi, .string t.r.n, .bool t.r.z, .slice af t.fs.length cf, .slice ac t.cs.length cc, .slice aw t.ws.length cw] 29)) (.cells #[.string t.n, .int .i64 t.k, .int .i64 t.lo, .int .i64 t.hi, .string t.r.n, .bool t.r.z, .slice bf t.fs.length df, .slice bc t.cs.length dc, .slice bw t.ws.length dw] 29)
    rw [z1] at h
    rw [hW2]
    exact h
  have HB : Hid (Below w.heap.size w W) := by rw [hW2]; exact (below_alloc4 w _).trans ((below_alloc4 _ _).mono (by rw [z1]; omega))
  have HIR := hide infoRf
  have HAR : Hid (∀ w, (isAgg 24).run Tryz.prog w = .ok true w) := aggRf
  have HR1 : Hid (∀ j u, (#[.string t.r.n, .bool t.r.z] : Array Value)[j]? = some u → W.cell? ⟨w.heap.size, 4 + j, none⟩ = some u) := sub_cell HA.out (fun j u hj => by
    rcases j with _ | _ | j
    · exact hj
    · exact hj
    · simp at hj)
  have HR2 : Hid (∀ j u, (#[.string t.r.n, .bool t.r.z] : Array Value)[j]? = some u → W.cell? ⟨w.heap.size + 1, 4 + j, none⟩ = some u) := sub_cell HU.out (fun j u hj => by
    rcases j with _ | _ | j
    · exact hj
    · exact hj
    · simp at hj)
  have HEQ : Hid ((decide (t.r.n = t.r.n) && (t.r.z == t.r.z)) = true) := by show _ = _; cases t.r.z <;> simp
  go_enter Tryz.func23, Tryz.ntmps23
  go_upto_region 1 with fail
  (try simp only [Act.put]); (try simp only [List.setIfInBounds_toArray, List.set_cons_zero, List.set_cons_succ])
  rw [← hW2]
  clear hW2 z1
  have a0 : W.cell? ⟨w.heap.size, 0, none⟩ = some (.string t.n) := blk_cell (j := 0) HA.out rfl
  have a1 : W.cell? ⟨w.heap.size, 1, none⟩ = some (.int .i64 t.k) := blk_cell (j := 1) HA.out rfl
  have a2 : W.cell? ⟨w.heap.size, 2, none⟩ = some (.int .i64 t.lo) := blk_cell (j := 2) HA.out rfl
  have a3 : W.cell? ⟨w.heap.size, 3, none⟩ = some (.int .i64 t.hi) := blk_cell (j := 3) HA.out rfl
  have a6 : W.cell? ⟨w.heap.size, 6, none⟩ = some (.slice af t.fs.length cf) := blk_cell (j := 6) HA.out rfl
  have u0 : W.cell? ⟨w.heap.size + 1, 0, none⟩ = some (.string t.n) := blk_cell (j := 0) HU.out rfl
  have u1 : W.cell? ⟨w.heap.size + 1, 1, none⟩ = some (.int .i64 t.k) := blk_cell (j := 1) HU.out rfl
  have u2 : W.cell? ⟨w.heap.size + 1, 2, none⟩ = some (.int .i64 t.lo) := blk_cell (j := 2) HU.out rfl
  have u3 : W.cell? ⟨w.heap.size + 1, 3, none⟩ = some (.int .i64 t.hi) := blk_cell (j := 3) HU.out rfl
  have u6 : W.cell? ⟨w.heap.size + 1, 6, none⟩ = some (.slice bf t.fs.length df) := blk_cell (j := 6) HU.out rfl
  have e0 := str_yes t.n
  have e1 : (t.k == t.k) = true := beq_self_eq_true _
  have e2 : (t.lo == t.lo) = true := beq_self_eq_true _
  have e3 : (t.hi == t.hi) = true := beq_self_eq_true _
  go_upto_region 2 with (first
    | (refine wpList_aggAt rfl rfl HIR.out HAR.out w.heap.size 4 #[.string t.r.n, .bool t.r.z] rfl rfl HR1.out ?_)
    | (refine wpList_aggAt rfl rfl HIR.out HAR.out (w.heap.size + 1) 4 #[.string t.r.n, .bool t.r.z] rfl rfl HR2.out ?_)
    | (with_reducible refine wpList_eqrf rfl rfl t.r.n t.r.n t.r.z t.r.z true rfl rfl HEQ.out ?_))
  clear a0 a1 a2 a3 u0 u1 u2 u3 e0 e1 e2 e3 HR1 HR2 HEQ HIR HAR
  go_wp2_with fail
  refine (eqF_any (HF.out.mv (keep_below HB.out)) (HUF.out.mv (keep_below HB.out))).mono ?_
  rintro e w2 ⟨rfl, hb2⟩
  have HA2 := hide ((hb2.block _ (blk_lt HA.out)).trans HA.out)
  have HU2 := hide ((hb2.block _ (blk_lt HU.out)).trans HU.out)
  have HB2 : Hid (Below w.heap.size w w2) := HB.out.trans (hb2.mono HB.out.size)
  clear hb2 HA HU HB a6 u6
  have a7 : w2.cell? ⟨w.heap.size, 7, none⟩ = some (.slice ac t.cs.length cc) := blk_cell (j := 7) HA2.out rfl
  have u7 : w2.cell? ⟨w.heap.size + 1, 7, none⟩ = some (.slice bc t.cs.length dc) := blk_cell (j := 7) HU2.out rfl
  go_wp2_with fail
  refine (eqC_any (HC.out.mv (keep_below HB2.out)) (HUC.out.mv (keep_below HB2.out))).mono ?_
  rintro e w3 ⟨rfl, hb3⟩
  have HA3 := hide ((hb3.block _ (blk_lt HA2.out)).trans HA2.out)
  have HU3 := hide ((hb3.block _ (blk_lt HU2.out)).trans HU2.out)
  have HB3 : Hid (Below w.heap.size w w3) := HB2.out.trans (hb3.mono HB2.out.size)
  clear hb3 HA2 HU2 HB2 a7 u7
  have a8 : w3.cell? ⟨w.heap.size, 8, none⟩ = some (.slice aw t.ws.length cw) := blk_cell (j := 8) HA3.out rfl
  have u8 : w3.cell? ⟨w.heap.size + 1, 8, none⟩ = some (.slice bw t.ws.length dw) := blk_cell (j := 8) HU3.out rfl
  go_wp2_with fail
  refine (eqS_same (HW.out.move (keep_below HB3.out)) (HUW.out.move (keep_below HB3.out))).mono ?_
  rintro e w4 ⟨rfl, hb4⟩
  have HB4 : Hid (Below w.heap.size w w4) := HB3.out.trans (hb4.mono HB3.out.size)
  clear hb4 HA3 HU3 HB3 a8 u8
  go_wp2_with fail
  go_ret
  exact ⟨rfl, HB4.out⟩
end
end Go.Proofs.YtagkogpjckjobaaGreatDoor

import Derived.Test.YtadilnmkjcmnnaaGreatDoorJh
import Derived.Laws.ResultCell
import Derived.Lib.AppendZerosOnto
import Derived.Lib.SliceRun
import Derived.Test.YtadilnmkjcmnnaaGreatDoorJe
import Derived.Lib.BytesEntry
import Derived.Laws.Externs
import Derived.Test.YtadilnmkjcmnnaaGreatDoorJi
import Derived.Test.YtadilnmkjcmnnaaGreatDoorJj
namespace Go.Proofs.YtadilnmkjcmnnaaGreatDoor
section
open Go.RowKit Go
set_option maxRecDepth 1000000 in
set_option maxHeartbeats 1000000 in
theorem check_any (w : World) (l : Lk) (hl : Lkb l) : Calls Tryz.prog 113 #[lkv l] w fun e w' => e = .returned (.int .i64 (if lok l then 0 else 40)) ∧ Below w.heap.size w w' := by
  generalize hR : (if lok l then (0 : Int) else 40) = R
  have HR := hide hR
  clear hR
  have HL := hide hl
  have HLO : Hid (∀ x ∈ (⟨0, 112, 18, l.d⟩ : Lk).d, x < 256) := hl.d
  have HOL : Hid (lcs ⟨0, 112, 18, l.d⟩ = #[.int .i64 0, .int .u64 112, .int .u64 18, .string (nstr l.d)]) := rfl
  have HT : Hid ((w.alloc (.cells #[.int .i64 l.v, .int .u64 (l.c : Nat), .int .u64 (l.h : Nat), .string (nstr l.d)] 59)).heap[w.heap.size]? = some (.cells (lcs l) 59 (0, 0))) := heap_alloc_new w _
  have HBQ := hide (below_alloc4 w (.cells #[.int .i64 l.v, .int .u64 (l.c : Nat), .int .u64 (l.h : Nat), .string (nstr l.d)] 59))
  simp only [lkv]
  go_enter Tryz.func113, Tryz.ntmps113
  go_wp2_with fail
  generalize w.alloc (.cells #[.int .i64 l.v, .int .u64 (l.c : Nat), .int .u64 (l.h : Nat), .string (nstr l.d)] 59) = w0 at *
  go_cut [3] (fun c wx => c = .bool (decide (l = ⟨0, 112, 18, l.d⟩) && decide (okd l.h l.d)) ∧ Hid (Below w0.heap.size w0 wx))
  case first => as_aux_lemma =>
    have q3 : ∀ t : Ext w0, t.w'.cell? ⟨w.heap.size, 3, none⟩ = some (.string (nstr l.d)) := fun t => Ext.cell (blk_cell HT.out rfl) t
    have HQ : Hid (∀ wx, (∃ t : Ext w0, wx = t.w') → wx.heap[w.heap.size]? = some (.cells (lcs l) 59 (0, 0))) := by
      rintro _ ⟨t, rfl⟩
      exact (t.h.block _ (blk_lt HT.out)).trans HT.out
    have HCO : Hid (∀ t : Ext w0, Calls Tryz.prog 134 #[.string (nstr l.d)] t.w' fun e w'' => e = .returned (.agg (lcs ⟨0, 112, 18, l.d⟩)) ∧ ∃ t' : Ext w0, w'' = t'.w') := fun t => Calls.ext_below (old_any t.w' (nstr l.d))
    have HCF : Hid (∀ t : Ext w0, Calls Tryz.prog 135 #[.agg (lcs l)] t.w' fun e w'' => e = .returned (.bool (decide (okd l.h l.d))) ∧ ∃ t' : Ext w0, w'' = t'.w') := fun t => Calls.ext_below (fits4_any t.w' l HL.out)
    have HEQ : Hid (∀ wx, (∃ t : Ext w0, wx = t.w') → (Op.equalIn 10000 59 (.agg (lcs l)) (.agg (lcs ⟨0, 112, 18, l.d⟩))).run Tryz.prog wx = .ok (decide (l = ⟨0, 112, 18, l.d⟩)) wx) := fun wx _ => eqlk wx HL.out.d HLO.out
    generalize hbb : decide (l = ⟨0, 112, 18, l.d⟩) = bb at *
    generalize lcs ⟨0, 112, 18, l.d⟩ = ol at *
    have HCN : Hid ((lcs l).size = 4) := rfl
    generalize lcs l = cl at *
    clear hbb
    cases bb
    · refine region_ext (by kernel_rfl) (by kernel_rfl) ?_
      repeat (
        refine wpQuiet_step (fun K hK => ?_)
        first
          | (refine qstep_link rfl rfl w.heap.size cl rfl HCN.out HQ.out (hK _ ?_); clear hK K)
          | (refine qstep_eqlk rfl rfl cl ol false rfl rfl HEQ.out (hK _ ?_); clear hK K)
          | (go_simp
             first
               | (refine hK _ ?_; clear hK K)
               | (apply Exists.intro
                  refine ⟨fun _ => ?_, hK _ ?_⟩
                  (first
                    | (go_at_call 134; exact HCO.out _)
                    | (go_at_call 135; exact HCF.out _))
                  clear hK K)))
      refine wpQuiet_nil ?_
      rintro _ ⟨tq, rfl⟩
      go_wp2_with fail
      go_meet
      case rel => exact ⟨rfl, tq.h⟩
    · refine region_ext (by kernel_rfl) (by kernel_rfl) ?_
      repeat (
        refine wpQuiet_step (fun K hK => ?_)
        first
          | (refine qstep_link rfl rfl w.heap.size cl rfl HCN.out HQ.out (hK _ ?_); clear hK K)
          | (refine qstep_eqlk rfl rfl cl ol true rfl rfl HEQ.out (hK _ ?_); clear hK K)
          | (go_simp
             first
               | (refine hK _ ?_; clear hK K)
               | (apply Exists.intro
                  refine ⟨fun _ => ?_, hK _ ?_⟩
                  (first
                    | (go_at_call 134; exact HCO.out _)
                    | (go_at_call 135; exact HCF.out _))
                  clear hK K)))
      refine wpQuiet_nil ?_
      rintro _ ⟨tq, rfl⟩
      go_wp2_with fail
      go_meet
      case rel => exact ⟨rfl, tq.h⟩
  case rest => as_aux_lemma =>
    obtain ⟨rfl, hb1⟩ := hcut
    have HT1 : Hid (wc.heap[w.heap.size]? = some (.cells (lcs l) 59 (0, 0))) := (hb1.out.block _ (blk_lt HT.out)).trans HT.out
    have HB1 : Hid (Below w.heap.size w wc) := HBQ.out.trans (hb1.out.mono HBQ.out.size)
    have HK : Hid (lok l ↔ (l = ⟨0, 112, 18, l.d⟩ ∧ okd l.h l.d) ∨ (l.v = 1 ∧ l.c < 9223372036854775808 ∧ okd l.h l.d)) := by
      show _ ↔ _
      unfold lok
      rw [lk_ext]
      constructor
      · rintro (⟨h1, h2, h3, h4⟩ | h)
        · exact .inl ⟨⟨h1, h2, h3, rfl⟩, .inl ⟨h3, h4⟩⟩
        · exact .inr h
      · rintro (⟨⟨h1, h2, h3, _⟩, h | h⟩ | h)
        · exact .inl ⟨h1, h2, h3, h.2⟩
        · simp only at h1 h2 h3
          omega
        · exact .inr h
    clear hb1 HT HBQ HOL HLO
    by_cases hc1 : l = ⟨0, 112, 18, l.d⟩ ∧ okd l.h l.d
    · as_aux_lemma =>
      have e1 : (decide (l = ⟨0, 112, 18, l.d⟩) && decide (okd l.h l.d)) = true := by rw [decide_eq_true hc1.1, decide_eq_true hc1.2]; rfl
      have HZ : Hid (R = 0) := by show _ = _; rw [← HR.out, if_pos (HK.out.2 (.inl hc1))]
      rw [e1]
      clear e1 hc1 HR HK
      go_wp2_with fail
      go_ret
      exact ⟨by rw [HZ.out]; rfl, HB1.out⟩
    · have e1 : (decide (l = ⟨0, 112, 18, l.d⟩) && decide (okd l.h l.d)) = false := by
        rw [Bool.and_eq_false_iff, decide_eq_false_iff_not, decide_eq_false_iff_not]
        exact Decidable.not_and_iff_or_not.1 hc1
      rw [e1]
      have HE : Hid (lok l ↔ (l.v = 1 ∧ l.c < 9223372036854775808 ∧ okd l.h l.d)) := HK.out.trans ⟨fun h => h.resolve_left hc1, .inr⟩
      have q0 : wc.cell? ⟨w.heap.size, 0, none⟩ = some (.int .i64 l.v) := blk_cell HT1.out rfl
      have q1 : wc.cell? ⟨w.heap.size, 1, none⟩ = some (.int .u64 (l.c : Nat)) := blk_cell HT1.out rfl
      have q2 : wc.cell? ⟨w.heap.size, 2, none⟩ = some (.int .u64 (l.h : Nat)) := blk_cell HT1.out rfl
      have q3 : wc.cell? ⟨w.heap.size, 3, none⟩ = some (.string (nstr l.d)) := blk_cell HT1.out rfl
      have HF := hide (fits4_any wc l HL.out)
      simp only [lkv] at HF
      have HCL := hide HL.out.c
      clear e1 hc1 HK HL hl HT1
      generalize nstr l.d = S at *
      obtain ⟨v, c, h, d⟩ := l
      simp only at *
      by_cases hv : v = 1
      · subst hv
        generalize hn : (c : Int) = n at *
        have HN := hide hn
        clear hn
        by_cases hc63 : n < 9223372036854775808
        · as_aux_lemma =>
          have HZ : Hid (R = if okd h d then 0 else 40) := by
            show _ = _
            rw [← HR.out]
            have := HN.out
            by_cases hk : okd h d
            · rw [if_pos hk, if_pos (HE.out.2 ⟨rfl, by omega, hk⟩)]
            · rw [if_neg hk, if_neg (fun e => hk (HE.out.1 e).2.2)]
          clear HE HR HN
          go_wp2_with fail
          refine HF.out.mono ?_
          rintro e w2 ⟨rfl, hb2⟩
          have HB2 : Hid (Below w.heap.size w w2) := HB1.out.trans (hb2.mono HB1.out.size)
          clear hb2 HF
          by_cases hk : okd h d
          · rw [decide_eq_true hk]
            rw [if_pos hk] at HZ
            go_wp2_with fail
            go_ret
            exact ⟨by rw [HZ.out]; rfl, HB2.out⟩
          · rw [decide_eq_false hk]
            rw [if_neg hk] at HZ
            go_wp2_with fail
            go_ret
            exact ⟨by rw [HZ.out]; rfl, HB2.out⟩
        · as_aux_lemma =>
          have g2' : (9223372036854775808 : Int) ≤ n := by omega
          have HZ : Hid (R = 40) := by show _ = _; rw [← HR.out, if_neg (fun e => hc63 (by have := (HE.out.1 e).2.1; have := HN.out; omega))]
          clear HE HR HN hc63
          go_wp2_with fail
          go_ret
          exact ⟨by rw [HZ.out]; rfl, HB1.out⟩
      · as_aux_lemma =>
        have g1 : (v == 1) = false := beq_eq_false_iff_ne.2 hv
        have HZ : Hid (R = 40) := by show _ = _; rw [← HR.out, if_neg (fun e => hv (HE.out.1 e).1)]
        clear HE HR hv
        go_wp2_with fail
        go_ret
        exact ⟨by rw [HZ.out]; rfl, HB1.out⟩
end
section
open Go.RowKit Go
/-- How a function ends whose first result is a struct. -/
theorem end_c2 {fn : Func} {p q : Tmp} {T : TypeId} {fs : Array Field} {wx : World} {R : Nat} {cs : Array Value} {x : Value} {tmps : Array Value} (hf : fn.results = #[.cell p T, .tmp q]) (hu : Tryz.prog.underlying T = some (.struct fs)) {n : Nat} (hi : (Tryz.prog.info? T).map (·.size) = some n) (hn : cs.size = n)
    (hr : wx.heap[R]? = some (.cells cs T (0, 0))) (hp : tmps.getD p undef = .pointer (some ⟨R, 0, none⟩)) (hx : tmps.getD q undef = x) : (results fn tmps).run Tryz.prog wx = .ok (.tuple #[.agg cs, x]) wx := by
  refine (results_cell_tmp hf _ _ _).trans ?_
  rw [hp, hx]
  have h1 := run_loadVar_row (P := Tryz.prog) wx R T T cs (0, 0) _ hr hu rfl (by rw [hn]; exact hi)
  simp [asAddr, h1, Result.andThen]
theorem end_c3 {fn : Func} {p q s : Tmp} {T : TypeId} {fs : Array Field} {wx : World} {R : Nat} {cs : Array Value} {x y : Value} {tmps : Array Value} (hf : fn.results = #[.cell p T, .tmp q, .tmp s]) (hu : Tryz.prog.underlying T = some (.struct fs)) {n : Nat} (hi : (Tryz.prog.info? T).map (·.size) = some n) (hn : cs.size = n)
    (hr : wx.heap[R]? = some (.cells cs T (0, 0))) (hp : tmps.getD p undef = .pointer (some ⟨R, 0, none⟩)) (hx : tmps.getD q undef = x) (hy : tmps.getD s undef = y) : (results fn tmps).run Tryz.prog wx = .ok (.tuple #[.agg cs, x, y]) wx := by
  refine (results_c3 hf _ _ _).trans ?_
  rw [hp, hx, hy]
  have h1 := run_loadVar_row (P := Tryz.prog) wx R T T cs (0, 0) _ hr hu rfl (by rw [hn]; exact hi)
  simp [asAddr, h1, Result.andThen]
/-- A whole link is laid. -/
theorem wpList_storeLk {ops : Array Oper} {rest : List Oper} {o : Oper} {a : Act} {Q : Exit → Act → World → Prop} {w : World} {p x : Operand} (hgd : o.guard = none) (ho : o.op = .store 59 p x) (g : Nat) (old : Array Value) (l : Lk)
    (hp : a.eval p = .pointer (some ⟨g, 0, none⟩)) (hx : a.eval x = .agg (lcs l)) (hn : old.size = 4) (hg : w.heap[g]? = some (.cells old 59 (0, 0))) (h : wpList Tryz.prog ops Q rest (a.put o.dst undef) (w.setRow g (lcs l))) : wpList Tryz.prog ops Q (o :: rest) a w :=
  wpList_storeRow hgd ho g old (lcs l) 59 hp hx hg info61 (by rw [hn]; rfl) (by kernel_rfl) h
end
section
open Go.RowKit Go
set_option maxRecDepth 1000000 in
set_option maxHeartbeats 1000000 in
/-- slices.Grow of nil. -/
theorem grow_any (w : World) (n : Nat) (h0 : 0 < n) (hn : n ≤ 1000) :
    Calls Tryz.prog 182 #[.slice none 0 0, .int .i64 (n : Nat)] w fun e w' => ∃ v, e = .returned v ∧ w'.ownsRow w.heap.size 5 1 v 0 (bv []) ∧ Below w.heap.size w w' := by
  obtain ⟨i5, hi, hz0, hz1, hz2⟩ := info5_ex
  have hold : (Builtin.firstCells i5.size 0 (.slice none 0 0)).run Tryz.prog w.drew = .ok ([] : List Value).toArray w.drew := run_firstCells_none w.drew i5.size 0 0 0
  have hrz : ∀ ty, (Builtin.append_ #[46, 3] ty #[.slice none 0 0, .int .i64 (n : Nat)]).run Tryz.prog w = .ok (.slice (some ⟨w.heap.size, 0, none⟩) n (grownCap w n 0 5)) (w.drew.alloc (.cells (Builtin.zeroCells (Value.int .u8 0).cells n ++ Builtin.zeroCells (Value.int .u8 0).cells (grownCap w n 0 5 - n)) 5)) := fun ty => by
    have h := Lib.run_append_grow_zeros w 46 3 ty 5 i5 (.int .u8 0) .i64 .i64 Tryz.underlying46 Tryz.underlying3 hi hz0 none 0 0 [] hold n h0 (by rw [hz1]; omega) (by omega) (by omega) (by rw [hz2]; omega) (growslice_fits (by omega) (by rw [hz2]; omega))
    simpa using h
  have hG := grownCap_ge w n 0 5
  have hM := grownCap_le_maxLen w n 0 5 (by unfold maxLen; omega)
  have HO : Hid ((w.drew.alloc (.cells (Builtin.zeroCells (Value.int .u8 0).cells n ++ Builtin.zeroCells (Value.int .u8 0).cells (grownCap w n 0 5 - n)) 5)).ownsRow w.heap.size 5 1 (.slice (some ⟨w.heap.size, 0, none⟩) 0 (grownCap w n 0 5)) 0 (bv [])) := by
    refine ⟨rfl, .inr ⟨w.heap.size, grownCap w n 0 5, _, rfl, Nat.le_refl _, heap_alloc_new w.drew _, by omega, hM, ?_, by simp [bv]⟩⟩
    simp [Builtin.zeroCells, Value.cells]
    omega
  have HB : Hid (Below w.heap.size w (w.drew.alloc (.cells (Builtin.zeroCells (Value.int .u8 0).cells n ++ Builtin.zeroCells (Value.int .u8 0).cells (grownCap w n 0 5 - n)) 5))) := (Below.refl w.heap.size w).drew.alloc (Nat.le_refl _) _
  clear hold hi hz0 hz1 hz2
  have h1 : ¬ ((n : Int) < 0) := by omega
  have h4 : (n : Int) > 0 := by omega
  have hG63 : (grownCap w n 0 5 : Int) ≤ 9223372036854775807 := by unfold maxLen at hM; omega
  generalize grownCap w n 0 5 = G at *
  go_enter Tryz.func182, Tryz.ntmps182
  go_wp2_with (at_builtin; refine Lib.wpList_append_run _ rfl _ _ _ _ rfl _ _ rfl rfl _ _ (hrz _) ?_)
  go_ret
  exact ⟨_, rfl, HO.out, HB.out⟩
end
section
open Go.RowKit Go
/-- Rows of bytes in a block of slices. -/
structure Rws (w : World) (g : Nat) (vs : List Value) (xss : List (List Nat)) : Prop where
  n : vs.length = xss.length
  c : ∀ i, i < vs.length → w.cell? ⟨g, i, none⟩ = some (vs.getD i undef)
  b : ∀ i, i < vs.length → BSl w (vs.getD i undef) (xss.getD i [])
theorem Rws.below {w w' : World} {g : Nat} {vs : List Value} {xss : List (List Nat)} (h : Rws w g vs xss) (hb : Below w.heap.size w w') : Rws w' g vs xss :=
  ⟨h.n, fun i hi => keep_below hb _ _ (h.c i hi), fun i hi => (h.b i hi).move (keep_below hb)⟩
/-- How many bytes the first k rows have, and all bytes. -/
def fln (xss : List (List Nat)) (k : Nat) : Nat := (xss.take k).flatten.length
def fla (xss : List (List Nat)) (k : Nat) : List Nat := (xss.take k).flatten
theorem fla_len (xss : List (List Nat)) (k : Nat) : (fla xss k).length = fln xss k := rfl
theorem fla_succ (xss : List (List Nat)) (k : Nat) (hk : k < xss.length) : fla xss (k + 1) = fla xss k ++ xss.getD k [] := by
  unfold fla
  rw [List.take_succ_eq_append_getElem hk, List.flatten_append]
  simp [List.getD, hk]
theorem fln_succ (xss : List (List Nat)) (k : Nat) (hk : k < xss.length) : fln xss (k + 1) = fln xss k + (xss.getD k []).length := by
  rw [← fla_len, ← fla_len, fla_succ xss k hk, List.length_append]
theorem fln_le (xss : List (List Nat)) (k : Nat) : fln xss k ≤ fln xss xss.length := by
  unfold fln
  rw [List.take_length]
  conv => rhs; rw [← List.take_append_drop k xss, List.flatten_append, List.length_append]
  omega
end
section
open Go.RowKit Go
/-- What Bytes lays. -/
def lrow (l : Lk) : List Nat := if lok l then lbytes l else []
theorem lrow_byte {l : Lk} (h : ∀ x ∈ l.d, x < 256) : ∀ x ∈ lrow l, x < 256 := by
  unfold lrow
  split
  · exact lbytes_byte (by assumption) h
  · simp
end
section
open Go.RowKit Go
theorem blt_self : ∀ x, blt x x = false
  | [] => rfl
  | x :: r => by rw [blt, if_pos rfl, blt_self r]
end
section
open Go.RowKit Go
theorem blt_tr : ∀ (x y z : List Nat), x.length = y.length → y.length = z.length → blt x y = true → blt y z = true → blt x z = true
  | [], _, _, _, _, h, _ => by simp [blt] at h
  | _ :: _, [], _, h, _, _, _ => by simp at h
  | _ :: _, _ :: _, [], _, h, _, _ => by simp at h
  | a :: x, b :: y, c :: z, h1, h2, h3, h4 => by
    have ih := blt_tr x y z (by simpa using h1) (by simpa using h2)
    simp only [blt] at *
    by_cases e1 : a = b
    · by_cases e2 : b = c
      · rw [if_pos e1] at h3
        rw [if_pos e2] at h4
        rw [if_pos (by omega)]
        exact ih h3 h4
      · rw [if_neg e2] at h4
        rw [if_neg (by omega)]
        simp at *
        omega
    · rw [if_neg e1] at h3
      by_cases e2 : b = c
      · rw [if_neg (by omega)]
        simp at *
        omega
      · rw [if_neg e2] at h4
        simp at h3 h4
        rw [if_neg (by omega)]
        simp
        omega
theorem blt_nt : ∀ (x y z : List Nat), x.length = y.length → y.length = z.length → blt x y = false → blt y z = false → blt x z = false
  | [], _, _, _, _, _, _ => by simp [blt]
  | _ :: _, [], _, h, _, _, _ => by simp at h
  | _ :: _, _ :: _, [], _, h, _, _ => by simp at h
  | a :: x, b :: y, c :: z, h1, h2, h3, h4 => by
    have ih := blt_nt x y z (by simpa using h1) (by simpa using h2)
    simp only [blt] at *
    by_cases e1 : a = b
    · by_cases e2 : b = c
      · rw [if_pos e1] at h3
        rw [if_pos e2] at h4
        rw [if_pos (by omega)]
        exact ih h3 h4
      · rw [if_neg e2] at h4
        rw [if_neg (by omega)]
        simp at *
        omega
    · rw [if_neg e1] at h3
      by_cases e2 : b = c
      · rw [if_neg (by omega)]
        simp at *
        omega
      · rw [if_neg e2] at h4
        simp at h3 h4
        rw [if_neg (by omega)]
        simp
        omega
theorem bfr_self (x : List Nat) : bfr x x = false := by
  unfold bfr
  rw [if_pos rfl]
  exact blt_self x
theorem bfr_tr (x y z : List Nat) (h1 : bfr x y = true) (h2 : bfr y z = true) : bfr x z = true := by
  unfold bfr at *
  by_cases e1 : x.length = y.length
  · rw [if_pos e1] at h1
    by_cases e2 : y.length = z.length
    · rw [if_pos e2] at h2
      rw [if_pos (by omega)]
      exact blt_tr x y z e1 e2 h1 h2
    · rw [if_neg e2] at h2
      rw [if_neg (by omega)]
      simp at *
      omega
  · rw [if_neg e1] at h1
    by_cases e2 : y.length = z.length
    · rw [if_neg (by omega)]
      simp at *
      omega
    · rw [if_neg e2] at h2
      simp at h1 h2
      rw [if_neg (by omega)]
      simp
      omega
theorem bfr_nt (x y z : List Nat) (h1 : bfr x y = false) (h2 : bfr y z = false) : bfr x z = false := by
  unfold bfr at *
  by_cases e1 : x.length = y.length
  · rw [if_pos e1] at h1
    by_cases e2 : y.length = z.length
    · rw [if_pos e2] at h2
      rw [if_pos (by omega)]
      exact blt_nt x y z e1 e2 h1 h2
    · rw [if_neg e2] at h2
      rw [if_neg (by omega)]
      simp at *
      omega
  · rw [if_neg e1] at h1
    by_cases e2 : y.length = z.length
    · rw [if_neg (by omega)]
      simp at *
      omega
    · rw [if_neg e2] at h2
      simp at h1 h2
      rw [if_neg (by omega)]
      simp
      omega
end
section
open Go.RowKit Go
theorem hrd_bd8 (b : List Nat) (hb : ∀ x ∈ b, x < 256) : (hrd b).n < 18446744073709551616 := by
  cases b with
  | nil => decide
  | cons x r =>
    have hx := hb x (List.mem_cons_self ..)
    · by_cases h1 : 27 < x % 32
      · by_cases h2 : x % 32 = 31 ∧ x / 32 ≠ 0 ∧ x / 32 ≠ 1 ∧ x / 32 ≠ 6
        · rw [hrd_end h2.1 h2.2]; show 0 < _; decide
        · rw [hrd_info h1 h2]; show 0 < _; decide
      · by_cases h2 : x % 32 < 24
        · rw [hrd_small h2]; show x % 32 < _; omega
        · by_cases h3 : r.length < hwide (x % 32)
          · rw [hrd_short (by omega) (by omega) h3]; show 0 < _; decide
          · by_cases h4 : x / 32 = 7 ∧ x % 32 = 24 ∧ bnum 0 (r.take (hwide (x % 32))) < 32
            · rw [hrd_low h4.2.1 h3 h4.1 h4.2.2]; show 0 < _; decide
            · rw [hrd_long (by omega) (by omega) h3 h4]
              show bnum 0 (r.take (hwide (x % 32))) < _
              have h5 := bnum_lt (r.take (hwide (x % 32))) 0 (fun y hy => hb y (List.mem_cons_of_mem _ (List.mem_of_mem_take hy)))
              have h6 : (r.take (hwide (x % 32))).length ≤ 8 := by rw [List.length_take]; have := hwide_le (x % 32); omega
              have h7 : 256 ^ (r.take (hwide (x % 32))).length ≤ 256 ^ 8 := Nat.pow_le_pow_right (by decide) h6
              have h8 : (256 : Nat) ^ 8 = 18446744073709551616 := by decide
              omega
theorem look_fit {want : Nat} {r : List Nat} (h : rlook want r = 0) : rfit want (hrd r) (rbody r) = true := by
  unfold rlook at h
  by_cases h20 : (hrd r).e = 20
  · rw [if_pos h20] at h; cases h
  rw [if_neg h20] at h
  by_cases h2 : (hrd r).e ≠ 0 ∨ (hrd r).i = 31
  · rw [if_pos h2] at h; cases h
  rw [if_neg h2] at h
  by_cases h3 : ((hrd r).m = 2 ∨ (hrd r).m = 3) ∧ r.length - (hrd r).u < (hrd r).n
  · rw [if_pos h3] at h; cases h
  rw [if_neg h3] at h
  by_cases h4 : rmay (hrd r) (rbody r) = false ∨ rfit want (hrd r) (rbody r) = false
  · rw [if_pos h4] at h; cases h
  rcases Bool.eq_false_or_eq_true (rfit want (hrd r) (rbody r)) with e | e
  · exact e
  · exact absurd (.inr e) h4
theorem fit_key {r : List Nat} (h : rlook 1 r = 0) : (hrd r).m = 3 ∧ badb (nstr (rbody r)) = false := by
  have h1 := look_fit h
  unfold rfit at h1
  rw [if_pos rfl] at h1
  have h3 : (hrd r).m = 3 := by simpa using h1
  have h2 := look_may h
  unfold rmay at h2
  rw [if_pos h3] at h2
  exact ⟨h3, by simpa using h2⟩
theorem fit_name {r : List Nat} (h : rlook 2 r = 0) : (hrd r).m = 2 ∧ (rbody r).head? = some 0 ∧ (lparse (rbody r).tail).2 = 0 := by
  have h1 := look_fit h
  unfold rfit at h1
  rw [if_neg (by decide), if_pos rfl] at h1
  simpa using h1
theorem take_rise {full : Bool} {ks : List ByteArray} {r : List Nat} (h : rtake 1 full ks r = 0) : rrise ks (nstr (rbody r)) = true := by
  obtain ⟨hl, hn⟩ := rtake_look h
  unfold rtake at h
  rw [if_neg hn, if_neg (fun e => e hl)] at h
  by_cases h2 : (hrd r).s = false ∨ ((1 : Nat) = 1 ∧ rrise ks (nstr (rbody r)) = false)
  · rw [if_pos h2] at h; cases h
  rcases Bool.eq_false_or_eq_true (rrise ks (nstr (rbody r))) with e | e
  · exact e
  · exact absurd (.inr ⟨rfl, e⟩) h2
/-- Rising keys are all unlike. -/
theorem rise_lt {ks : List ByteArray} (h : ∀ (i : Nat) (s s' : ByteArray), ks[i]? = some s → ks[i + 1]? = some s' → bfr (sl s) (sl s') = true) : ∀ (j i : Nat) (s s' : ByteArray), ks[i]? = some s → ks[i + j + 1]? = some s' → bfr (sl s) (sl s') = true
  | 0, i, s, s', h1, h2 => h i s s' h1 h2
  | j + 1, i, s, s', h1, h2 => by
    have hlt : i + (j + 1) + 1 < ks.length := (List.getElem?_eq_some_iff.1 h2).1
    have e := List.getElem?_eq_getElem (show i + j + 1 < ks.length by omega)
    exact bfr_tr _ _ _ (rise_lt h j i s _ h1 e) (h (i + j + 1) _ s' e h2)
theorem rise_nodup {ks : List ByteArray} (h : ∀ (i : Nat) (s s' : ByteArray), ks[i]? = some s → ks[i + 1]? = some s' → bfr (sl s) (sl s') = true) : ks.Nodup := by
  unfold List.Nodup
  rw [List.pairwise_iff_getElem]
  intro i j hi hj hij e
  have e1 := List.getElem?_eq_getElem hi
  have e2 := List.getElem?_eq_getElem hj
  have h1 := rise_lt h (j - i - 1) i _ _ e1 (by rw [show i + (j - i - 1) + 1 = j by omega]; exact e2)
  rw [e, bfr_self] at h1
  cases h1
theorem Bk8.step {b : List Nat} {d : Nat} {s s' : Mst} (hb : ∀ x ∈ b, x < 256) (hd : d ≤ 1024) (hi : Inv8 b d s) (h : Bk8 b d s) (hs : mstep b d s = .inl s') : Bk8 b d s' := by
  obtain ⟨lab, p, st⟩ := s
  obtain ⟨ip, id, ik, it, ih, io, ii⟩ := hi
  obtain ⟨ht, hg, hv⟩ := h
  simp only at ip id ik it ih io ii ht hg hv
  have hby : ∀ x ∈ b.drop p, x < 256 := fun x hx => hb x (List.mem_of_mem_drop hx)
  have htk : b.take (p + rused (b.drop p)) = b.take p ++ (b.drop p).take (rused (b.drop p)) := List.take_add
  cases lab with
  | plain =>
    unfold mstep at hs
    dsimp only at hs
    by_cases h0 : rtake 0 (decide (st.length = d)) [] (b.drop p) ≠ 0
    · rw [if_pos h0] at hs; cases hs
    rw [if_neg h0] at hs
    have h1 : rtake 0 (decide (st.length = d)) [] (b.drop p) = 0 := Decidable.not_not.1 h0
    obtain ⟨hlk, hfull⟩ := rtake_look h1
    rw [ht, item_back hby h1] at htk
    simp only [lpre, List.append_nil] at htk
    have hlt : (hrd (b.drop p)).m = 4 ∨ (hrd (b.drop p)).m = 5 → st.length < d := fun hm => by
      have h2 := rnest_of (rlook_e hlk) hm
      have h3 : ¬ st.length = d := fun e => hfull ⟨h2, decide_eq_true e⟩
      omega
    by_cases m6 : (hrd (b.drop p)).m = 6
    · rw [if_pos m6] at hs
      injection hs with hs
      subst hs
      refine ⟨?_, hg, fun v e => by cases e⟩
      have hn := look_may hlk
      unfold rmay at hn
      rw [if_neg (by omega), if_pos m6] at hn
      rw [htk, if_neg (by omega), body_none (by omega), List.append_nil, m6, show (hrd (b.drop p)).n = 42 by simpa using hn]
      rfl
    rw [if_neg m6] at hs
    by_cases m4 : (hrd (b.drop p)).m = 4
    · rw [if_pos m4] at hs
      injection hs with hs
      subst hs
      refine ⟨?_, ⟨⟨hlt (.inl m4), .inl rfl, fun _ => rfl, fun e => (by cases e), fun u hu => (by cases hu), fun i a b e => (by simp at e), fun a e => (by cases e)⟩, hg⟩, fun v e => by cases e⟩
      show b.take (p + rused (b.drop p)) = (spre st ++ npre ⟨8, [], [], (hrd (b.drop p)).n⟩) ++ []
      rw [htk, if_neg (by omega), body_none (by omega), m4, List.append_nil, List.append_nil]
      simp [npre, tfmL]
    rw [if_neg m4] at hs
    by_cases m5 : (hrd (b.drop p)).m = 5
    · rw [if_pos m5] at hs
      injection hs with hs
      subst hs
      refine ⟨?_, ⟨⟨hlt (.inr m5), .inr rfl, fun _ => rfl, fun _ => rfl, fun u hu => (by cases hu), fun i a b e => (by simp at e), fun a e => (by cases e)⟩, hg⟩, fun v e => by cases e⟩
      show b.take (p + rused (b.drop p)) = (spre st ++ npre ⟨9, [], [], (hrd (b.drop p)).n⟩) ++ []
      rw [htk, if_neg (by omega), body_none (by omega), m5, List.append_nil, List.append_nil]
      simp [npre, tfmK]
    rw [if_neg m5] at hs
    injection hs with hs
    subst hs
    obtain ⟨l1, l2⟩ := leaf_kind hby hlk m4 m5 m6 st.length d id
    refine ⟨?_, hg, fun v e => ?_⟩
    · show _ = spre st ++ tfm _
      rw [htk, l1]
    · injection e with e
      subst e
      exact l2
  | name =>
    unfold mstep at hs
    dsimp only at hs
    by_cases h0 : rtake 2 (decide (st.length = d)) [] (b.drop p) ≠ 0
    · rw [if_pos h0] at hs; cases hs
    rw [if_neg h0] at hs
    have h1 : rtake 2 (decide (st.length = d)) [] (b.drop p) = 0 := Decidable.not_not.1 h0
    obtain ⟨hlk, -⟩ := rtake_look h1
    obtain ⟨n1, n2, n3⟩ := fit_name hlk
    have hbl := body_len hlk (.inl n1)
    have hbb := body_byte hby
    rw [ht, item_back hby h1] at htk
    injection hs with hs
    subst hs
    generalize rbody (b.drop p) = y at *
    obtain ⟨tl, hy⟩ : ∃ tl, y = 0 :: tl := by
      cases y with
      | nil => cases n2
      | cons z q =>
        injection n2 with n2
        exact ⟨q, by rw [n2]⟩
    subst hy
    have hlb := lparse_back (b := tl) (l := (lparse tl).1) (fun x hx => hbb x (List.mem_cons_of_mem _ hx)) (by rw [← n3]; rfl)
    have eln : 1 + (lbytes (lparse tl).1).length = (hrd (b.drop p)).n := by rw [hlb.2, ← hbl, List.length_cons]; omega
    refine ⟨?_, hg, fun v e => ?_⟩
    · show _ = spre st ++ tfm (.mk 7 false false 0 0 ⟨#[]⟩ [] (lparse tl).1 [] [])
      unfold tfm
      simp only [lpre] at htk
      rw [if_neg (by decide), if_neg (by decide), if_neg (by decide), if_neg (by decide), if_neg (by decide), if_neg (by decide), if_pos rfl, eln, hlb.2, htk, if_neg (by omega), n1, List.append_assoc]
    · injection e with e
      subst e
      refine ⟨?_, ?_, Rsn.mk _ (fun i a b e => by simp [Tv.ks] at e) (fun u hu => by cases hu)⟩
      · rw [chkf_eq]
        have ho : onef (.mk 7 false false 0 0 ⟨#[]⟩ [] (lparse tl).1 [] []) st.length = 0 := by
          unfold onef tidyf Tv.zr Tv.cl
          simp [Tv.k, Tv.f, Tv.g, Tv.n, Tv.b, Tv.s, Tv.y, Tv.l, Tv.ks, Tv.is, fin0, bad0, hlb.1]
        have ho2 : onef (.mk 7 false false 0 0 ⟨#[]⟩ [] (lparse (List.tail (0 :: tl))).1 [] []) st.length = 0 := ho
        rw [if_pos ho2]
        show chkL [] _ = 0
        rw [chkL]
      · rw [tdepth_eq, if_neg (by show ¬ ((7 : Int) = 8 ∨ (7 : Int) = 9); decide), Nat.zero_add]
        exact id
  | done v =>
    cases st with
    | nil => cases hs
    | cons x q =>
      injection hs with hs
      subst hs
      obtain ⟨hx, hq⟩ := hg
      have hn : 0 < x.n := by
        rcases (ih x rfl).2 with e | e
        · cases e
        · exact e
      refine ⟨?_, ⟨⟨hx.lt, hx.k, hx.l, fun e => ?_, fun u hu => ?_, hx.r, hx.b⟩, hq⟩, fun v e => by cases e⟩
      · show b.take p = (spre q ++ npre ⟨x.k, x.ks, x.is ++ [v], x.n - 1⟩) ++ []
        rw [ht, List.append_nil]
        show (spre q ++ npre x) ++ tfm v = _
        rw [List.append_assoc]
        congr 1
        unfold npre
        dsimp only
        rw [List.length_append, List.length_singleton, show x.is.length + 1 + (x.n - 1) = x.is.length + x.n by omega, List.append_assoc]
        congr 1
        rcases hx.k with e | e
        · rw [if_pos e, if_pos e, tfmL_app]
        · rw [if_neg (by omega), if_neg (by omega), tfmK_item v (hx.m e)]
      · show x.ks.length = (x.is ++ [v]).length + 0
        rw [hx.m e, List.length_append, List.length_singleton]
        rfl
      · rcases List.mem_append.1 hu with e | e
        · exact hx.i u e
        · simp only [List.mem_singleton] at e
          rw [e]
          exact hv v rfl
  | inside =>
    cases st with
    | nil => cases hs
    | cons x q =>
      obtain ⟨hx, hq⟩ := hg
      unfold mstep at hs
      dsimp only at hs
      by_cases hn : x.n = 0
      · rw [if_pos hn] at hs
        injection hs with hs
        subst hs
        refine ⟨?_, hq, fun v e => ?_⟩
        · show b.take p = spre q ++ tfm x.val
          rw [ht]
          show (spre q ++ npre x) ++ [] = _
          rw [List.append_nil]
          congr 1
          unfold npre Nst.val tfm
          rw [hn, Nat.add_zero]
          rcases hx.k with e | e
          · rw [e]; simp
          · rw [e]; simp
        · injection e with e
          subst e
          refine ⟨?_, ?_, Rsn.mk _ hx.r (fun u hu => (hx.i u hu).r)⟩
          · have ho : onef x.val q.length = 0 := by
              have hlen : x.k = 9 → x.ks.length = x.is.length := fun e => by have := hx.m e; simpa [lmore] using this
              have hnd := rise_nodup hx.r
              have hbd : x.ks.any badb = false := by
                rw [List.any_eq_false]
                intro s hs2
                rw [hx.b s hs2]
                decide
              have hlt := hx.lt
              have hl8 := hx.l
              have hkk := hx.k
              clear ht hx hq
              obtain ⟨k, ks, is, n⟩ := x
              simp only at *
              unfold onef tidyf Tv.zr Tv.cl Nst.val
              rcases hkk with e | e
              · subst e
                have e2 := hl8 rfl
                subst e2
                simp [Tv.k, Tv.f, Tv.g, Tv.n, Tv.b, Tv.s, Tv.y, Tv.l, Tv.ks, Tv.is, fin0, bad0]
                omega
              · subst e
                have e2 := hlen rfl
                simp [Tv.k, Tv.f, Tv.g, Tv.n, Tv.b, Tv.s, Tv.y, Tv.l, Tv.ks, Tv.is, fin0, bad0, hbd, hnd, e2]
                omega
            rw [chkf_eq, if_pos ho]
            exact chkL_none (fun u hu => (hx.i u hu).c)
          · rw [tdepth_eq, if_pos (show x.val.k = 8 ∨ x.val.k = 9 from hx.k)]
            have hlt := hx.lt
            have h3 := tdepthL_le (l := x.is) (n := d - (q.length + 1)) (fun u hu => by have := (hx.i u hu).d; omega)
            show tdepthL x.is + 1 + q.length ≤ d
            omega
      rw [if_neg hn] at hs
      by_cases h8 : x.k = 8
      · rw [if_pos h8] at hs
        injection hs with hs
        subst hs
        exact ⟨ht, ⟨⟨hx.lt, hx.k, hx.l, (fun e => by rw [h8] at e; cases e), hx.i, hx.r, hx.b⟩, hq⟩, fun v e => by cases e⟩
      rw [if_neg h8] at hs
      have h9 : x.k = 9 := hx.k.resolve_left h8
      by_cases h0 : rtake 1 (decide ((x :: q).length = d)) x.ks (b.drop p) ≠ 0
      · rw [if_pos h0] at hs; cases hs
      rw [if_neg h0] at hs
      have h1 : rtake 1 (decide ((x :: q).length = d)) x.ks (b.drop p) = 0 := Decidable.not_not.1 h0
      obtain ⟨hlk, -⟩ := rtake_look h1
      obtain ⟨m3, hbd⟩ := fit_key hlk
      have hri := take_rise h1
      have hbl := body_len hlk (.inr m3)
      have hbb := body_byte hby
      rw [ht, item_back hby h1] at htk
      injection hs with hs
      subst hs
      refine ⟨?_, ⟨⟨hx.lt, hx.k, fun e => absurd e h8, fun e => ?_, hx.i, fun i s s' e1 e2 => ?_, fun s hs2 => ?_⟩, hq⟩, fun v e => by cases e⟩
      · show b.take (p + rused (b.drop p)) = (spre q ++ npre ⟨x.k, x.ks ++ [nstr (rbody (b.drop p))], x.is, x.n⟩) ++ []
        rw [htk, if_neg (by omega), m3, ← hbl, List.append_nil]
        show ((spre q ++ npre x) ++ []) ++ _ = _
        rw [List.append_nil, List.append_assoc]
        congr 1
        unfold npre
        dsimp only
        rw [if_neg h8, if_neg h8, if_neg h8, List.append_assoc, tfmK_key _ (by simpa [lmore] using hx.m h9)]
        congr 2
        unfold kfm
        rw [sl_nstr hbb]
      · show (x.ks ++ [nstr (rbody (b.drop p))]).length = x.is.length + 1
        have := hx.m h9
        rw [List.length_append, List.length_singleton, this]
        rfl
      · have hlt := (List.getElem?_eq_some_iff.1 e2).1
        dsimp only at e1 e2 hlt
        rw [List.length_append, List.length_singleton] at hlt
        rw [List.getElem?_append_left (by omega)] at e1
        by_cases hj : i + 1 < x.ks.length
        · rw [List.getElem?_append_left hj] at e2
          exact hx.r i s s' e1 e2
        · have hj2 : i + 1 = x.ks.length := by omega
          have e3 : s' = nstr (rbody (b.drop p)) := by
            rw [hj2] at e2
            simpa using e2.symm
          unfold rrise at hri
          rw [List.getLast?_eq_getElem?, show x.ks.length - 1 = i by omega, e1] at hri
          rw [e3]
          exact hri
      · rcases List.mem_append.1 hs2 with e | e
        · exact hx.b s e
        · simp only [List.mem_singleton] at e
          rw [e]
          exact hbd
/-- What is read is a tree within the depth, its maps sorted, whose form is just these bytes. -/
theorem mrun_back {b : List Nat} {d : Nat} (hb : ∀ x ∈ b, x < 256) (hd : d ≤ 1024) : ∀ {n : Nat} {s : Mst} {r : Res}, mrun b d n s = some r → Inv8 b d s → Bk8 b d s → r.e = 0 → b.take r.p = tfm r.v ∧ Gd d 0 r.v
  | 0, _, _, h, _, _, _ => by cases h
  | n + 1, s, r, h, hi, hk, he => by
    cases hs : mstep b d s with
    | inl s' =>
      rw [mrun_next hs] at h
      exact mrun_back hb hd h (hi.step (fun p => (hrd_bd8 _ (fun x hx => hb x (List.mem_of_mem_drop hx)))) hs).1 (hk.step hb hd hi hs) he
    | inr r' =>
      rw [mrun_end hs] at h
      injection h with h
      subst h
      obtain ⟨lab, p, st⟩ := s
      obtain ⟨ht, hg, hv⟩ := hk
      simp only at ht hg hv
      revert hs
      cases lab with
      | plain =>
        unfold mstep
        dsimp only
        by_cases h0 : rtake 0 (decide (st.length = d)) [] (b.drop p) ≠ 0
        · rw [if_pos h0]
          intro h
          injection h with h
          rw [← h] at he
          exact absurd he h0
        · rw [if_neg h0]
          repeat' split
          all_goals (intro h; cases h)
      | name =>
        unfold mstep
        dsimp only
        by_cases h0 : rtake 2 (decide (st.length = d)) [] (b.drop p) ≠ 0
        · rw [if_pos h0]
          intro h
          injection h with h
          rw [← h] at he
          exact absurd he h0
        · rw [if_neg h0]
          intro h; cases h
      | done v =>
        cases st with
        | nil =>
          intro h
          injection h with h
          subst h
          exact ⟨ht, hv v rfl⟩
        | cons x q => intro h; cases h
      | inside =>
        cases st with
        | nil => exact absurd rfl (hi.i rfl)
        | cons x q =>
          unfold mstep
          dsimp only
          split
          · intro h; cases h
          split
          · intro h; cases h
          by_cases h0 : rtake 1 (decide ((x :: q).length = d)) x.ks (b.drop p) ≠ 0
          · rw [if_pos h0]
            intro h
            injection h with h
            rw [← h] at he
            exact absurd he h0
          · rw [if_neg h0]
            intro h; cases h
end
end Go.Proofs.YtadilnmkjcmnnaaGreatDoor

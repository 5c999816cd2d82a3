import Derived.Test.YtnkghcndaafmoaaGreatDoorJqy
import Derived.Test.YtnkghcndaafmoaaGreatDoorJqak
import Derived.Test.YtnkghcndaafmoaaGreatDoorJqt
import Derived.Test.YtnkghcndaafmoaaGreatDoorSlcl
import Derived.Test.YtnkghcndaafmoaaGreatDoorJql
namespace Go.Proofs.YtnkghcndaafmoaaGreatDoor
section
open Go.RowKit Go
structure DelP (w : World) (g B r : Nat) (L : List Blk) (l : Lk) (e : Ending) (w' : World) : Prop where
  e : e = .returned (.bool (atB L l).isSome)
  s : Sto w' g B r (delB L l)
  k : Kp (fun q => q = g ∨ q = B) w w'
set_option maxRecDepth 1000000 in
set_option maxHeartbeats 2000000 in
theorem delete13_any (w : World) (g B r : Nat) (L : List Blk) (hS : Sto w g B r L) (l : Lk) (hl : Lkx l) : Calls Tryz.prog 21 #[.pointer (some ⟨g, 0, none⟩), .agg (lcs l)] w (DelP w g B r L l) := by
  have HS := hide hS
  have HL := hide hl
  have HT : Hid ((w.alloc (.cells #[.int .i64 l.v, .int .u64 (l.c : Nat), .int .u64 (l.h : Nat), .string (nstr l.d)] 41)).heap[w.heap.size]? = some (.cells (lcs l) 41 (0, 0))) := heap_alloc_new w _
  have HB0 := hide (below_alloc4 w (.cells #[.int .i64 l.v, .int .u64 (l.c : Nat), .int .u64 (l.h : Nat), .string (nstr l.d)] 41))
  clear hS hl
  unfold lcs
  go_enter_defers Tryz.func21, Tryz.ntmps21
  go_upto_region 1 with fail
  generalize w.alloc (.cells #[.int .i64 l.v, .int .u64 (l.c : Nat), .int .u64 (l.h : Nat), .string (nstr l.d)] 41) = w1 at *
  have HS1 := hide (HS.out.next HB0.out)
  have hlk := HS1.out.lock
  have HE := hide hlk.1
  have HK1 := hide hlk.2
  have c1 : w1.cell? ⟨g, 1, none⟩ = some (.int .i32 0) := blk_cell (j := 1) HS1.out.c rfl
  have f1 := blk_frozen 1 HS1.out.c
  have hgz : g < w.heap.size := blk_lt HS.out.c
  have hBz : B < w.heap.size := HS.out.m.lt
  clear hlk
  go_upto_region 3 with (go_at_call 43; refine (lockFree ⟨g, 1, none⟩ _ c1 f1).mono ?_; rintro e w' ⟨rfl, rfl⟩)
  generalize w1.setCell ⟨g, 1, none⟩ (.int .i32 1) = w2 at *
  clear c1 f1
  have HT2 : Hid (w2.heap[w.heap.size]? = some (.cells (lcs l) 41 (0, 0))) := (HK1.out.block _ (blk_lt HT.out) (by omega)).trans HT.out
  have HK2 : Hid (Kp (fun q => q = g) w w2) := (Kp.of_below HB0.out).trans HK1.out (fun _ _ e => e)
  obtain ⟨q, hq⟩ : ∃ q, (atB L l).getD [] = q := ⟨_, rfl⟩
  obtain ⟨f, hf⟩ : ∃ f, (atB L l).isSome = f := ⟨_, rfl⟩
  have HQ := hide hq
  have HFF := hide hf
  have hlk : (Instr.lookup 105 (.map (some B)) (.agg #[.int .i64 l.v, .int .u64 (l.c : Nat), .int .u64 (l.h : Nat), .string (nstr l.d)]) true).run Tryz.prog w2.drew = .ok (.tuple #[.agg #[.string (nstr q)], .bool f]) w2.drew := by
    have h := (HE.out.m.block (w' := w2.drew) rfl).look HL.out
    rw [HQ.out, HFF.out] at h
    exact h
  have hlk2 : (Instr.lookup 105 (.map (some B)) (.agg #[.int .i64 l.v, .int .u64 (l.c : Nat), .int .u64 (l.h : Nat), .string (nstr l.d)]) true).run Tryz.prog (w2.alloc (.cells #[.string ⟨#[]⟩] 130)).drew = .ok (.tuple #[.agg #[.string (nstr q)], .bool f]) (w2.alloc (.cells #[.string ⟨#[]⟩] 130)).drew := by
    have h := ((HE.out.m.next (below_alloc4 w2 _)).block (w' := (w2.alloc (.cells #[.string ⟨#[]⟩] 130)).drew) rfl).look HL.out
    rw [HQ.out, HFF.out] at h
    exact h
  have d0 : w2.cell? ⟨w.heap.size, 0, none⟩ = some (.int .i64 l.v) := blk_cell (j := 0) HT2.out rfl
  have d1 : w2.cell? ⟨w.heap.size, 1, none⟩ = some (.int .u64 (l.c : Nat)) := blk_cell (j := 1) HT2.out rfl
  have d2 : w2.cell? ⟨w.heap.size, 2, none⟩ = some (.int .u64 (l.h : Nat)) := blk_cell (j := 2) HT2.out rfl
  have d3 : w2.cell? ⟨w.heap.size, 3, none⟩ = some (.string (nstr l.d)) := blk_cell (j := 3) HT2.out rfl
  have s3 : w2.cell? ⟨g, 3, none⟩ = some (.map (some B)) := blk_cell (j := 3) HE.out.c rfl
  have l1 : w.heap.size < w2.heap.size := blk_lt HT2.out
  have l2 : g < w2.heap.size := blk_lt HE.out.c
  clear hq hf HS1 HK1 HB0 HT
  go_cut [5, 6] from 14 to 36 (fun a b wx => a = .pointer (some ⟨w2.heap.size, 0, none⟩) ∧ b = .bool f ∧ wx = (w2.alloc (.cells #[.string (nstr q)] 130)).drew)
  case first => as_aux_lemma =>
    go_region
    all_goals (go_wp2_with fail; go_meet; exact ⟨rfl, rfl, rfl⟩)
  case rest =>
    obtain ⟨rfl, rfl, rfl⟩ := hcut
    have HB3 : Hid (Below w2.heap.size w2 (w2.alloc (.cells #[.string (nstr q)] 130)).drew) := (below_alloc4 w2 _).drew
    have HA3 : Hid ((w2.alloc (.cells #[.string (nstr q)] 130)).drew.heap[w2.heap.size]? = some (.cells #[.string (nstr q)] 130 (0, 0))) := heap_alloc_new w2 _
    clear hlk hlk2 d0 d1 d2 d3 s3
    generalize (w2.alloc (.cells #[.string (nstr q)] 130)).drew = w3 at *
    have HE3 := hide (HE.out.next HB3.out)
    have HT3 : Hid (w3.heap[w.heap.size]? = some (.cells (lcs l) 41 (0, 0))) := (HB3.out.block _ (blk_lt HT2.out)).trans HT2.out
    have HK3 : Hid (Kp (fun q => q = g) w w3) := HK2.out.trans (Kp.of_below (S := fun _ => False) HB3.out) (fun _ _ h => h.elim)
    clear HE HT2 HK2 HB3
    go_upto_region 4 with fail
    have s3 : ∀ t : Ext w3, t.w'.cell? ⟨g, 3, none⟩ = some (.map (some B)) := fun t => Ext.cell (blk_cell (j := 3) HE3.out.c rfl) t
    have d0 : ∀ t : Ext w3, t.w'.cell? ⟨w.heap.size, 0, none⟩ = some (.int .i64 l.v) := fun t => Ext.cell (blk_cell (j := 0) HT3.out rfl) t
    have d1 : ∀ t : Ext w3, t.w'.cell? ⟨w.heap.size, 1, none⟩ = some (.int .u64 (l.c : Nat)) := fun t => Ext.cell (blk_cell (j := 1) HT3.out rfl) t
    have d2 : ∀ t : Ext w3, t.w'.cell? ⟨w.heap.size, 2, none⟩ = some (.int .u64 (l.h : Nat)) := fun t => Ext.cell (blk_cell (j := 2) HT3.out rfl) t
    have d3 : ∀ t : Ext w3, t.w'.cell? ⟨w.heap.size, 3, none⟩ = some (.string (nstr l.d)) := fun t => Ext.cell (blk_cell (j := 3) HT3.out rfl) t
    refine region_ext_tail 5 (by kernel_rfl) (by kernel_rfl) ?_
    simp only [List.take_succ_cons, List.take_zero, List.drop_succ_cons, List.drop_zero]
    repeat (
      with_reducible refine wpQuiet_step (fun K hK => ?_)
      go_simp
      with_reducible refine hK _ ?_
      clear hK K)
    refine wpQuiet_nil ?_
    rintro _ ⟨t5, rfl⟩
    have HM5 := hide (HE3.out.m.next t5.h)
    have HG5 : Hid (t5.w'.heap[g]? = some (.cells (stc r 1 B (szB L)) 118 (0, 0))) := (t5.h.block _ (blk_lt HE3.out.c)).trans HE3.out.c
    have HA5 : Hid (t5.w'.heap[w2.heap.size]? = some (.cells #[.string (nstr q)] 130 (0, 0))) := (t5.h.block _ (blk_lt HA3.out)).trans HA3.out
    have HK5 : Hid (Kp (fun q => q = g ∨ q = B) w t5.w') := (HK3.out.mono (fun _ _ e => .inl e)).trans (Kp.of_below (S := fun _ => False) t5.h) (fun _ _ h => h.elim)
    generalize t5.w' = w5 at *
    clear s3 d0 d1 d2 d3 HE3 HT3 HA3 HK3
    go_upto_region 5 with (refine wpList_delB (B := B) (L := L) (l := l) rfl rfl rfl rfl HM5.out HL.out ?_; intro w6 hM6 hK6 hz6)
    have HM6 := hide hM6
    have HG6 : Hid (w6.heap[g]? = some (.cells (stc r 1 B (szB L)) 118 (0, 0))) := (hK6.block _ (blk_lt HG5.out) (HM5.out.ne HG5.out)).trans HG5.out
    have HA6 : Hid (w6.heap[w2.heap.size]? = some (.cells #[.string (nstr q)] 130 (0, 0))) := (hK6.block _ (blk_lt HA5.out) (HM5.out.ne HA5.out)).trans HA5.out
    have HK6 : Hid (Kp (fun q => q = g ∨ q = B) w w6) := HK5.out.trans hK6 (fun _ _ e => .inr e)
    clear hM6 hK6 hz6 HM5 HG5 HA5 HK5
    have HQB : Hid (∀ y ∈ q, y < 256) := qb_of HQ.out (fun b hb => (HS.out.m.ok _ (atB_mem hb)).b)
    have HQ6 : Hid (q.length ≤ 67108864) := ql_of HQ.out (fun b hb => (HS.out.m.ok _ (atB_mem hb)).n)
    have hqs : ((nstr q).size : Int) = (q.length : Int) := by rw [nstr_size HQB.out]
    obtain ⟨y, hy⟩ : ∃ y : Int, -(q.length : Int) = y := ⟨_, rfl⟩
    have wr1 : IntKind.i64.wrap (-((nstr q).size : Int)) = y := by have h2 := HQ6.out; rw [IntKind.wrap_i64, hqs]; omega
    have HSZ : Hid (((szB L : Nat) : Int) + y = szB (delB L l)) := by
      have h1 := sz_del HS.out.m.nd l
      rw [HQ.out] at h1
      show _ = _
      omega
    have a0 : ∀ t : Ext w6, t.w'.cell? ⟨w2.heap.size, 0, none⟩ = some (.string (nstr q)) := fun t => Ext.cell (blk_cell (j := 0) HA6.out rfl) t
    clear hqs hy
    refine region_ext_tail 7 (by kernel_rfl) (by kernel_rfl) ?_
    simp only [List.take_succ_cons, List.take_zero, List.drop_succ_cons, List.drop_zero]
    repeat (
      with_reducible refine wpQuiet_step (fun K hK => ?_)
      go_simp
      with_reducible refine hK _ ?_
      clear hK K)
    refine wpQuiet_nil ?_
    rintro _ ⟨t7, rfl⟩
    have HM7 := hide (HM6.out.next t7.h)
    have HG7 : Hid (t7.w'.heap[g]? = some (.cells (stc r 1 B (szB L)) 118 (0, 0))) := (t7.h.block _ (blk_lt HG6.out)).trans HG6.out
    have HK7 : Hid (Kp (fun q => q = g ∨ q = B) w t7.w') := HK6.out.trans (Kp.of_below (S := fun _ => False) t7.h) (fun _ _ h => h.elim)
    generalize t7.w' = w7 at *
    clear a0 HM6 HG6 HA6 HK6 wr1
    have HN : Hid ((delB L l).length ≤ r) := by
      have h1 := len_del HS.out.m.nd l
      have h2 := HS.out.n
      show _ ≤ _
      omega
    have HSB : Hid (-9223372036854775808 ≤ ((szB L : Nat) : Int) + y ∧ ((szB L : Nat) : Int) + y ≤ 9223372036854775807) := by
      have h1 := sz_le (fun p hp => (HM7.out.ok p hp).n)
      have h2 := HSZ.out
      have h3 := HN.out
      have h4 := HS.out.h.2
      show _ ∧ _
      rw [h2]
      omega
    have HAD := hide (add64_any ⟨g, 4, none⟩ (szB L) y w7 (blk_cell (j := 4) HG7.out rfl) (blk_frozen 4 HG7.out) HSB.out)
    go_upto_region 6 with (go_at_call 45; refine HAD.out.mono ?_; rintro e w8 ⟨rfl, rfl⟩)
    have hk8 : Kp (fun q => q = g) w7 (w7.setCell ⟨g, 4, none⟩ (.int .i64 ((szB L : Nat) + y))) := (Kp.refl _ w7).setCell _ _ (fun _ => rfl)
    have HZE : Hid (Stl (w7.setCell ⟨g, 4, none⟩ (.int .i64 ((szB L : Nat) + y))) g B r ((szB L : Nat) + y) (delB L l)) := ⟨by have := blk_set 4 (.int .i64 ((szB L : Nat) + y)) HG7.out; rw [stc_set4] at this; exact this, HM7.out.kp hk8 (fun e => HM7.out.ne HG7.out e.symm)⟩
    have HKE : Hid (Kp (fun q => q = g ∨ q = B) w (w7.setCell ⟨g, 4, none⟩ (.int .i64 ((szB L : Nat) + y)))) := HK7.out.trans hk8 (fun _ _ e => .inl e)
    generalize w7.setCell ⟨g, 4, none⟩ (.int .i64 ((szB L : Nat) + y)) = w8 at *
    clear hk8 HG7 HK7 HM7 HAD
    go_wp2_with fail
    refine leaves_cons (f := 44) (args := #[.pointer (some ⟨g, 1, none⟩)]) (by simp) (by simp [go_sem]) ?_
    refine (unlockLate ⟨g, 1, none⟩ .returning _ (blk_cell (j := 1) HZE.out.c rfl) (blk_frozen 1 HZE.out.c)).mono ?_
    rintro e u' w'' ⟨rfl, rfl, rfl⟩
    have hu := HZE.out.unlock HSZ.out HS.out.h HN.out
    have HP : DelP w g B r L l (.returned (.bool f)) (w8.setCell ⟨g, 1, none⟩ (.int .i32 0)) := ⟨by rw [HFF.out], hu.1, HKE.out.trans hu.2 (fun _ _ e => .inl e)⟩
    refine ⟨.bool f, (results_tmp (t := 4) rfl _ _ _).trans ?_, HP⟩
    rfl
end
section
open Go.RowKit Go
section
variable {P : Program} {ops : Array Oper} {Q : Exit → Act → World → Prop} {md : Region.Mode} {k : Nat} {B : World → Prop}
def wpAnyK (P : Program) (md : Region.Mode) (ops : Array Oper) (Q : Exit → Act → World → Prop) (k : Nat) (B : World → Prop) : Nat → Array Bool → Act → World → Prop
  | 0, listed, a, w => Region.ready md ops listed = [] ∧ Q .normal a w
  | fuel + 1, listed, a, w =>
    (Region.ready md ops listed = [] → Q .normal a w) ∧
    ∀ i ∈ Region.ready md ops listed, wpOp P ops Q i (fun a' w' => ((listed.setIfInBounds i true).getD k true = false → B w') ∧ wpAnyK P md ops Q k B fuel (listed.setIfInBounds i true) a' w') a w
theorem wpAny_of_heldK : ∀ (fuel : Nat) (listed : Array Bool) (a : Act) (w : World), wpAnyK P md ops Q k B fuel listed a w → wpAny P md ops Q fuel listed a w
  | 0, _, _, _, h => h
  | fuel + 1, _, _, _, h => ⟨h.1, fun i hi => wpOp_mono (fun a' w' h' => wpAny_of_heldK fuel _ a' w' h'.2) (h.2 i hi)⟩
def waitsB (md : Region.Mode) (ops : Array Oper) (i : Nat) (D : List Nat) : Bool := D.all fun d => match ops[d]? with
  | none => false
  | some od => od.after.any fun e => Region.binds md e && (e.on == i || D.contains e.on)
theorem waits_spec {i : Nat} {D : List Nat} (h : waitsB md ops i D = true) {d : Nat} (hd : d ∈ D) {od : Oper} (ho : ops[d]? = some od) : ∃ e ∈ od.after, Region.binds md e = true ∧ (e.on = i ∨ e.on ∈ D) := by
  have h1 := List.all_eq_true.1 h d hd
  rw [ho] at h1
  simp only [Array.any_eq_true] at h1
  obtain ⟨n, hn, h2⟩ := h1
  rw [Bool.and_eq_true, Bool.or_eq_true] at h2
  refine ⟨_, Array.getElem_mem hn, h2.1, ?_⟩
  rcases h2.2 with h3 | h3
  · exact .inl (by simpa using h3)
  · exact .inr (by simpa using h3)
theorem wpAnyK_first {i : Nat} {oi : Oper} {v : Value} {D : List Nat} {S : World → Prop} (hik : i ≠ k) (hi : ops[i]? = some oi) (hsel : ∀ (j : Nat) (o : Oper) cs b, ops[j]? = some o → o.op ≠ .select cs b)
    (hQ : ∀ c a w, Q (.panic c) (a.put oi.dst v) w → Q (.panic c) a w) (hD : waitsB md ops i D = true) (hS : (∀ w, S w) ∨ (k ∈ D ∧ ∀ w, B w → S w)) :
    ∀ (fuel : Nat) (listed : Array Bool) (a : Act) (w : World),
      (∀ j oj, ops[j]? = some oj → j ≠ i → listed.getD j true = false → (∀ e ∈ oj.after, Region.binds md e = true → e.on ≠ i) → oi.apart ops oj = true) →
      i ∈ Region.ready md ops listed → (∀ d ∈ D, listed.getD d true = false) → YieldsIf P ops S oi v a → S w → (listed.getD k true = false → B w) →
      wpAnyK P md ops Q k B fuel (listed.setIfInBounds i true) (a.put oi.dst v) w → wpAnyK P md ops Q k B (fuel + 1) listed a w := by
  intro fuel
  induction fuel with
  | zero =>
    intro listed a w _ hr hl hy hw hb H
    refine ⟨fun h => (by rw [h] at hr; cases hr), fun j hj => ?_⟩
    by_cases hji : j = i
    · subst hji; exact hy.wpOp hi hw ⟨fun hk => hb (by rw [getD_set_ne true hik] at hk; exact hk), H⟩
    · have := ready_mono hj hji
      rw [H.1] at this
      cases this
  | succ fuel ih =>
    intro listed a w hfree hr hl hy hw hb H
    refine ⟨fun h => (by rw [h] at hr; cases hr), fun j hj => ?_⟩
    by_cases hji : j = i
    · subst hji; exact hy.wpOp hi hw ⟨fun hk => hb (by rw [getD_set_ne true hik] at hk; exact hk), H⟩
    · have h1 := H.2 j (ready_mono hj hji)
      obtain ⟨hjun, oj, hoj, hall⟩ := mem_ready.1 hj
      have hnot : ∀ e ∈ oj.after, Region.binds md e = true → e.on ≠ i := fun e he hb heq => by
        have h1 := hall e he hb
        have h0 := (mem_ready.1 hr).1
        rw [heq] at h1
        rcases Nat.lt_or_ge i listed.size with h' | h'
        · simp [h'] at h0 h1; rw [h0] at h1; cases h1
        · simp [Array.getElem?_eq_none h'] at h1
      have hjD : j ∉ D := fun hm => by
        obtain ⟨e, he, hb2, h3⟩ := waits_spec hD hm hoj
        rcases h3 with h3 | h3
        · exact hnot e he hb2 h3
        · have h4 := hall e he hb2
          have h5 := hl e.on h3
          rcases Nat.lt_or_ge e.on listed.size with h' | h'
          · simp [h'] at h4 h5; rw [h5] at h4; cases h4
          · simp [Array.getElem?_eq_none h'] at h4
      have h2 := wpOp_putIf hoj (hfree j oj hoj hji hjun hnot) (fun cs b => hsel i oi cs b hi) (fun cs b => hsel j oj cs b hoj) hQ hy h1
      have hfree' : ∀ k ok, ops[k]? = some ok → k ≠ i → (listed.setIfInBounds j true).getD k true = false →
          (∀ e ∈ ok.after, Region.binds md e = true → e.on ≠ i) → oi.apart ops ok = true := fun k ok hk hki hun hno => by
        refine hfree k ok hk hki ?_ hno
        by_cases hjk : j = k
        · subst hjk; exact hjun
        · rw [getD_set_ne true hjk] at hun; exact hun
      have hl' : ∀ d ∈ D, (listed.setIfInBounds j true).getD d true = false := fun d hd => by
        rw [getD_set_ne true (fun e => hjD (by rw [e]; exact hd))]
        exact hl d hd
      have eC : (listed.setIfInBounds i true).setIfInBounds j true = (listed.setIfInBounds j true).setIfInBounds i true := (Array.setIfInBounds_comm _ _ (fun e => hji e.symm))
      refine wpOp_mono (fun a' w' h3 => ?_) h2
      obtain ⟨h4, h5, h6⟩ := h3
      rw [eC] at h5 h6
      have hb' : (listed.setIfInBounds j true).getD k true = false → B w' := fun hk => h5 (by rw [getD_set_ne true hik]; exact hk)
      refine ⟨hb', ih (listed.setIfInBounds j true) a' w' hfree' (ready_mono hr (Ne.symm hji)) hl' h4 ?_ hb' h6⟩
      rcases hS with hS | ⟨hk, hS⟩
      · exact hS w'
      · exact hS w' (hb' (hl' k hk))
end
section
variable {P : Program} {Q : Exit → Act → World → Prop} {k : Nat} {B : World → Prop} {l : List Oper} {fuel : Nat} {listed : Array Bool} {a : Act} {w : World}
theorem kStart {id : Nat} (k n : Nat) (B : World → Prop) (hn : l.length = n) (hm : P.follows .mixedOrders = true) (h : wpAnyK P .any l.toArray Q k B n (Array.replicate n false) a w.drew) : (Code.region id l.toArray true).wp P Q a w := by
  refine wp_region_any hm (wpAny_of_heldK _ _ _ _ (k := k) (B := B) ?_)
  have e : l.toArray.size = n := by simpa using hn
  rw [e]
  exact h
theorem kTake (i : Nat) {oi : Oper} (v : Value) (hik : i ≠ k) (hi : l[i]? = some oi) (hs : Region.noSelect l.toArray = true) (hf : Region.free .any l.toArray listed i = true) (hr : (Region.ready .any l.toArray listed).contains i = true)
    (hQ : ∀ c a w, Q (.panic c) (a.put oi.dst v) w → Q (.panic c) a w) (hw : Region.wanted oi (yielded l.toArray a.tmps) = true) (hy : ∀ w, (execOp a.eval oi).run P w = .ok (.value v) w) (hB : listed.getD k true = false → B w)
    (h : wpAnyK P .any l.toArray Q k B fuel (listed.setIfInBounds i true) (a.put oi.dst v) w) : wpAnyK P .any l.toArray Q k B (fuel + 1) listed a w :=
  wpAnyK_first (D := []) (S := fun _ => True) hik (by simpa using hi) (Region.noSelect_spec hs) hQ rfl (.inl fun _ => trivial) fuel listed a w (Region.free_spec (by simpa using hi) hf) (by simpa using hr) (fun _ h => by cases h) (.inl ⟨hw, fun w _ => hy w⟩) trivial hB h
theorem kLoad (i : Nat) (D : List Nat) {oi : Oper} (v : Value) (hik : i ≠ k) (hi : l[i]? = some oi) (hs : Region.noSelect l.toArray = true) (hf : Region.free .any l.toArray listed i = true) (hr : (Region.ready .any l.toArray listed).contains i = true) (hD : (waitsB .any l.toArray i D && D.contains k && D.all fun d => !listed.getD d true) = true)
    (hQ : ∀ c a w, Q (.panic c) (a.put oi.dst v) w → Q (.panic c) a w) (hw : Region.wanted oi (yielded l.toArray a.tmps) = true) (hB : B w) (hy : ∀ w, B w → (execOp a.eval oi).run P w = .ok (.value v) w)
    (h : wpAnyK P .any l.toArray Q k B fuel (listed.setIfInBounds i true) (a.put oi.dst v) w) : wpAnyK P .any l.toArray Q k B (fuel + 1) listed a w := by
  rw [Bool.and_eq_true, Bool.and_eq_true] at hD
  exact wpAnyK_first (D := D) (S := B) hik (by simpa using hi) (Region.noSelect_spec hs) hQ hD.1.1 (.inr ⟨by simpa using hD.1.2, fun _ h => h⟩) fuel listed a w (Region.free_spec (by simpa using hi) hf) (by simpa using hr) (fun d hd => by have := List.all_eq_true.1 hD.2 d hd; simpa using this) (.inl ⟨hw, hy⟩) hB (fun _ => hB) h
theorem kStep (i : Nat) {oi : Oper} (hi : l[i]? = some oi) (hr : Region.ready .any l.toArray listed = [i])
    (h : ∀ K : Act → World → Prop, Hid (∀ a w, ((listed.setIfInBounds i true).getD k true = false → B w) → wpAnyK P .any l.toArray Q k B fuel (listed.setIfInBounds i true) a w → K a w) → if Region.wanted oi (yielded l.toArray a.tmps) = true then Oper.wp P oi a w K Q else K (a.put oi.dst undef) w) : wpAnyK P .any l.toArray Q k B (fuel + 1) listed a w := by
  refine ⟨fun h0 => (by rw [hr] at h0; cases h0), fun j hj => ?_⟩
  rw [hr] at hj
  have e := List.mem_singleton.1 hj
  subst e
  exact wpOp_step (by simpa using hi) (fun K hK => h K (fun a w h1 h2 => hK a w ⟨h1, h2⟩))
theorem kTwo (i j : Nat) {oi oj : Oper} (hi : l[i]? = some oi) (hj : l[j]? = some oj) (hr : Region.ready .any l.toArray listed = [i, j])
    (h : ∀ K : Act → World → Prop, Hid (∀ a w, ((listed.setIfInBounds i true).getD k true = false → B w) → wpAnyK P .any l.toArray Q k B fuel (listed.setIfInBounds i true) a w → K a w) → if Region.wanted oi (yielded l.toArray a.tmps) = true then Oper.wp P oi a w K Q else K (a.put oi.dst undef) w)
    (h2 : ∀ K : Act → World → Prop, Hid (∀ a w, ((listed.setIfInBounds j true).getD k true = false → B w) → wpAnyK P .any l.toArray Q k B fuel (listed.setIfInBounds j true) a w → K a w) → if Region.wanted oj (yielded l.toArray a.tmps) = true then Oper.wp P oj a w K Q else K (a.put oj.dst undef) w) : wpAnyK P .any l.toArray Q k B (fuel + 1) listed a w := by
  refine ⟨fun h0 => (by rw [hr] at h0; cases h0), fun m hm => ?_⟩
  rw [hr] at hm
  rcases List.mem_cons.1 hm with e | hm
  · subst e
    exact wpOp_step (by simpa using hi) (fun K hK => h K (fun a w h1 h2 => hK a w ⟨h1, h2⟩))
  · have e := List.mem_singleton.1 hm
    subst e
    exact wpOp_step (by simpa using hj) (fun K hK => h2 K (fun a w h1 h2 => hK a w ⟨h1, h2⟩))
theorem kDone (hr : Region.ready .any l.toArray listed = []) (h : Q .normal a w) : wpAnyK P .any l.toArray Q k B fuel listed a w := by
  cases fuel with
  | zero => exact ⟨hr, h⟩
  | succ n => exact ⟨fun _ => h, by rw [hr]; simp⟩
end
end
section
open Go.RowKit Go
theorem clone13_any (w : World) (B : Nat) (L : List Blk) (h : Mlb w B L) : Calls Tryz.prog 51 #[.map (some B)] w fun e w' => e = .returned (.map (some w.heap.size)) ∧ Mlb w' w.heap.size L ∧ Below w.heap.size w w' := by
  obtain ⟨h0, h00, D, h1, h2, h3, h4⟩ := h
  have hc := AnyW.maps_Clone_owns Tryz.laysClone 41 blkElem B L.length D w h1
  change Calls Tryz.prog 51 _ _ _ at hc
  exact hc.mono (fun e w' ⟨he, ha, _, hb⟩ => ⟨he, ⟨h0, h00, D, ha, h2, h3, h4⟩, hb⟩)
set_option maxRecDepth 1000000 in
theorem store64_any (a : Addr) (x y : Int) (w : World) (hc : w.cell? a = some (.int .i64 x)) (hz : w.frozen? a = false) : Calls Tryz.prog 52 #[.pointer (some a), .int .i64 y] w fun e w' => e = .returned (.tuple #[]) ∧ w' = w.setCell a (.int .i64 y) := by
  have hst := run_call_store (P := Tryz.prog) Tryz.func88 (by kernel_rfl) (by kernel_rfl) (by kernel_rfl) (by kernel_rfl) (k := .i64) (y := y) hc hz
  obtain ⟨g, o, m⟩ := a
  go_enter Tryz.func52, Tryz.ntmps52
  go_wp2
  first | go_end0 | refine bodyPost_ret (results_none rfl _ _ _) rfl ?_
  exact ⟨rfl, rfl⟩
def noPan (Q : Exit → Act → World → Prop) : Exit → Act → World → Prop
  | .panic _, _, _ => False
  | e, a, w => Q e a w
theorem noPan_le {Q : Exit → Act → World → Prop} {e : Exit} {a : Act} {w : World} (h : noPan Q e a w) : Q e a w := by
  cases e <;> first | exact h | exact h.elim
theorem kStartD {P : Program} {Q : Exit → Act → World → Prop} {l : List Oper} {a : Act} {w : World} {id : Nat} (k n : Nat) (B : World → Prop) (hn : l.length = n) (hm : P.follows .mixedOrders = true) (h : wpAnyK P .any l.toArray (noPan Q) k B n (Array.replicate n false) a w.drew) : (Code.region id l.toArray true).wp P Q a w :=
  Code.wp_mono (fun _ _ _ h => noPan_le h) (kStart k n B hn hm h)
def CpyP (w : World) (g B r : Nat) (L : List Blk) (e : Ending) (w' : World) : Prop := ∃ g2 B2, e = .returned (.pointer (some ⟨g2, 0, none⟩)) ∧ Sto w' g2 B2 r L ∧ Sto w' g B r L ∧ Kp (fun q => q = g) w w' ∧ w.heap.size ≤ g2 ∧ w.heap.size ≤ B2
set_option maxRecDepth 1000000 in
set_option maxHeartbeats 2000000 in
theorem copy13s_any (w : World) (g B r : Nat) (L : List Blk) (hS : Sto w g B r L) : Calls Tryz.prog 25 #[.pointer (some ⟨g, 0, none⟩)] w (CpyP w g B r L) := by
  have HS := hide hS
  have hlk := hS.lock
  have HE := hide hlk.1
  have HK1 := hide hlk.2
  have c1 : w.cell? ⟨g, 1, none⟩ = some (.int .i32 0) := blk_cell (j := 1) HS.out.c rfl
  have f1 := blk_frozen 1 HS.out.c
  have hgz : g < w.heap.size := blk_lt HS.out.c
  clear hlk hS
  go_enter_defers Tryz.func25, Tryz.ntmps25
  go_upto_region 3 with (go_at_call 43; refine (lockFree ⟨g, 1, none⟩ _ c1 f1).mono ?_; rintro e w' ⟨rfl, rfl⟩)
  generalize w.setCell ⟨g, 1, none⟩ (.int .i32 1) = w1 at *
  clear c1 f1
  refine kStartD 11 12 (fun wy => wy.heap[g]? = some (.cells #[.int .i64 (r : Nat), .int .i32 1, .int .u32 0, .map (some B), .int .i64 (szB L : Nat)] 118 (0, 0))) rfl (by kernel_rfl) ?_
  have hbd : Below w1.heap.size w1 w1.drew := by
    refine Below.drew ?_
    exact Below.refl _ _
  have HE2 := hide (HE.out.next hbd)
  have HK2 : Hid (Kp (fun q => q = g) w w1.drew) := HK1.out.trans (Kp.of_below (S := fun _ => False) hbd) (fun _ _ h => h.elim)
  clear hbd HE HK1
  generalize w1.drew = w2 at *
  have hS2 : w2.heap[g]? = some (.cells #[.int .i64 (r : Nat), .int .i32 1, .int .u32 0, .map (some B), .int .i64 (szB L : Nat)] 118 (0, 0)) := HE2.out.c
  refine kTake 0 _ (by decide) rfl (by kernel_rfl) (by kernel_rfl) (by kernel_rfl) (fun _ _ _ h => h) rfl (fun wy => by first | (go_simp; done) | (go_simp; rfl) | rfl) (fun _ => hS2) ?_
  (try simp only [Act.put]); (try simp only [LsA, Ls0, LsS])
  refine kTake 1 _ (by decide) rfl (by kernel_rfl) (by kernel_rfl) (by kernel_rfl) (fun _ _ _ h => h) rfl (fun wy => by first | (go_simp; done) | (go_simp; rfl) | rfl) (fun _ => hS2) ?_
  (try simp only [Act.put]); (try simp only [LsA, Ls0, LsS])
  refine kTake 2 _ (by decide) rfl (by kernel_rfl) (by kernel_rfl) (by kernel_rfl) (fun _ _ _ h => h) rfl (fun wy => by first | (go_simp; done) | (go_simp; rfl) | rfl) (fun _ => hS2) ?_
  (try simp only [Act.put]); (try simp only [LsA, Ls0, LsS])
  refine kLoad 3 [9,10,11] _ (by decide) rfl (by kernel_rfl) (by kernel_rfl) (by kernel_rfl) (by kernel_rfl) (fun _ _ _ h => h) rfl hS2 (fun wy hy => by have hy0 := blk_cell (j := 0) hy rfl; first | (go_simp; done) | (go_simp; rfl) | rfl) ?_
  (try simp only [Act.put]); (try simp only [LsA, Ls0, LsS])
  refine kTake 4 _ (by decide) rfl (by kernel_rfl) (by kernel_rfl) (by kernel_rfl) (fun _ _ _ h => h) rfl (fun wy => by first | (go_simp; done) | (go_simp; rfl) | rfl) (fun _ => hS2) ?_
  (try simp only [Act.put]); (try simp only [LsA, Ls0, LsS])
  refine kTake 5 _ (by decide) rfl (by kernel_rfl) (by kernel_rfl) (by kernel_rfl) (fun _ _ _ h => h) rfl (fun wy => by first | (go_simp; done) | (go_simp; rfl) | rfl) (fun _ => hS2) ?_
  (try simp only [Act.put]); (try simp only [LsA, Ls0, LsS])
  refine kTake 6 _ (by decide) rfl (by kernel_rfl) (by kernel_rfl) (by kernel_rfl) (fun _ _ _ h => h) rfl (fun wy => by first | (go_simp; done) | (go_simp; rfl) | rfl) (fun _ => hS2) ?_
  (try simp only [Act.put]); (try simp only [LsA, Ls0, LsS])
  refine kLoad 7 [8,9,10,11] _ (by decide) rfl (by kernel_rfl) (by kernel_rfl) (by kernel_rfl) (by kernel_rfl) (fun _ _ _ h => h) rfl hS2 (fun wy hy => by have hy0 := blk_cell (j := 3) hy rfl; first | (go_simp; done) | (go_simp; rfl) | rfl) ?_
  (try simp only [Act.put]); (try simp only [LsA, Ls0, LsS])
  have HCL := hide (clone13_any w2 B L HE2.out.m)
  refine kStep 8 rfl (by kernel_rfl) (fun K hK => ?_)
  go_simp
  refine HCL.out.mono ?_
  rintro e w3 ⟨rfl, hm3, hb3⟩
  have HM3 := hide hm3
  have HE3 := hide (HE2.out.next hb3)
  have HK3 : Hid (Kp (fun q => q = g) w w3) := HK2.out.trans (Kp.of_below (S := fun _ => False) hb3) (fun _ _ h => h.elim)
  have HZ3 : Hid (w.heap.size ≤ w2.heap.size) := HK2.out.size
  clear hS2 HE2 HK2 HCL hm3 hb3
  generalize w2.heap.size = B2 at *
  have hS3 : w3.heap[g]? = some (.cells #[.int .i64 (r : Nat), .int .i32 1, .int .u32 0, .map (some B), .int .i64 (szB L : Nat)] 118 (0, 0)) := HE3.out.c
  refine (Hid.out hK) _ _ (fun _ => hS3) ?_
  clear hK K
  (try simp only [Act.put]); (try simp only [LsA, Ls0, LsS])
  refine kTake 9 _ (by decide) rfl (by kernel_rfl) (by kernel_rfl) (by kernel_rfl) (fun _ _ _ h => h) rfl (fun wy => by first | (go_simp; done) | (go_simp; rfl) | rfl) (fun _ => hS3) ?_
  (try simp only [Act.put]); (try simp only [LsA, Ls0, LsS])
  have HB4 := hide (below_alloc4 w3 (.cells #[.int .i64 (r : Nat), .int .i32 0, .int .u32 0, .map (some B2), .int .i64 0] 118))
  have HT4 : Hid ((w3.alloc (.cells #[.int .i64 (r : Nat), .int .i32 0, .int .u32 0, .map (some B2), .int .i64 0] 118)).heap[w3.heap.size]? = some (.cells #[.int .i64 (r : Nat), .int .i32 0, .int .u32 0, .map (some B2), .int .i64 0] 118 (0, 0))) := heap_alloc_new w3 _
  have HM4 := hide (HM3.out.next HB4.out)
  have HE4 := hide (HE3.out.next HB4.out)
  have HK4 : Hid (Kp (fun q => q = g) w (w3.alloc (.cells #[.int .i64 (r : Nat), .int .i32 0, .int .u32 0, .map (some B2), .int .i64 0] 118))) := HK3.out.trans (Kp.of_below (S := fun _ => False) HB4.out) (fun _ _ h => h.elim)
  have HZ4 : Hid (w.heap.size ≤ w3.heap.size) := HK3.out.size
  refine kStep 10 rfl (by kernel_rfl) (fun K hK => ?_)
  go_simp
  have hS4 : (w3.alloc (.cells #[.int .i64 (r : Nat), .int .i32 0, .int .u32 0, .map (some B2), .int .i64 0] 118)).heap[g]? = some (.cells #[.int .i64 (r : Nat), .int .i32 1, .int .u32 0, .map (some B), .int .i64 (szB L : Nat)] 118 (0, 0)) := HE4.out.c
  refine (Hid.out hK) _ _ (fun _ => hS4) ?_
  clear hK K
  (try simp only [Act.put]); (try simp only [LsA, Ls0, LsS])
  refine kStep 11 rfl (by kernel_rfl) (fun K hK => ?_)
  go_simp
  refine (Hid.out hK) _ _ (fun h => absurd h (by decide)) ?_
  clear hK K
  (try simp only [Act.put]); (try simp only [LsA, Ls0, LsS])
  refine kDone (by kernel_rfl) ?_
  simp only [noPan]
  clear hS4 hS3 HM3 HE3 HK3 HB4
  generalize w3.alloc (.cells #[.int .i64 (r : Nat), .int .i32 0, .int .u32 0, .map (some B2), .int .i64 0] 118) = w4 at *
  generalize w3.heap.size = g2 at *
  go_upto_region 4 with fail
  have HLD : Hid (∀ t : Ext w4, Calls Tryz.prog 53 #[.pointer (some ⟨g, 4, none⟩)] t.w' fun e w' => e = .returned (.int .i64 (szB L : Nat)) ∧ ∃ t' : Ext w4, w' = t'.w') := fun t => Calls.ext_same (load64_any ⟨g, 4, none⟩ (szB L) t.w' (Ext.cell (blk_cell (j := 4) HE4.out.c rfl) t))
  refine region_ext_tail 7 (by kernel_rfl) (by kernel_rfl) ?_
  simp only [List.take_succ_cons, List.take_zero, List.drop_succ_cons, List.drop_zero]
  repeat (
    with_reducible refine wpQuiet_step (fun K hK => ?_)
    go_simp
    first
      | (with_reducible refine hK _ ?_; clear hK K)
      | (apply Exists.intro
         refine ⟨fun _ => ?_, hK _ ?_⟩
         (go_at_call 53; exact HLD.out _)
         clear hK K))
  refine wpQuiet_nil ?_
  rintro _ ⟨t5, rfl⟩
  have HT5 : Hid (t5.w'.heap[g2]? = some (.cells #[.int .i64 (r : Nat), .int .i32 0, .int .u32 0, .map (some B2), .int .i64 0] 118 (0, 0))) := (t5.h.block _ (blk_lt HT4.out)).trans HT4.out
  have HM5 := hide (HM4.out.next t5.h)
  have HE5 := hide (HE4.out.next t5.h)
  have HK5 : Hid (Kp (fun q => q = g) w t5.w') := HK4.out.trans (Kp.of_below (S := fun _ => False) t5.h) (fun _ _ h => h.elim)
  clear HT4 HM4 HE4 HK4 HLD
  generalize t5.w' = w5 at *
  have HST := hide (store64_any ⟨g2, 4, none⟩ 0 (szB L : Nat) w5 (blk_cell (j := 4) HT5.out rfl) (blk_frozen 4 HT5.out))
  go_upto_region 5 with (go_at_call 52; refine HST.out.mono ?_; rintro e w6 ⟨rfl, rfl⟩)
  have hgg : g2 ≠ g := by have := HZ4.out; omega
  have hk6 : Kp (fun q => q = g2) w5 (w5.setCell ⟨g2, 4, none⟩ (.int .i64 (szB L : Nat))) := (Kp.refl _ w5).setCell _ _ (fun _ => rfl)
  have HS6 : Hid (Sto (w5.setCell ⟨g2, 4, none⟩ (.int .i64 (szB L : Nat))) g2 B2 r L) := ⟨blk_set 4 (.int .i64 (szB L : Nat)) HT5.out, HM5.out.kp hk6 (fun e => HM5.out.ne HT5.out e.symm), HS.out.h, HS.out.n⟩
  have HE6 : Hid (Stl (w5.setCell ⟨g2, 4, none⟩ (.int .i64 (szB L : Nat))) g B r (szB L) L) := ⟨(hk6.block _ (blk_lt HE5.out.c) (fun e => hgg e.symm)).trans HE5.out.c, HE5.out.m.kp hk6 (fun e => HE5.out.m.ne HT5.out e.symm)⟩
  have HK6 : Hid (Kp (fun q => q = g) w (w5.setCell ⟨g2, 4, none⟩ (.int .i64 (szB L : Nat)))) := HK5.out.trans hk6 (fun q hq e => by have := HZ4.out; omega)
  clear hk6 HT5 HM5 HE5 HK5 HST
  generalize w5.setCell ⟨g2, 4, none⟩ (.int .i64 (szB L : Nat)) = w6 at *
  go_wp2_with fail
  refine leaves_cons (f := 44) (args := #[.pointer (some ⟨g, 1, none⟩)]) (by simp) (by simp [go_sem]) ?_
  refine (unlockLate ⟨g, 1, none⟩ .returning _ (blk_cell (j := 1) HE6.out.c rfl) (blk_frozen 1 HE6.out.c)).mono ?_
  rintro e u' w'' ⟨rfl, rfl, rfl⟩
  have hu := HE6.out.unlock rfl HS.out.h HS.out.n
  have HP : CpyP w g B r L (.returned (.pointer (some ⟨g2, 0, none⟩))) (w6.setCell ⟨g, 1, none⟩ (.int .i32 0)) := ⟨g2, B2, rfl, ⟨(((Kp.refl (fun q => q = g) w6).setCell ⟨g, 1, none⟩ (.int .i32 0) (fun _ => rfl)).block _ (blk_lt HS6.out.c) hgg).trans HS6.out.c, HS6.out.m.kp ((Kp.refl (fun q => q = g) w6).setCell ⟨g, 1, none⟩ (.int .i32 0) (fun _ => rfl)) (fun e => HS6.out.m.ne HE6.out.c e.symm), HS.out.h, HS.out.n⟩, hu.1, HK6.out.trans hu.2 (fun _ _ e => e), HZ4.out, HZ3.out⟩
  refine ⟨.pointer (some ⟨g2, 0, none⟩), (results_tmp (t := 2) rfl _ _ _).trans ?_, HP⟩
  rfl
end
section
open Go.RowKit Go
theorem infoBk13 : (Tryz.prog.info? 60).map (fun i => (i.zero, i.size, i.bytes)) = some (some (.agg #[.int .i64 0, .int .u64 0, .int .u64 0, .string ⟨#[]⟩, .slice none 0 0]), 5, 64) := by kernel_rfl
structure Suv (A : Nat) (w : World) (v : Value) (Cs : List (Array Value)) (S : List Blk) : Prop where
  o : w.ownsRow A 60 5 v Cs.length (gfl Cs)
  n : Cs.length = S.length
  e : ∀ (i : Nat) (p : Blk) (c : Array Value), S[i]? = some p → Cs[i]? = some c → ∃ vb, c = bcs p vb ∧ Byv A w vb p.2
  x : ∀ p ∈ S, Lkx p.1 ∧ p.2.length ≤ 140737488351232
theorem Suv.kp {S : Nat → Prop} {A : Nat} {w w' : World} {v : Value} {Cs : List (Array Value)} {L : List Blk} (h : Suv A w v Cs L) (hk : Kp S w w') (hs : ∀ q, A ≤ q → S q → ∃ cs t z, w.heap[q]? = some (.cells cs t z) ∧ t ≠ 5 ∧ t ≠ 60) : Suv A w' v Cs L := by
  refine ⟨hk.owns h.o (fun q hq hS => ?_), h.n, fun i x c h1 h2 => ?_, h.x⟩
  · obtain ⟨cs, t, z, h1, _, h2⟩ := hs q (h.o.lt q hq).1 hS
    exact own_typ13 h.o h1 h2 hq
  · obtain ⟨vb, e, hb⟩ := h.e i x c h1 h2
    exact ⟨vb, e, hb.kp hk (fun q h3 h4 => by obtain ⟨cs, t, z, h5, h6, _⟩ := hs q h3 h4; exact ⟨cs, t, z, h5, h6⟩)⟩
theorem Suv.next {A : Nat} {w w' : World} {v : Value} {Cs : List (Array Value)} {L : List Blk} (h : Suv A w v Cs L) (hb : Below w.heap.size w w') : Suv A w' v Cs L := h.kp (Kp.of_below (S := fun _ => False) hb) (fun _ _ e => e.elim)
theorem Suv.size {A : Nat} {w : World} {v : Value} {Cs : List (Array Value)} {L : List Blk} (h : Suv A w v Cs L) : ∀ c ∈ Cs, c.size = 5 := fun c hc => by
  obtain ⟨i, hi⟩ := List.getElem?_of_mem hc
  have hl := (List.getElem?_eq_some_iff.1 hi).1
  rw [h.n] at hl
  obtain ⟨vb, e, _⟩ := h.e i _ c (List.getElem?_eq_getElem hl) hi
  rw [e]
  rfl
theorem Suv.app {A : Nat} {w w' : World} {v v' vb : Value} {p : Blk} {Cs : List (Array Value)} {S : List Blk} (h : Suv A w v Cs S) (hx : Byv A w vb p.2) (hp : Lkx p.1 ∧ p.2.length ≤ 140737488351232) (h6 : w'.ownsRow A 60 5 v' (Cs.length + 1) (gfl (Cs ++ [bcs p vb]))) (hg : w.grownBy w' v.ownBlock) : Suv A w' v' (Cs ++ [bcs p vb]) (S ++ [p]) := by
  have hk : Kp (fun q => v.ownBlock = some q) w w' := (Kp.refl _ w).grown hg (fun q _ e => e)
  have hs : ∀ q, A ≤ q → v.ownBlock = some q → ∃ cs t z, w.heap[q]? = some (.cells cs t z) ∧ t ≠ 5 := fun q _ hq => by
    obtain ⟨cur, e⟩ := own_blk13 h.o hq
    exact ⟨cur, _, _, e, by decide⟩
  refine ⟨by rw [List.length_append]; exact h6, by rw [List.length_append, List.length_append, h.n]; rfl, fun i y c h1 h2 => ?_, fun q hq => ?_⟩
  · rcases get_snoc13 h2 with ⟨h3, h4⟩ | ⟨h3, h4⟩
    · rcases get_snoc13 h1 with ⟨_, h5⟩ | ⟨h5, _⟩
      · obtain ⟨vc, e, hb⟩ := h.e i y c h5 h4
        exact ⟨vc, e, hb.kp hk hs⟩
      · rw [h.n] at h3
        omega
    · rcases get_snoc13 h1 with ⟨h5, _⟩ | ⟨_, h5⟩
      · rw [h.n] at h3
        omega
      · rw [h4, h5]
        exact ⟨vb, rfl, hx.kp hk hs⟩
  · rcases List.mem_append.1 hq with h1 | h1
    · exact h.x q h1
    · rw [List.mem_singleton.1 h1]
      exact hp
theorem Suv.at {A : Nat} {w : World} {a : Option Addr} {n cap : Nat} {Cs : List (Array Value)} {S : List Blk} (h : Suv A w (.slice a n cap) Cs S) {i : Nat} {p : Blk} (hp : S[i]? = some p) : n = S.length ∧ ∃ blk va vc, a = some ⟨blk, 0, none⟩ ∧ A ≤ blk ∧ Byv A w (.slice va p.2.length vc) p.2 ∧ ∀ k u, (bcs p (.slice va p.2.length vc))[k]? = some u → w.cell? ⟨blk, i * 5 + k, none⟩ = some u := by
  have hi := (List.getElem?_eq_some_iff.1 hp).1
  obtain ⟨c, hc⟩ : ∃ c, Cs[i]? = some c := ⟨_, List.getElem?_eq_getElem (by rw [h.n]; exact hi)⟩
  obtain ⟨vb, rfl, hb⟩ := h.e i p c hp hc
  obtain ⟨⟨va, vc, rfl, _⟩, _⟩ := id hb.b
  rcases id h.o.2 with ⟨_, h0⟩ | ⟨q, cp, cur, hv, h1, h2, h3, h4⟩
  · rw [h.n] at h0
    omega
  · injection hv with e1 e2 e3
    refine ⟨by rw [e2, h.n], q, va, vc, e1, h1, hb, fun k u hu => ?_⟩
    have h5 := gfl_get (n := 5) h.size i _ k u hc hu
    rw [← h4.2.2, List.getElem?_take] at h5
    split at h5
    · exact blk_cell (j := i * 5 + k) h2 (by rw [← Array.getElem?_toList]; exact h5)
    · cases h5
theorem wos_snoc {S : List Blk} {i : Nat} {p : Blk} (l : Lk) (hp : S[i]? = some p) : wos (S.take (i + 1)) l = wos (S.take i) l ++ (if p.1 = l then [] else [p]) := by
  unfold wos
  rw [List.take_add_one, hp, List.filter_append]
  by_cases h : p.1 = l
  · simp [h]
  · simp [h]
structure Wth (A : Nat) (w wx : World) (lb : Nat) (l : Lk) (m : Value) (Cm : List (Array Value)) (T : List Blk) : Prop where
  b : Below w.heap.size w wx
  l : wx.heap[lb]? = some (.cells (lcs l) 41 (0, 0))
  s : Suv A wx m Cm T
  o : ∀ q, m.ownBlock = some q → w.heap.size ≤ q
theorem Wth.next {A : Nat} {w wx wy : World} {lb : Nat} {l : Lk} {m : Value} {Cm : List (Array Value)} {T : List Blk} (h : Wth A w wx lb l m Cm T) (hb : Below wx.heap.size wx wy) : Wth A w wy lb l m Cm T :=
  ⟨h.b.trans (hb.mono h.b.size), (hb.block _ (blk_lt h.l)).trans h.l, h.s.next hb, h.o⟩
theorem Wth.app {A : Nat} {w wx wy : World} {lb : Nat} {l : Lk} {m m' vb : Value} {p : Blk} {Cm : List (Array Value)} {T : List Blk} (h : Wth A w wx lb l m Cm T) (hx : Byv A wx vb p.2) (hp : Lkx p.1 ∧ p.2.length ≤ 140737488351232) (h6 : wy.ownsRow A 60 5 m' (Cm.length + 1) (gfl (Cm ++ [bcs p vb]))) (hg : wx.grownBy wy m.ownBlock) (h8 : m'.ownBlock = m.ownBlock ∨ m'.ownBlock = some wx.heap.size) : Wth A w wy lb l m' (Cm ++ [bcs p vb]) (T ++ [p]) := by
  have hk : Kp (fun q => m.ownBlock = some q) wx wy := (Kp.refl _ wx).grown hg (fun q _ e => e)
  refine ⟨h.b.trans (hk.below h.b.size (fun q hq => h.o q hq)), (hk.block _ (blk_lt h.l) (fun hq => own_typ13 h.s.o h.l (by decide) hq)).trans h.l, h.s.app hx hp h6 hg, fun q hq => ?_⟩
  rcases h8 with e | e
  · exact h.o q (e ▸ hq)
  · rw [e] at hq
    rw [← Option.some.inj hq]
    exact h.b.size
theorem wpop_append {o : Oper} {a : Act} {K : Act → World → Prop} {Q : Exit → Act → World → Prop} {w : World} {S T : TypeId} {z : Value} {k by' : Nat} (hI : (Tryz.prog.info? T).map (fun i => (i.zero, i.size, i.bytes)) = some (some z, k, by')) (hS : Tryz.prog.underlying S = some (.slice T)) (hzs : z.cells.size = k) (hk : 0 < k) (hby : by' ≤ 1000) {s x : Operand}
    (ho : o.op = .call { callee := .builtin .append, args := #[s, x], argTypes := #[S, S] }) {B : Nat} {v : Value} {L : List (Array Value)} (hs : a.eval s = v) (hown : w.ownsRow B T k v L.length (gfl L))
    {g : Nat} {c : Array Value} (hx : a.eval x = .slice (some ⟨g, 0, none⟩) 1 1) (hg : w.heap[g]? = some (.cells c T (0, 0))) (hc : c.size = k) (h1 : ∀ u ∈ c.toList, u.oneCell' = true) (hlen : L.length ≤ 1000000) (hbase : B ≤ w.heap.size)
    (h : ∀ v' w', w'.ownsRow B T k v' (L.length + 1) (gfl (L ++ [c])) → w.grownBy w' v.ownBlock → (v'.ownBlock = v.ownBlock ∨ v'.ownBlock = some w.heap.size) → K (a.put o.dst v') w') : Oper.wp Tryz.prog o a w K Q := by
  obtain ⟨i, hi, hz0, hz1, hz2⟩ := info_ex hI
  have hb : (L.length + 1) * by' ≤ 140737488355328 := by
    have : (L.length + 1) * by' ≤ 1000001 * 1000 := Nat.mul_le_mul (by omega) hby
    omega
  obtain ⟨v', w', hr, h2, h3, h4, h5⟩ := run_append_own_at (P := Tryz.prog) w B S o.type T i z k by' hS hi hz0 hz1 hz2 hzs hk v L.length (gfl L) hown ⟨g, 0, none⟩ 1 1 c.toList (by simp [hc]) (fun j u hu => by
    rw [addr0]
    exact blk_cell hg (by simpa using hu)) h1 (by unfold maxLen; omega) hb hbase
  unfold Oper.wp execOp
  simp only [ho, resolve, invoke, builtin, Sem.run_bind, Sem.run_pure, Result.andThen_ok, List.map_toArray, List.map_cons, List.map_nil, hs, hx, hr]
  exact h v' w' (by rw [gfl_app]; simpa [gfl] using h2) h3 h5
def SurP (w : World) (sb A : Nat) (S : List Blk) (w' : World) : Prop := ∃ v' Cs', w'.heap[sb]? = some (.cells #[v'] 37 (0, 0)) ∧ Suv A w' v' Cs' S ∧ Kp (fun q => q = sb) w w' ∧ ∀ q, v'.ownBlock = some q → w.heap.size ≤ q
set_option maxRecDepth 1000000 in
set_option maxHeartbeats 4000000 in
theorem without13_any (w : World) (sb A : Nat) (v : Value) (Cs : List (Array Value)) (S : List Blk) (hc : w.heap[sb]? = some (.cells #[v] 37 (0, 0))) (hA : A ≤ w.heap.size) (hS : Suv A w v Cs S) (hn : S.length ≤ 500000) (l : Lk) (hl : Lkx l) : Calls Tryz.prog 19 #[.pointer (some ⟨sb, 0, none⟩), .agg (lcs l)] w fun e w' => e = .returned (.tuple #[]) ∧ SurP w sb A (wos S l) w' := by
  obtain ⟨a, cap, rfl, -⟩ := own_formG hS.o
  have HC := hide hc
  have HA := hide hA
  have HS := hide hS
  have HN := hide hn
  have HL := hide hl
  have HCN : Hid (Cs.length = S.length) := hS.n
  have HB0 := hide (below_alloc4 w (.cells (lcs l) 41))
  have HW0 : Hid (Wth A w (w.alloc (.cells (lcs l) 41)) w.heap.size l (.slice none 0 0) [] []) := ⟨HB0.out, heap_alloc_new w _, ⟨World.ownsRow_nil _ _ _ _, rfl, (fun _ _ _ h => by cases h), (fun _ h => by cases h)⟩, (fun _ e => by cases e)⟩
  unfold lcs at HW0
  clear hc hA hS hn hl
  unfold lcs
  go_enter Tryz.func19, Tryz.ntmps19
  go_upto_region 1 with fail
  generalize w.alloc (.cells #[.int .i64 l.v, .int .u64 (l.c : Nat), .int .u64 (l.h : Nat), .string (nstr l.d)] 41) = w0 at *
  go_upto_region 3 with fail
  go_loopw [4, 5] (fun vm ii wx => ∃ (i : Nat) (Cm : List (Array Value)), i ≤ S.length ∧ ii = .int .i64 (i : Nat) ∧ Hid (Wth A w wx w.heap.size l vm Cm (wos (S.take i) l))) (fun _ ii _ => S.length - (intOf ii).toNat)
  case atStart => exact ⟨0, [], by omega, rfl, HW0.out⟩
  case round =>
    obtain ⟨i, Cm, hi, rfl, HW⟩ := hrel
    clear HW0
    obtain ⟨am, cm, rfl, -⟩ := own_formG HW.out.s.o
    have h50 : (S.length : Int) ≤ 500000 := by have := HN.out; omega
    have r0 : wr.cell? ⟨sb, 0, none⟩ = some (.slice a S.length cap) := by
      have h := keep_below HW.out.b _ _ (blk_cell (j := 0) HC.out rfl)
      rw [HCN.out] at h
      exact h
    by_cases hlt : i < S.length
    · have g1 : (i : Int) < (S.length : Int) := by omega
      obtain ⟨p, hp⟩ : ∃ p, S[i]? = some p := ⟨_, List.getElem?_eq_getElem hlt⟩
      obtain ⟨-, blk, va, vc, rfl, -, hby, hcell⟩ := HS.out.at hp
      have hpx := HS.out.x p (List.mem_of_getElem? hp)
      have HPX := hide hpx
      have HBY : Hid (Byv A wr (.slice va p.2.length vc) p.2) := hby.kp (Kp.of_below (S := fun _ => False) HW.out.b) (fun _ _ e => e.elim)
      have HCE : Hid (∀ k u, (bcs p (.slice va p.2.length vc))[k]? = some u → wr.cell? ⟨blk, i * 5 + k, none⟩ = some u) := fun k u hu => keep_below HW.out.b _ _ (hcell k u hu)
      have HSN := hide (wos_snoc l hp)
      have f0 : ∀ t : Ext wr, t.w'.cell? ⟨sb, 0, none⟩ = some (.slice (some ⟨blk, 0, none⟩) S.length cap) := fun t => keep_below t.h _ _ r0
      have HQ1 : Hid (∀ w', (∃ t : Ext wr, w' = t.w') → ∀ k u, (lcs p.1)[k]? = some u → w'.cell? ⟨blk, i * 5 + k, none⟩ = some u) := fun w' ⟨t, e⟩ k u h => by
        rw [e]
        refine keep_below t.h _ _ (HCE.out k u ?_)
        rcases k with _ | _ | _ | _ | k
        · exact h
        · exact h
        · exact h
        · exact h
        · simp [lcs] at h
      have HQ2 : Hid (∀ w', (∃ t : Ext wr, w' = t.w') → ∀ k u, (lcs l)[k]? = some u → w'.cell? ⟨w.heap.size, 0 + k, none⟩ = some u) := fun w' ⟨t, e⟩ k u h => by
        rw [e]
        exact keep_below t.h _ _ (blk_cell (j := 0 + k) HW.out.l (by rw [Nat.zero_add]; exact h))
      have HEQ : Hid (∀ wx : World, (Op.equalIn 10000 41 (.agg (lcs p.1)) (.agg (lcs l))).run Tryz.prog wx = .ok (decide (p.1 = l)) wx) := fun wx => eqlk wx hpx.1.toLkb.d HL.out.toLkb.d
      clear hp hby hcell hpx
      go_upto_region 5 with fail
      go_cut [24] (fun u wx => u = .bool (!decide (p.1 = l)) ∧ Hid (Below wr.heap.size wr wx))
      case first =>
        refine region_ext (by kernel_rfl) (by kernel_rfl) ?_
        repeat (
          with_reducible refine wpQuiet_step (fun K hK => ?_)
          first
            | (refine qstep_lkAt rfl rfl blk (i * 5) p.1 rfl HQ1.out (hK _ ?_); clear hK K)
            | (refine qstep_lkAt rfl rfl w.heap.size 0 l rfl HQ2.out (hK _ ?_); clear hK K)
            | (refine qstep_nelk rfl rfl (lcs p.1) (lcs l) (decide (p.1 = l)) rfl rfl (fun wx _ => HEQ.out wx) (hK _ ?_); clear hK K)
            | (go_simp
               with_reducible refine hK _ ?_; clear hK K))
        refine wpQuiet_nil ?_
        rintro _ ⟨tq, rfl⟩
        have HTQ := hide tq.h
        go_wp2_with fail
        go_meet
        case rel => exact ⟨rfl, HTQ.out⟩
      case rest =>
        obtain ⟨rfl, HB5⟩ := hcut
        have HW5 := hide (HW.out.next HB5.out)
        clear HQ1 HQ2 HEQ f0
        by_cases he : p.1 = l
        · rw [decide_eq_true he]
          rw [if_pos he, List.append_nil] at HSN
          go_wp2_with fail
          go_roundw
          case rel => exact ⟨i + 1, Cm, by omega, by go_num, by rw [HSN.out]; exact HW5.out⟩
          case measure => simp [intOf]; omega
        · rw [decide_eq_false he]
          rw [if_neg he] at HSN
          have c0 : wc.cell? ⟨sb, 0, none⟩ = some (.slice (some ⟨blk, 0, none⟩) S.length cap) := keep_below HB5.out _ _ r0
          have HBY5 : Hid (Byv A wc (.slice va p.2.length vc) p.2) := HBY.out.kp (Kp.of_below (S := fun _ => False) HB5.out) (fun _ _ e => e.elim)
          have HC5 : Hid (∀ k u, (bcs p (.slice va p.2.length vc))[k]? = some u → wc.cell? ⟨blk, i * 5 + k, none⟩ = some u) := fun k u hu => keep_below HB5.out _ _ (HCE.out k u hu)
          have HW6 := hide (HW5.out.next (below_alloc4 wc (.cells #[.int .i64 p.1.v, .int .u64 (p.1.c : Nat), .int .u64 (p.1.h : Nat), .string (nstr p.1.d), .slice va p.2.length vc] 60)))
          have HT6 : Hid ((wc.alloc (.cells #[.int .i64 p.1.v, .int .u64 (p.1.c : Nat), .int .u64 (p.1.h : Nat), .string (nstr p.1.d), .slice va p.2.length vc] 60)).heap[wc.heap.size]? = some (.cells (bcs p (.slice va p.2.length vc)) 60 (0, 0))) := heap_alloc_new wc _
          have HBY6 : Hid (Byv A (wc.alloc (.cells #[.int .i64 p.1.v, .int .u64 (p.1.c : Nat), .int .u64 (p.1.h : Nat), .string (nstr p.1.d), .slice va p.2.length vc] 60)) (.slice va p.2.length vc) p.2) := HBY5.out.kp (Kp.of_below (S := fun _ => False) (below_alloc4 wc _)) (fun _ _ e => e.elim)
          have HON : Hid (∀ u ∈ (bcs p (.slice va p.2.length vc)).toList, u.oneCell' = true) := fun u hu => by simp [bcs] at hu; rcases hu with rfl | rfl | rfl | rfl | rfl <;> rfl
          have HNK : Hid (Cm.length ≤ 1000000) := by
            have h1 := HW.out.s.n
            have h2 := len_wos (S.take i) l
            rw [List.length_take] at h2
            have h3 := HN.out
            show _ ≤ _
            omega
          have HWB : Hid (A ≤ (wc.alloc (.cells #[.int .i64 p.1.v, .int .u64 (p.1.c : Nat), .int .u64 (p.1.h : Nat), .string (nstr p.1.d), .slice va p.2.length vc] 60)).heap.size) := Nat.le_trans HA.out HW6.out.b.size
          have HIB := hide infoBq
          have HAG : Hid (∀ w, (isAgg 60).run Tryz.prog w = .ok true w) := aggBq
          clear HBY HCE HW HW5 HBY5 HB5 r0
          go_wp2_with (first
            | (refine wpList_aggAt rfl rfl HIB.out HAG.out blk (i * 5) (bcs p (.slice va p.2.length vc)) rfl rfl HC5.out ?_; unfold bcs)
            | (refine append_g infoBk13 Tryz.underlying35 rfl (by decide) (by decide) rfl rfl rfl HW6.out.s.o rfl HT6.out rfl HON.out HNK.out HWB.out ?_; intro v7 w7 h6 h7 h8; obtain ⟨a7, c7, hv7, -⟩ := own_formG h6; subst hv7; have HW7 := hide (HW6.out.app HBY6.out HPX.out h6 h7 h8)))
          go_roundw
          case rel => exact ⟨i + 1, _, by omega, by go_num, by rw [HSN.out]; exact HW7.out⟩
          case measure => simp [intOf]; omega
    · have g1 : ¬ (i : Int) < (S.length : Int) := by omega
      have hi2 : i = S.length := by omega
      subst hi2
      rw [List.take_length] at HW
      have HCW : Hid (wr.heap[sb]? = some (.cells #[.slice a Cs.length cap] 37 (0, 0))) := (HW.out.b.block _ (blk_lt HC.out)).trans HC.out
      have z0 := blk_frozen 0 HCW.out
      have HK : Hid (Kp (fun q => q = sb) wr (wr.setCell ⟨sb, 0, none⟩ (.slice am Cm.length cm))) := (Kp.refl _ wr).setCell _ _ (fun _ => rfl)
      have HCX : Hid ((wr.setCell ⟨sb, 0, none⟩ (.slice am Cm.length cm)).heap[sb]? = some (.cells #[.slice am Cm.length cm] 37 (0, 0))) := blk_set 0 _ HCW.out
      go_wp2_with fail
      refine ⟨rfl, .tuple #[], results_none rfl _ _ _, rfl, ?_⟩
      exact ⟨_, Cm, HCX.out, HW.out.s.kp HK.out (fun q _ e => ⟨_, _, _, e ▸ HCW.out, by decide, by decide⟩), (Kp.of_below HW.out.b).trans HK.out (fun _ _ e => e), HW.out.o⟩
end
end Go.Proofs.YtnkghcndaafmoaaGreatDoor

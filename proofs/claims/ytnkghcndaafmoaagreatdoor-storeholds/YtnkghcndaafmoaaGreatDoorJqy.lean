import Derived.Test.YtnkghcndaafmoaaGreatDoorJqx
import Derived.Test.YtnkghcndaafmoaaGreatDoorJqs
import Derived.Great.BuildSlice
import Derived.Great.FillDense
import Derived.Maps.AppendAt
import Derived.Test.YtnkghcndaafmoaaGreatDoorJqo
namespace Go.Proofs.YtnkghcndaafmoaaGreatDoor
section
open Go.RowKit Go
def forr13 (r : Nat) (L : List Blk) (l : Lk) (b : List Nat) : Nat × List Blk :=
  if fit13 (l, b) = 0 then if (atB L l).isSome = false ∧ r ≤ L.length then (135, L) else (0, putB L l b) else (fit13 (l, b), L)
structure ForP (w : World) (g B r : Nat) (R : Nat × List Blk) (e : Ending) (w' : World) : Prop where
  e : e = .returned (.int .i64 (R.1 : Nat))
  s : Sto w' g B r R.2
  k : Kp (fun q => q = g ∨ q = B) w w'
set_option maxRecDepth 1000000 in
set_option maxHeartbeats 2000000 in
theorem force13_any (w : World) (g B r : Nat) (L : List Blk) (hS : Sto w g B r L) (l : Lk) (hl : Lkx l) (vb : Value) (b : List Nat) (hb : ∀ wy, Kp (fun q => q = g) w wy → BSl wy vb b) : Calls Tryz.prog 18 #[.pointer (some ⟨g, 0, none⟩), lkv l, vb] w (ForP w g B r (forr13 r L l b)) := by
  have hb0 := hb w (Kp.refl _ _)
  have HS := hide hS
  have HBH := hide hb
  have HL := hide hl
  have HB00 := hide hb0
  obtain ⟨⟨a, cap, rfl, -, -⟩, -, hby⟩ := hb0
  have HBY := hide hby
  have HT : Hid ((w.alloc (.cells #[.int .i64 l.v, .int .u64 (l.c : Nat), .int .u64 (l.h : Nat), .string (nstr l.d)] 41)).heap[w.heap.size]? = some (.cells (lcs l) 41 (0, 0))) := heap_alloc_new w _
  have HB0 := hide (below_alloc4 w (.cells #[.int .i64 l.v, .int .u64 (l.c : Nat), .int .u64 (l.h : Nat), .string (nstr l.d)] 41))
  have hnot : ∀ (x : Bool) (w : World), (Op.unary .not (.bool x)).run Tryz.prog w = .ok (.bool (!x)) w := fun _ _ => rfl
  clear hS hb hl hby
  simp only [lkv]
  go_enter_defers Tryz.func18, Tryz.ntmps18
  go_upto_region 1 with fail
  generalize w.alloc (.cells #[.int .i64 l.v, .int .u64 (l.c : Nat), .int .u64 (l.h : Nat), .string (nstr l.d)] 41) = w0 at *
  have d0 : w0.cell? ⟨w.heap.size, 0, none⟩ = some (.int .i64 l.v) := blk_cell (j := 0) HT.out rfl
  have d1 : w0.cell? ⟨w.heap.size, 1, none⟩ = some (.int .u64 (l.c : Nat)) := blk_cell (j := 1) HT.out rfl
  have d2 : w0.cell? ⟨w.heap.size, 2, none⟩ = some (.int .u64 (l.h : Nat)) := blk_cell (j := 2) HT.out rfl
  have d3 : w0.cell? ⟨w.heap.size, 3, none⟩ = some (.string (nstr l.d)) := blk_cell (j := 3) HT.out rfl
  have HF := hide (fits13_any w0 l HL.out.toLkb (.slice a b.length cap) b (HB00.out.move (keep_below HB0.out)))
  rw [show (if lok l ∧ l.h = 18 then if 67108864 < b.length then (133 : Int) else 0 else 132) = (fit13 (l, b) : Nat) from fit13_cast (l, b)] at HF
  simp only [lkv] at HF
  by_cases hf : fit13 (l, b) = 0
  · have HB6 := hide (fit13_len hf)
    have HRA : Hid (forr13 r L l b = if (atB L l).isSome = false ∧ r ≤ L.length then (135, L) else (0, putB L l b)) := by show _ = _; unfold forr13; rw [if_pos hf]
    have g2 : (((fit13 (l, b) : Nat) : Int) != 0) = false := by rw [hf]; rfl
    clear hf
    go_upto_region 4 with (go_at_call 42; refine HF.out.mono ?_; rintro e w1 ⟨rfl, hb1⟩)
    have HB1 : Hid (Below w.heap.size w w1) := HB0.out.trans (hb1.mono HB0.out.size)
    have HT1 : Hid (w1.heap[w.heap.size]? = some (.cells (lcs l) 41 (0, 0))) := (hb1.block _ (blk_lt HT.out)).trans HT.out
    have HS1 := hide (HS.out.next HB1.out)
    have hlk := HS1.out.lock
    have HE := hide hlk.1
    have HK1 := hide hlk.2
    have c1 : w1.cell? ⟨g, 1, none⟩ = some (.int .i32 0) := blk_cell (j := 1) HS1.out.c rfl
    have f1 := blk_frozen 1 HS1.out.c
    have hgz : g < w.heap.size := blk_lt HS.out.c
    have hBz : B < w.heap.size := HS.out.m.lt
    clear hlk d0 d1 d2 d3 hb1 HT HF
    go_upto_region 6 with (go_at_call 43; refine (lockFree ⟨g, 1, none⟩ _ c1 f1).mono ?_; rintro e w' ⟨rfl, rfl⟩)
    generalize w1.setCell ⟨g, 1, none⟩ (.int .i32 1) = w2 at *
    clear c1 f1
    have HT2 : Hid (w2.heap[w.heap.size]? = some (.cells (lcs l) 41 (0, 0))) := (HK1.out.block _ (blk_lt HT1.out) (by omega)).trans HT1.out
    have HK2 : Hid (Kp (fun q => q = g) w w2) := (Kp.of_below HB1.out).trans HK1.out (fun _ _ e => e)
    obtain ⟨q, hq⟩ : ∃ q, (atB L l).getD [] = q := ⟨_, rfl⟩
    obtain ⟨f, hf⟩ : ∃ f, (atB L l).isSome = f := ⟨_, rfl⟩
    have HQ := hide hq
    have HFF := hide hf
    have hlk : (Instr.lookup 105 (.map (some B)) (.agg #[.int .i64 l.v, .int .u64 (l.c : Nat), .int .u64 (l.h : Nat), .string (nstr l.d)]) true).run Tryz.prog w2.drew = .ok (.tuple #[.agg #[.string (nstr q)], .bool f]) w2.drew := by
      have h := (HE.out.m.block (w' := w2.drew) rfl).look HL.out
      rw [HQ.out, HFF.out] at h
      exact h
    have hlk2 : (Instr.lookup 105 (.map (some B)) (.agg #[.int .i64 l.v, .int .u64 (l.c : Nat), .int .u64 (l.h : Nat), .string (nstr l.d)]) true).run Tryz.prog (w2.alloc (.cells #[.string ⟨#[]⟩] 130)).drew = .ok (.tuple #[.agg #[.string (nstr q)], .bool f]) (w2.alloc (.cells #[.string ⟨#[]⟩] 130)).drew := by
      have h := ((HE.out.m.next (below_alloc4 w2 _)).block (w' := (w2.alloc (.cells #[.string ⟨#[]⟩] 130)).drew) rfl).look HL.out
      rw [HQ.out, HFF.out] at h
      exact h
    have d0 : w2.cell? ⟨w.heap.size, 0, none⟩ = some (.int .i64 l.v) := blk_cell (j := 0) HT2.out rfl
    have d1 : w2.cell? ⟨w.heap.size, 1, none⟩ = some (.int .u64 (l.c : Nat)) := blk_cell (j := 1) HT2.out rfl
    have d2 : w2.cell? ⟨w.heap.size, 2, none⟩ = some (.int .u64 (l.h : Nat)) := blk_cell (j := 2) HT2.out rfl
    have d3 : w2.cell? ⟨w.heap.size, 3, none⟩ = some (.string (nstr l.d)) := blk_cell (j := 3) HT2.out rfl
    have s3 : w2.cell? ⟨g, 3, none⟩ = some (.map (some B)) := blk_cell (j := 3) HE.out.c rfl
    have l1 : w.heap.size < w2.heap.size := blk_lt HT2.out
    have l2 : g < w2.heap.size := blk_lt HE.out.c
    clear hq hf
    go_cut [8, 9] from 23 to 63 (fun a b wx => a = .pointer (some ⟨w2.heap.size, 0, none⟩) ∧ b = .bool f ∧ wx = (w2.alloc (.cells #[.string (nstr q)] 130)).drew)
    case first => as_aux_lemma =>
      go_region
      all_goals (go_wp2_with fail; go_meet; exact ⟨rfl, rfl, rfl⟩)
    case rest =>
      obtain ⟨rfl, rfl, rfl⟩ := hcut
      have HB3 : Hid (Below w2.heap.size w2 (w2.alloc (.cells #[.string (nstr q)] 130)).drew) := (below_alloc4 w2 _).drew
      have HA3 : Hid ((w2.alloc (.cells #[.string (nstr q)] 130)).drew.heap[w2.heap.size]? = some (.cells #[.string (nstr q)] 130 (0, 0))) := heap_alloc_new w2 _
      clear hlk hlk2 d0 d1 d2 d3 s3
      generalize (w2.alloc (.cells #[.string (nstr q)] 130)).drew = w3 at *
      have HE3 := hide (HE.out.next HB3.out)
      have HT3 : Hid (w3.heap[w.heap.size]? = some (.cells (lcs l) 41 (0, 0))) := (HB3.out.block _ (blk_lt HT2.out)).trans HT2.out
      have HK3 : Hid (Kp (fun q => q = g) w w3) := HK2.out.trans (Kp.of_below (S := fun _ => False) HB3.out) (fun _ _ h => h.elim)
      clear HE HT2 HK2 HB3 HT1 HS1 HK1
      go_upto_region 7 with fail
      have s0 : ∀ t : Ext w3, t.w'.cell? ⟨g, 0, none⟩ = some (.int .i64 (r : Nat)) := fun t => Ext.cell (blk_cell (j := 0) HE3.out.c rfl) t
      have s3 : ∀ t : Ext w3, t.w'.cell? ⟨g, 3, none⟩ = some (.map (some B)) := fun t => Ext.cell (blk_cell (j := 3) HE3.out.c rfl) t
      have hln : ∀ (t : Ext w3) ty, (Builtin.len_ #[105] ty #[.map (some B)]).run Tryz.prog t.w' = .ok (.int .i64 (L.length : Nat)) t.w' := fun t ty => (HE3.out.m.next t.h).len ty
      obtain ⟨fu, hfu⟩ : ∃ fu, decide (r ≤ L.length) = fu := ⟨_, rfl⟩
      go_cut [45] from 23 to 63 (fun a wx => a = .bool (!f && fu) ∧ Hid (Below w3.heap.size w3 wx))
      case first => as_aux_lemma =>
        cases f
        · refine region_ext (by kernel_rfl) (by kernel_rfl) ?_
          repeat (
            with_reducible refine wpQuiet_step (fun K hK => ?_)
            go_simp
            with_reducible refine hK _ ?_
            clear hK K)
          refine wpQuiet_nil ?_
          rintro _ ⟨t4, rfl⟩
          go_wp2_with fail
          go_meet
          exact ⟨rfl, t4.h⟩
        · refine region_ext (by kernel_rfl) (by kernel_rfl) ?_
          repeat (
            with_reducible refine wpQuiet_step (fun K hK => ?_)
            go_simp
            with_reducible refine hK _ ?_
            clear hK K)
          refine wpQuiet_nil ?_
          rintro _ ⟨t4, rfl⟩
          go_wp2_with fail
          go_meet
          exact ⟨rfl, t4.h⟩
      case rest =>
        obtain ⟨rfl, hb4⟩ := hcut
        have HE4 := hide (HE3.out.next hb4.out)
        have HT4 : Hid (wc.heap[w.heap.size]? = some (.cells (lcs l) 41 (0, 0))) := (hb4.out.block _ (blk_lt HT3.out)).trans HT3.out
        have HA4 : Hid (wc.heap[w2.heap.size]? = some (.cells #[.string (nstr q)] 130 (0, 0))) := (hb4.out.block _ (blk_lt HA3.out)).trans HA3.out
        have HK4 : Hid (Kp (fun q => q = g) w wc) := HK3.out.trans (Kp.of_below (S := fun _ => False) hb4.out) (fun _ _ h => h.elim)
        have HFU := hide hfu
        clear s0 s3 hln hb4 HE3 HT3 HA3 HK3 hfu
        cases hcn : (!f && fu)
        · have HN : Hid ((putB L l b).length ≤ r) := by
            have h1 := len_put HS.out.m.nd l b
            have h2 := HS.out.n
            rw [HFF.out] at h1
            show _ ≤ _
            cases f
            · simp at hcn
              rw [hcn] at HFU
              have h3 := of_decide_eq_false HFU.out
              simp at h1
              omega
            · simp at h1
              omega
          have HR : Hid (forr13 r L l b = (0, putB L l b)) := by
            show _ = _
            rw [HRA.out, if_neg]
            rintro ⟨h1, h2⟩
            rw [HFF.out] at h1
            rw [← HFU.out, h1, decide_eq_true h2] at hcn
            simp at hcn
          have hl65 : L.length < 140737488351232 := by have h1 := HS.out.n; have h2 := HS.out.h.2; omega
          have HLL := hide hl65
          have HBG : Hid (Bgd (l, b)) := ⟨HL.out, HBY.out, HB6.out⟩
          have HBS := hide (HBH.out wc HK4.out)
          clear hcn hl65
          go_upto_region 9 with fail
          have s3 : ∀ t : Ext wc, t.w'.cell? ⟨g, 3, none⟩ = some (.map (some B)) := fun t => Ext.cell (blk_cell (j := 3) HE4.out.c rfl) t
          have d0 : ∀ t : Ext wc, t.w'.cell? ⟨w.heap.size, 0, none⟩ = some (.int .i64 l.v) := fun t => Ext.cell (blk_cell (j := 0) HT4.out rfl) t
          have d1 : ∀ t : Ext wc, t.w'.cell? ⟨w.heap.size, 1, none⟩ = some (.int .u64 (l.c : Nat)) := fun t => Ext.cell (blk_cell (j := 1) HT4.out rfl) t
          have d2 : ∀ t : Ext wc, t.w'.cell? ⟨w.heap.size, 2, none⟩ = some (.int .u64 (l.h : Nat)) := fun t => Ext.cell (blk_cell (j := 2) HT4.out rfl) t
          have d3 : ∀ t : Ext wc, t.w'.cell? ⟨w.heap.size, 3, none⟩ = some (.string (nstr l.d)) := fun t => Ext.cell (blk_cell (j := 3) HT4.out rfl) t
          have cv : ∀ t : Ext wc, (convert 39 9 (.slice a b.length cap)).run Tryz.prog t.w' = .ok (.string (nstr b)) t.w' := fun t => (Ext.bsl HBS.out t).text
          refine region_ext_tail 8 (by kernel_rfl) (by kernel_rfl) ?_
          simp only [List.take_succ_cons, List.take_zero, List.drop_succ_cons, List.drop_zero]
          repeat (
            with_reducible refine wpQuiet_step (fun K hK => ?_)
            go_simp
            with_reducible refine hK _ ?_
            clear hK K)
          refine wpQuiet_nil ?_
          rintro _ ⟨t5, rfl⟩
          have HM5 := hide (HE4.out.m.next t5.h)
          have HG5 : Hid (t5.w'.heap[g]? = some (.cells (stc r 1 B (szB L)) 118 (0, 0))) := (t5.h.block _ (blk_lt HE4.out.c)).trans HE4.out.c
          have HA5 : Hid (t5.w'.heap[w2.heap.size]? = some (.cells #[.string (nstr q)] 130 (0, 0))) := (t5.h.block _ (blk_lt HA4.out)).trans HA4.out
          have HK5 : Hid (Kp (fun q => q = g ∨ q = B) w t5.w') := (HK4.out.mono (fun _ _ e => .inl e)).trans (Kp.of_below (S := fun _ => False) t5.h) (fun _ _ h => h.elim)
          generalize t5.w' = w5 at *
          clear s3 d0 d1 d2 d3 cv HE4 HT4 HA4 HBS
          go_upto_region 10 with (at_mapUpdate; refine wpList_putB (B := B) (L := L) (l := l) (b := b) rfl rfl rfl rfl rfl HM5.out HBG.out HLL.out ?_; intro w6 hM6 hK6 hz6; go_frame)
          have HM6 := hide hM6
          have HG6 : Hid (w6.heap[g]? = some (.cells (stc r 1 B (szB L)) 118 (0, 0))) := (hK6.block _ (blk_lt HG5.out) (HM5.out.ne HG5.out)).trans HG5.out
          have HA6 : Hid (w6.heap[w2.heap.size]? = some (.cells #[.string (nstr q)] 130 (0, 0))) := (hK6.block _ (blk_lt HA5.out) (HM5.out.ne HA5.out)).trans HA5.out
          have HK6 : Hid (Kp (fun q => q = g ∨ q = B) w w6) := HK5.out.trans hK6 (fun _ _ e => .inr e)
          clear hM6 hK6 hz6 HM5 HG5 HA5 HK5
          have HQB : Hid (∀ y ∈ q, y < 256) := qb_of HQ.out (fun b hb => (HS.out.m.ok _ (atB_mem hb)).b)
          have HQ6 : Hid (q.length ≤ 67108864) := ql_of HQ.out (fun b hb => (HS.out.m.ok _ (atB_mem hb)).n)
          have hqs : ((nstr q).size : Int) = (q.length : Int) := by rw [nstr_size HQB.out]
          obtain ⟨y, hy⟩ : ∃ y : Int, (b.length : Int) - (q.length : Int) = y := ⟨_, rfl⟩
          have wr1 : IntKind.i64.wrap ((b.length : Int) - ((nstr q).size : Int)) = y := by have h1 := HB6.out; have h2 := HQ6.out; rw [IntKind.wrap_i64, hqs]; omega
          have HSZ : Hid (((szB L : Nat) : Int) + y = szB (putB L l b)) := by
            have h1 := sz_put HS.out.m.nd l b
            rw [HQ.out] at h1
            show _ = _
            omega
          have a0 : ∀ t : Ext w6, t.w'.cell? ⟨w2.heap.size, 0, none⟩ = some (.string (nstr q)) := fun t => Ext.cell (blk_cell (j := 0) HA6.out rfl) t
          clear hqs hy
          refine region_ext_tail 9 (by kernel_rfl) (by kernel_rfl) ?_
          simp only [List.take_succ_cons, List.take_zero, List.drop_succ_cons, List.drop_zero]
          repeat (
            with_reducible refine wpQuiet_step (fun K hK => ?_)
            go_simp
            with_reducible refine hK _ ?_
            clear hK K)
          refine wpQuiet_nil ?_
          rintro _ ⟨t7, rfl⟩
          have HM7 := hide (HM6.out.next t7.h)
          have HG7 : Hid (t7.w'.heap[g]? = some (.cells (stc r 1 B (szB L)) 118 (0, 0))) := (t7.h.block _ (blk_lt HG6.out)).trans HG6.out
          have HK7 : Hid (Kp (fun q => q = g ∨ q = B) w t7.w') := HK6.out.trans (Kp.of_below (S := fun _ => False) t7.h) (fun _ _ h => h.elim)
          generalize t7.w' = w7 at *
          clear a0 HM6 HG6 HA6 HK6 wr1
          have HSB : Hid (-9223372036854775808 ≤ ((szB L : Nat) : Int) + y ∧ ((szB L : Nat) : Int) + y ≤ 9223372036854775807) := by
            have h1 := sz_le (fun p hp => (HM7.out.ok p hp).n)
            have h2 := HSZ.out
            have h3 := HN.out
            have h4 := HS.out.h.2
            show _ ∧ _
            rw [h2]
            omega
          have HAD := hide (add64_any ⟨g, 4, none⟩ (szB L) y w7 (blk_cell (j := 4) HG7.out rfl) (blk_frozen 4 HG7.out) HSB.out)
          go_upto_region 11 with (go_at_call 45; refine HAD.out.mono ?_; rintro e w8 ⟨rfl, rfl⟩)
          have hk8 : Kp (fun q => q = g) w7 (w7.setCell ⟨g, 4, none⟩ (.int .i64 ((szB L : Nat) + y))) := (Kp.refl _ w7).setCell _ _ (fun _ => rfl)
          have HZE : Hid (Stl (w7.setCell ⟨g, 4, none⟩ (.int .i64 ((szB L : Nat) + y))) g B r ((szB L : Nat) + y) (putB L l b)) := ⟨by have := blk_set 4 (.int .i64 ((szB L : Nat) + y)) HG7.out; rw [stc_set4] at this; exact this, HM7.out.kp hk8 (fun e => HM7.out.ne HG7.out e.symm)⟩
          have HKE : Hid (Kp (fun q => q = g ∨ q = B) w (w7.setCell ⟨g, 4, none⟩ (.int .i64 ((szB L : Nat) + y)))) := HK7.out.trans hk8 (fun _ _ e => .inl e)
          generalize w7.setCell ⟨g, 4, none⟩ (.int .i64 ((szB L : Nat) + y)) = w8 at *
          clear hk8 HG7 HK7 HM7 HAD
          go_wp2_with fail
          refine leaves_cons (f := 44) (args := #[.pointer (some ⟨g, 1, none⟩)]) (by simp) (by simp [go_sem]) ?_
          refine (unlockLate ⟨g, 1, none⟩ .returning _ (blk_cell (j := 1) HZE.out.c rfl) (blk_frozen 1 HZE.out.c)).mono ?_
          rintro e u' w'' ⟨rfl, rfl, rfl⟩
          have hu := HZE.out.unlock HSZ.out HS.out.h HN.out
          have HP : ForP w g B r (forr13 r L l b) (.returned (.int .i64 0)) (w8.setCell ⟨g, 1, none⟩ (.int .i32 0)) := by rw [HR.out]; exact ⟨rfl, hu.1, HKE.out.trans hu.2 (fun _ _ e => .inl e)⟩
          refine ⟨.int .i64 0, (results_tmp (t := 6) rfl _ _ _).trans ?_, HP⟩
          rfl
        · have HR : Hid (forr13 r L l b = (135, L)) := by
            rw [Bool.and_eq_true] at hcn
            have h1 : f = false := by simpa using hcn.1
            have h2 := HFU.out
            rw [hcn.2] at h2
            show _ = _
            rw [HRA.out, if_pos ⟨HFF.out.trans h1, of_decide_eq_true h2⟩]
          have HZE := HE4
          clear hcn
          go_wp2_with fail
          refine leaves_cons (f := 44) (args := #[.pointer (some ⟨g, 1, none⟩)]) (by simp) (by simp [go_sem]) ?_
          refine (unlockLate ⟨g, 1, none⟩ .returning _ (blk_cell (j := 1) HZE.out.c rfl) (blk_frozen 1 HZE.out.c)).mono ?_
          rintro e u' w'' ⟨rfl, rfl, rfl⟩
          have hu := HZE.out.unlock rfl HS.out.h HS.out.n
          have HP : ForP w g B r (forr13 r L l b) (.returned (.int .i64 135)) (wc.setCell ⟨g, 1, none⟩ (.int .i32 0)) := by rw [HR.out]; exact ⟨rfl, hu.1, (HK4.out.trans hu.2 (fun _ _ e => e)).mono (fun _ _ e => .inl e)⟩
          refine ⟨.int .i64 135, (results_tmp (t := 6) rfl _ _ _).trans ?_, HP⟩
          rfl
  · have g2 : (((fit13 (l, b) : Nat) : Int) != 0) = true := by rw [bne_iff_ne]; omega
    have HRA : Hid (forr13 r L l b = (fit13 (l, b), L)) := by show _ = _; unfold forr13; rw [if_neg hf]
    clear hf
    go_wp2_with (go_at_call 42; refine HF.out.mono ?_; rintro e w1 ⟨rfl, hb1⟩)
    have HB1 : Below w.heap.size w w1 := HB0.out.trans (hb1.mono HB0.out.size)
    have HP : ForP w g B r (forr13 r L l b) (.returned (.int .i64 (fit13 (l, b) : Nat))) w1 := by rw [HRA.out]; exact ⟨rfl, HS.out.next HB1, Kp.of_below HB1⟩
    refine ⟨.int .i64 (fit13 (l, b) : Nat), (results_tmp (t := 6) rfl _ _ _).trans ?_, HP⟩
    rfl
end
section
open Go.RowKit Go
theorem Mlb.drop {w : World} {B : Nat} {L : List Blk} (h : Mlb w B L) {l : Lk} (hl : Lkx l) (ty : TypeId) :
    ∃ w', (Builtin.delete_ #[105, 41] ty #[.map (some B), lkv l]).run Tryz.prog w = .ok (.tuple #[]) w' ∧ Mlb w' B (delB L l) ∧ Kp (fun q => q = B) w w' ∧ w'.heap.size = w.heap.size := by
  obtain ⟨h0, h00, D, h1, h2, h3, h4⟩ := h
  obtain ⟨w', hrun, h5, h6⟩ := h1.drop lawK Tryz.underlying105 (keyL hl) ty
  have h7 := h6.grown
  have hsz : Maps.size (D.del (kll l)) = (delB L l).length := by
    have e1 := Maps.size_del (k := kll l) (h1.tidy lawK)
    have e2 := len_del h0 l
    rw [h3 l hl, h2] at e1
    omega
  refine ⟨w', hrun, ⟨ndB_del h0 l, fun p hp => h00 p (mem_del hp), ⟨D.del (kll l), ?_, hsz, fun k hk => ?_, fun k c hk hc zd => ?_⟩⟩, ⟨h7.os, h7.tape, h7.output, h7.size, fun k hk hne => h7.block k hk (fun e => hne (by injection e))⟩, ?_⟩
  · rw [← hsz]
    exact own_tight h5
  · rw [atB_del]
    by_cases hkl : k = l
    · subst hkl
      rw [if_pos rfl, Maps.has_del_same]
      rfl
    · rw [if_neg hkl, Maps.has_del_other (kll_ne hk hl hkl)]
      exact h3 k hk
  · rw [atB_del] at hc
    by_cases hkl : k = l
    · rw [if_pos hkl] at hc
      cases hc
    · rw [if_neg hkl] at hc
      rw [Maps.atKey_del_other (kll_ne hk hl hkl)]
      exact h4 k c hk hc zd
  · obtain ⟨es, clock, es', clock', _, rfl⟩ := h6
    simp [ChangeMaps.setBlock]
theorem wpList_delB {ops : Array Oper} {rest : List Oper} {o : Oper} {a : Act} {Q : Exit → Act → World → Prop} {w : World} (hgd : Region.wanted o (yielded ops a.tmps) = true) {m x : Operand} (ho : o.op = .call { callee := .builtin Builtin.delete, args := #[m, x], argTypes := #[105, 41] }) {B : Nat} {L : List Blk} {l : Lk} (hm : a.eval m = .map (some B)) (hx : a.eval x = lkv l) (h : Mlb w B L) (hl : Lkx l)
    (hK : ∀ w', Mlb w' B (delB L l) → Kp (fun q => q = B) w w' → w'.heap.size = w.heap.size → wpList Tryz.prog ops Q rest (a.put o.dst (.tuple #[])) w') : wpList Tryz.prog ops Q (o :: rest) a w := by
  refine wpList_wanted hgd fun K hK' => ?_
  obtain ⟨w', hrun, h1, h2, h3⟩ := h.drop hl o.type
  unfold Oper.wp
  simp [execOp, ho, resolve, invoke, builtin, hm, hx, hrun, Result.andThen]
  exact hK' _ _ (hK w' h1 h2 h3)
end
section
open Go.RowKit Go
def gfl (l : List (Array Value)) : List Value := l.flatMap (·.toList)
theorem gfl_app (a b : List (Array Value)) : gfl (a ++ b) = gfl a ++ gfl b := by simp [gfl]
theorem gfl_len {k : Nat} : ∀ {l : List (Array Value)}, (∀ c ∈ l, c.size = k) → (gfl l).length = l.length * k
  | [], _ => by simp [gfl]
  | c :: r, h => by
    have ih := gfl_len (l := r) (fun x hx => h x (List.mem_cons_of_mem _ hx))
    have h0 := h c (List.mem_cons_self ..)
    have e : gfl (c :: r) = c.toList ++ gfl r := by simp [gfl]
    rw [e, List.length_append, ih, List.length_cons, Nat.succ_mul, Array.length_toList, h0, Nat.add_comm]
theorem gfl_get {n : Nat} : ∀ {l : List (Array Value)}, (∀ c ∈ l, c.size = n) → ∀ (k : Nat) (c : Array Value) (j : Nat) (u : Value), l[k]? = some c → c[j]? = some u → (gfl l)[k * n + j]? = some u
  | [], _, k, c, j, u, hk, _ => by cases hk
  | x :: r, h, 0, c, j, u, hk, hj => by
    have e : gfl (x :: r) = x.toList ++ gfl r := by simp [gfl]
    have hx : x = c := by simpa using hk
    subst hx
    rw [e, Nat.zero_mul, Nat.zero_add, List.getElem?_append_left (by have := (Array.getElem?_eq_some_iff.1 hj).1; simpa using this)]
    simpa using hj
  | x :: r, h, k + 1, c, j, u, hk, hj => by
    have e : gfl (x :: r) = x.toList ++ gfl r := by simp [gfl]
    have h0 := h x (List.mem_cons_self ..)
    have ih := gfl_get (fun y hy => h y (List.mem_cons_of_mem _ hy)) k c j u (by simpa using hk) hj
    rw [e, List.getElem?_append_right (by rw [Array.length_toList, h0, Nat.succ_mul]; omega), Array.length_toList, h0, Nat.succ_mul, show k * n + n + j - n = k * n + j by omega]
    exact ih
theorem addr0 (g j : Nat) : (⟨g, 0, none⟩ : Addr).add j = ⟨g, j, none⟩ := by unfold Addr.add; split <;> simp_all
theorem info_ex {T : TypeId} {z : Value} {k by' : Nat} (h : (Tryz.prog.info? T).map (fun i => (i.zero, i.size, i.bytes)) = some (some z, k, by')) : ∃ i, Tryz.prog.info? T = some i ∧ i.zero = some z ∧ i.size = k ∧ i.bytes = by' := by
  cases hi : Tryz.prog.info? T with
  | none => rw [hi] at h; cases h
  | some i =>
    rw [hi] at h
    injection h with h
    injection h with h1 h2
    injection h2 with h2 h3
    exact ⟨i, rfl, h1, h2, h3⟩
theorem append_gB {ops : Array Oper} {rest : List Oper} {o : Oper} {a : Act} {Q : Exit → Act → World → Prop} {w : World} {S T : TypeId} {z : Value} {k by' : Nat} (hI : (Tryz.prog.info? T).map (fun i => (i.zero, i.size, i.bytes)) = some (some z, k, by')) (hS : Tryz.prog.underlying S = some (.slice T)) (hzs : z.cells.size = k) (hk : 0 < k) (hgd : o.guard = none) {s x : Operand}
    (ho : o.op = .call { callee := .builtin .append, args := #[s, x], argTypes := #[S, S] }) {B : Nat} {v : Value} {L : List (Array Value)} (hs : a.eval s = v) (hown : w.ownsRow B T k v L.length (gfl L))
    {g : Nat} {c : Array Value} (hx : a.eval x = .slice (some ⟨g, 0, none⟩) 1 1) (hg : w.heap[g]? = some (.cells c T (0, 0))) (hc : c.size = k) (h1 : ∀ u ∈ c.toList, u.oneCell' = true) (hlen : L.length + 1 ≤ 140737488355328) (hb : (L.length + 1) * by' ≤ 140737488355328) (hbase : B ≤ w.heap.size)
    (h : ∀ v' w', w'.ownsRow B T k v' (L.length + 1) (gfl (L ++ [c])) → w.grownBy w' v.ownBlock → (v'.ownBlock = v.ownBlock ∨ v'.ownBlock = some w.heap.size) → wpList Tryz.prog ops Q rest (a.put o.dst v') w') : wpList Tryz.prog ops Q (o :: rest) a w := by
  obtain ⟨i, hi, hz0, hz1, hz2⟩ := info_ex hI
  refine wpList_append_own_at w hgd s x S ho B T i z k by' hS hi hz0 hz1 hz2 hzs hk v L.length (gfl L) hs hown ⟨g, 0, none⟩ 1 1 c.toList hx (by simp [hc]) (fun j u hu => ?_) h1 (by unfold maxLen; omega) hb hbase fun v' w' h1 h2 _ h4 => h v' w' (by rw [gfl_app]; simpa [gfl] using h1) h2 h4
  rw [addr0]
  exact blk_cell hg (by simpa using hu)
theorem append_g {ops : Array Oper} {rest : List Oper} {o : Oper} {a : Act} {Q : Exit → Act → World → Prop} {w : World} {S T : TypeId} {z : Value} {k by' : Nat} (hI : (Tryz.prog.info? T).map (fun i => (i.zero, i.size, i.bytes)) = some (some z, k, by')) (hS : Tryz.prog.underlying S = some (.slice T)) (hzs : z.cells.size = k) (hk : 0 < k) (hby : by' ≤ 1000) (hgd : o.guard = none) {s x : Operand}
    (ho : o.op = .call { callee := .builtin .append, args := #[s, x], argTypes := #[S, S] }) {B : Nat} {v : Value} {L : List (Array Value)} (hs : a.eval s = v) (hown : w.ownsRow B T k v L.length (gfl L))
    {g : Nat} {c : Array Value} (hx : a.eval x = .slice (some ⟨g, 0, none⟩) 1 1) (hg : w.heap[g]? = some (.cells c T (0, 0))) (hc : c.size = k) (h1 : ∀ u ∈ c.toList, u.oneCell' = true) (hlen : L.length ≤ 1000000) (hbase : B ≤ w.heap.size)
    (h : ∀ v' w', w'.ownsRow B T k v' (L.length + 1) (gfl (L ++ [c])) → w.grownBy w' v.ownBlock → (v'.ownBlock = v.ownBlock ∨ v'.ownBlock = some w.heap.size) → wpList Tryz.prog ops Q rest (a.put o.dst v') w') : wpList Tryz.prog ops Q (o :: rest) a w := by
  have hb : (L.length + 1) * by' ≤ 140737488355328 := by
    have : (L.length + 1) * by' ≤ 1000001 * 1000 := Nat.mul_le_mul (by omega) hby
    omega
  exact append_gB hI hS hzs hk hgd ho hs hown hx hg hc h1 (by omega) hb hbase h
theorem own_formG {w : World} {B : Nat} {e : TypeId} {k : Nat} {v : Value} {n : Nat} {xs : List Value} (h : w.ownsRow B e k v n xs) : ∃ a cap, v = .slice a n cap ∧ (0 < n → ∃ g, a = some ⟨g, 0, none⟩) := by
  rcases h.2 with ⟨rfl, h0⟩ | ⟨g, cap, cur, rfl, _⟩
  · exact ⟨none, 0, by rw [h0], fun hp => by omega⟩
  · exact ⟨_, cap, rfl, fun _ => ⟨g, rfl⟩⟩
theorem own_elt {w : World} {B g n m cap k i : Nat} {T : TypeId} {L : List (Array Value)} {c : Array Value} (h : w.ownsRow B T k (.slice (some ⟨g, 0, none⟩) m cap) n (gfl L)) (hl : ∀ c ∈ L, c.size = k) (hi : L[i]? = some c) : ∀ j u, c[j]? = some u → w.cell? ⟨g, 0 + i * k + j, none⟩ = some u := fun j u hu => by
  have := h.cells (g := g) rfl (i * k + j) u (gfl_get hl i c j u hi hu)
  rw [addr0] at this
  rw [Nat.zero_add]
  exact this
theorem own_gsl {α : Type} {k : Nat} {P : World → α → Array Value → Prop} {w : World} {B : Nat} {T : TypeId} {v : Value} {L : List (Array Value)} {xs : List α} (h : w.ownsRow B T k v L.length (gfl L)) (hl : ∀ c ∈ L, c.size = k) (hn : L.length = xs.length) (hm : xs.length ≤ 140737488351232) (hp : ∀ (i : Nat) (x : α) (c : Array Value), xs[i]? = some x → L[i]? = some c → P w x c) : GSl k P w v xs := by
  rw [hn] at h
  refine ⟨?_, hm⟩
  rcases id h.2 with ⟨rfl, h0⟩ | ⟨g, cap, cur, rfl, h1, h2, h3, _⟩
  · have : xs = [] := List.length_eq_zero_iff.1 h0
    subst this
    exact ⟨none, 0, rfl, ⟨Nat.le_refl _, fun _ => rfl⟩, .inl rfl⟩
  · refine ⟨_, cap, rfl, ⟨?_, fun e => by cases e⟩, .inr ⟨g, 0, rfl, fun i x hi => ?_⟩⟩
    · omega
    · obtain ⟨hlt, _⟩ := List.getElem?_eq_some_iff.1 hi
      have hiL : L[i]? = some (L[i]'(by omega)) := List.getElem?_eq_getElem (by omega)
      exact ⟨_, hp i x _ hi hiL, own_elt h hl hiL⟩
end
section
open Go.RowKit Go

end
end Go.Proofs.YtnkghcndaafmoaaGreatDoor

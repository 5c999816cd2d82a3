import Derived.Test.YtnbbnainmifenaaGreatDoorJd
import Derived.Test.YtnbbnainmifenaaGreatDoorJc
import Derived.Test.YtnbbnainmifenaaGreatDoorJb
import Derived.Laws.Rows
import Derived.Lib.SlBytesConst
import Derived.Sort.KeysCollected
import Derived.Shelf.AbstractIn
import Derived.RangeFuncSeq
import Derived.RangeFuncGives
import Derived.Sort.MapsRangeIn
import Derived.WalkKit
import Derived.OwnWalkIn
import Derived.TacticsInMore
import Derived.RegionIn
import Derived.LoopNIn
import Derived.LoopIn
import Derived.RangeFuncCalls
import Derived.RangeFuncLeaves
import Derived.Maps.AppendAt
namespace Go.Proofs.YtnbbnainmifenaaGreatDoor
section
open Go.RowKit Go
theorem drf_drw {L : List Blk} (hL : ndB L) : ∀ (X : List Blk) (s t : Dr), drf L X s = some t → Drw L s → Drw L t
  | [], s, t, h, hs => by
    rw [drf] at h
    rw [← Option.some.inj h]
    exact hs
  | x :: r, s, t, h, hs => by
    cases h1 : atB s.d x.1 with
    | some b =>
      by_cases hb : b = x.2
      · rw [drf_same h1 hb] at h
        exact drf_drw hL r s t h hs
      · rw [drf_unlike h1 hb] at h
        cases h
    | none =>
      have hst := hs.step hL (x := x) h1
      cases h2 : atB L x.1 with
      | none =>
        rw [drf_new h1 h2] at h
        rw [h2] at hst
        simp only [Option.isSome_none, Bool.false_eq_true, if_false, Option.getD_none, List.length_nil] at hst
        rw [show ((x.2.length : Int) - ((0 : Nat) : Int)) = x.2.length by omega] at hst
        exact drf_drw hL r _ t h hst
      | some b =>
        rw [h2] at hst
        simp only [Option.isSome_some, if_true, Option.getD_some, Nat.add_zero] at hst
        by_cases hb : b = x.2
        · rw [drf_stands h1 h2 hb] at h
          exact drf_drw hL r s t h hs
        · cases hd : dholds x.1.h x.1.d b with
          | true =>
            rw [drf_clash h1 h2 hb hd] at h
            cases h
          | false =>
            rw [drf_over h1 h2 hb hd] at h
            exact drf_drw hL r _ t h hst
theorem sz_le {L : List Blk} (h : ∀ p ∈ L, p.2.length ≤ 67108864) : szB L ≤ L.length * 67108864 := by
  induction L with
  | nil => simp [szB]
  | cons p L ih =>
    have h1 := ih (fun q hq => h q (List.mem_cons_of_mem _ hq))
    have h2 := h p List.mem_cons_self
    simp only [szB, List.map_cons, List.sum_cons, List.length_cons] at h1 ⊢
    omega
def layr (r : Nat) (L X : List Blk) (fault : Nat) : (Nat × Nat) × List Blk :=
  match drf L X ⟨[], 0, 0⟩ with
  | none => ((0, 134), L)
  | some s => if fault = 0 then if r < L.length + s.f then ((0, 135), L) else ((s.d.length, 0), mrg L s.d) else ((0, fault), L)
structure LayP (w : World) (g B r : Nat) (R : (Nat × Nat) × List Blk) (e : Ending) (w' : World) : Prop where
  e : e = .returned (.tuple #[.int .i64 (R.1.1 : Nat), .int .i64 (R.1.2 : Nat)])
  s : Sto w' g B r R.2
  k : Kp (fun q => q = g ∨ q = B) w w'
set_option maxRecDepth 1000000 in
theorem add64_any (a : Addr) (x y : Int) (w : World) (hc : w.cell? a = some (.int .i64 x)) (hz : w.frozen? a = false) (hs : -9223372036854775808 ≤ x + y ∧ x + y ≤ 9223372036854775807) : Calls Tryz.prog 36 #[.pointer (some a), .int .i64 y] w fun e w' => e = .returned (.int .i64 (x + y)) ∧ w' = w.setCell a (.int .i64 (x + y)) := by
  have hadd := run_call_add (P := Tryz.prog) Tryz.func55 (by kernel_rfl) (by kernel_rfl) (by kernel_rfl) .i64 (by kernel_rfl) (y := y) (s := x + y) hc hz (by simp [go_sem]; rw [IntKind.wrap_i64]; omega)
  obtain ⟨g, o, m⟩ := a
  go_enter Tryz.func36, Tryz.ntmps36
  go_wp2
  go_ret
  exact ⟨rfl, rfl⟩
set_option maxRecDepth 1000000 in
theorem load64_any (a : Addr) (x : Int) (w : World) (hc : w.cell? a = some (.int .i64 x)) : Calls Tryz.prog 40 #[.pointer (some a)] w fun e w' => e = .returned (.int .i64 x) ∧ w' = w := by
  have hl := run_call_load (P := Tryz.prog) Tryz.func63 (by kernel_rfl) (by kernel_rfl) (by kernel_rfl) .i64 (by kernel_rfl) (w := w) (a := a) (x := x) hc
  go_enter Tryz.func40, Tryz.ntmps40
  go_wp2
  go_ret
  exact ⟨rfl, rfl⟩
end
section
open Go.RowKit Go
theorem stc_set1 (r : Nat) (k k' : Int) (B : Nat) (z : Int) : (stc r k B z).setIfInBounds 1 (.int .i32 k') = stc r k' B z := rfl
theorem stc_set4 (r : Nat) (k : Int) (B : Nat) (z z' : Int) : (stc r k B z).setIfInBounds 4 (.int .i64 z') = stc r k B z' := rfl
structure Stl (w : World) (g B r : Nat) (z : Int) (L : List Blk) : Prop where
  c : w.heap[g]? = some (.cells (stc r 1 B z) 59 (0, 0))
  m : Mlb w B L
theorem Sto.lock {w : World} {g B r : Nat} {L : List Blk} (h : Sto w g B r L) : Stl (w.setCell ⟨g, 1, none⟩ (.int .i32 1)) g B r (szB L) L ∧ Kp (fun q => q = g) w (w.setCell ⟨g, 1, none⟩ (.int .i32 1)) := by
  have hk : Kp (fun q => q = g) w (w.setCell ⟨g, 1, none⟩ (.int .i32 1)) := (Kp.refl _ w).setCell _ _ (fun _ => rfl)
  refine ⟨⟨?_, h.m.kp hk (fun e => (h.m.ne h.c) e.symm)⟩, hk⟩
  have := blk_set 1 (.int .i32 1) h.c
  rw [stc_set1] at this
  exact this
theorem Stl.unlock {w : World} {g B r : Nat} {z : Int} {L : List Blk} (h : Stl w g B r z L) (hz : z = szB L) (hr : 1 ≤ r ∧ r ≤ 65536) (hn : L.length ≤ r) : Sto (w.setCell ⟨g, 1, none⟩ (.int .i32 0)) g B r L ∧ Kp (fun q => q = g) w (w.setCell ⟨g, 1, none⟩ (.int .i32 0)) := by
  have hk : Kp (fun q => q = g) w (w.setCell ⟨g, 1, none⟩ (.int .i32 0)) := (Kp.refl _ w).setCell _ _ (fun _ => rfl)
  refine ⟨⟨?_, h.m.kp hk (fun e => (h.m.ne h.c) e.symm), hr, hn⟩, hk⟩
  have := blk_set 1 (.int .i32 0) h.c
  rw [stc_set1, hz] at this
  exact this
theorem Stl.next {w wx : World} {g B r : Nat} {z : Int} {L : List Blk} (h : Stl w g B r z L) (hb : Below w.heap.size w wx) : Stl wx g B r z L := ⟨(hb.block _ (blk_lt h.c)).trans h.c, h.m.next hb⟩
theorem drf_len (L : List Blk) : ∀ (X : List Blk) (s t : Dr), drf L X s = some t → t.d.length ≤ s.d.length + X.length
  | [], s, t, h => by
    rw [drf] at h
    rw [← Option.some.inj h]
    exact Nat.le_refl _
  | x :: r, s, t, h => by
    have key : ∀ u : Dr, u.d.length ≤ s.d.length + 1 → drf L r u = some t → t.d.length ≤ s.d.length + (x :: r).length := fun u hu hd => by
      have := drf_len L r u t hd
      simp only [List.length_cons]
      omega
    cases h1 : atB s.d x.1 with
    | some b =>
      by_cases hb : b = x.2
      · rw [drf_same h1 hb] at h
        exact key _ (Nat.le_succ _) h
      · rw [drf_unlike h1 hb] at h
        cases h
    | none =>
      cases h2 : atB L x.1 with
      | none =>
        rw [drf_new h1 h2] at h
        exact key _ (Nat.le_refl _) h
      | some b =>
        by_cases hb : b = x.2
        · rw [drf_stands h1 h2 hb] at h
          exact key _ (Nat.le_succ _) h
        · cases hd : dholds x.1.h x.1.d b with
          | true =>
            rw [drf_clash h1 h2 hb hd] at h
            cases h
          | false =>
            rw [drf_over h1 h2 hb hd] at h
            exact key _ (Nat.le_refl _) h
set_option maxRecDepth 1000000 in
set_option maxHeartbeats 2000000 in
theorem lay13_any (w : World) (g B r : Nat) (L : List Blk) (hS : Sto w g B r L) (v : Value) (X : List Blk) (hX : ∀ wy, Kp (fun q => q = g) w wy → KSl wy v X) (hX6 : ∀ x ∈ X, x.2.length ≤ 67108864) (hn : X.length ≤ 1048576) (hcb : ∀ wy, Kp (fun q => q = g) w wy → Cb wy) (fault : Nat) :
    Calls Tryz.prog 20 #[.pointer (some ⟨g, 0, none⟩), v, .int .i64 (fault : Nat), .func (.func 19) #[] #[]] w (LayP w g B r (layr r L X fault)) := by
  have hlk := hS.lock
  have HST := hide hlk.1
  have HK1 := hide hlk.2
  have HS := hide hS
  have c1 : w.cell? ⟨g, 1, none⟩ = some (.int .i32 0) := blk_cell (j := 1) hS.c rfl
  have f1 := blk_frozen 1 hS.c
  have HD := hide (drafted13_any _ g B r 1 (szB L) L hlk.1.c hlk.1.m v X (hX _ hlk.2) hX6 hn (hcb _ hlk.2))
  clear hlk hS hX hX6 hcb
  go_enter_defers Tryz.func20, Tryz.ntmps20
  go_upto_region 3 with (go_at_call 28; refine (lockFree ⟨g, 1, none⟩ _ c1 f1).mono ?_; rintro e w' ⟨rfl, rfl⟩)
  generalize w.setCell ⟨g, 1, none⟩ (.int .i32 1) = w1 at *
  clear c1 f1
  have HDW := hide (drf_drw HS.out.m.nd X ⟨[], 0, 0⟩)
  cases hd : drf L X ⟨[], 0, 0⟩ with
  | none =>
    have HL : Hid (layr r L X fault = ((0, 134), L)) := by show _ = _; unfold layr; rw [hd]
    unfold DrP at HD
    rw [hd] at HD
    clear hd
    go_wp2_with (go_at_call 34; refine HD.out.mono ?_; rintro e w2 ⟨hb2, rfl⟩)
    have hb3 := hb2.trans ((below_alloc4 w2 (.cells #[.map none, .int .i64 0, .int .i64 0] 82)).mono hb2.size)
    have HE := hide (HST.out.next hb3)
    have HNE := hide HS.out.n
    have HKE : Hid (Kp (fun q => q = g ∨ q = B) w (w2.alloc (.cells #[.map none, .int .i64 0, .int .i64 0] 82))) := (HK1.out.mono (fun _ _ e => .inl e)).trans (Kp.of_below (S := fun _ => False) hb3) (fun _ _ h => h.elim)
    refine leaves_cons (f := 29) (args := #[.pointer (some ⟨g, 1, none⟩)]) (by simp) (by simp [go_sem]) ?_
    refine (unlockLate ⟨g, 1, none⟩ .returning _ (blk_cell (j := 1) HE.out.c rfl) (blk_frozen 1 HE.out.c)).mono ?_
    rintro e u' w'' ⟨rfl, rfl, rfl⟩
    have hu := HE.out.unlock rfl HS.out.h HNE.out
    exact ⟨_, results_tmp2 rfl _ _ _, by rw [HL.out]; rfl, by rw [HL.out]; exact hu.1, HKE.out.trans hu.2 (fun _ _ e => .inl e)⟩
  | some s =>
    unfold DrP at HD
    rw [hd] at HD
    have HW := hide (HDW.out s hd (Drw.start L))
    have HDL : Hid (s.d.length ≤ 1048576) := by have h := drf_len L X _ s hd; simp only [List.length_nil] at h; show _ ≤ _; omega
    go_upto_region 4 with (go_at_call 34; refine HD.out.mono ?_; rintro e w2 ⟨hb2, Bd, hBd, rfl, hMd⟩)
    have hb3 := hb2.trans ((below_alloc4 w2 (.cells #[.map (some Bd), .int .i64 (s.f : Nat), .int .i64 s.g] 82)).mono hb2.size)
    have HE := hide (HST.out.next hb3)
    have HT : Hid ((w2.alloc (.cells #[.map (some Bd), .int .i64 (s.f : Nat), .int .i64 s.g] 82)).heap[w2.heap.size]? = some (.cells #[.map (some Bd), .int .i64 (s.f : Nat), .int .i64 s.g] 82 (0, 0))) := heap_alloc_new w2 _
    have HMd := hide (hMd.next (below_alloc4 w2 (.cells #[.map (some Bd), .int .i64 (s.f : Nat), .int .i64 s.g] 82)))
    have HKE : Hid (Kp (fun q => q = g ∨ q = B) w (w2.alloc (.cells #[.map (some Bd), .int .i64 (s.f : Nat), .int .i64 s.g] 82))) := (HK1.out.mono (fun _ _ e => .inl e)).trans (Kp.of_below (S := fun _ => False) hb3) (fun _ _ h => h.elim)
    generalize w2.alloc (.cells #[.map (some Bd), .int .i64 (s.f : Nat), .int .i64 s.g] 82) = w3 at *
    have HBd : Hid (w1.heap.size ≤ Bd) := hBd
    have HLA : Hid (layr r L X fault = if fault = 0 then if r < L.length + s.f then ((0, 135), L) else ((s.d.length, 0), mrg L s.d) else ((0, fault), L)) := by show _ = _; unfold layr; rw [hd]
    clear hd HD HDW hb2 hBd hMd hb3
    by_cases hf0 : fault = 0
    · have g2 : (((fault : Nat) : Int) != 0) = false := by rw [hf0]; rfl
      have HLB : Hid (layr r L X fault = if r < L.length + s.f then ((0, 135), L) else ((s.d.length, 0), mrg L s.d)) := by show _ = _; rw [HLA.out, if_pos hf0]
      clear hf0 HLA
      go_upto_region 8 with fail
      have hsf : s.f ≤ 1048576 := by have h1 := HW.out.len; have h2 := len_mrg L s.d; have h3 := HDL.out; omega
      have hlr := HS.out.n
      have hr6 := HS.out.h.2
      have s0 : ∀ t : Ext w3, t.w'.cell? ⟨g, 0, none⟩ = some (.int .i64 (r : Nat)) := fun t => Ext.cell (blk_cell (j := 0) HE.out.c rfl) t
      have s3 : ∀ t : Ext w3, t.w'.cell? ⟨g, 3, none⟩ = some (.map (some B)) := fun t => Ext.cell (blk_cell (j := 3) HE.out.c rfl) t
      have t1 : ∀ t : Ext w3, t.w'.cell? ⟨w2.heap.size, 1, none⟩ = some (.int .i64 (s.f : Nat)) := fun t => Ext.cell (blk_cell (j := 1) HT.out rfl) t
      have hln : ∀ (t : Ext w3) ty, (Builtin.len_ #[46] ty #[.map (some B)]).run Tryz.prog t.w' = .ok (.int .i64 (L.length : Nat)) t.w' := fun t ty => (HE.out.m.next t.h).len ty
      have hwr : IntKind.i64.wrap ((L.length : Int) + (s.f : Int)) = (L.length : Int) + (s.f : Int) := by rw [IntKind.wrap_i64]; omega
      refine region_ext (by kernel_rfl) (by kernel_rfl) ?_
      repeat (
        refine wpQuiet_step (fun K hK => ?_)
        go_simp
        refine hK _ ?_
        clear hK K)
      refine wpQuiet_nil ?_
      rintro _ ⟨t4, rfl⟩
      have HE4 : Hid (Stl t4.w' g B r (szB L) L) := HE.out.next t4.h
      have HT4 : Hid (t4.w'.heap[w2.heap.size]? = some (.cells #[.map (some Bd), .int .i64 (s.f : Nat), .int .i64 s.g] 82 (0, 0))) := (t4.h.block _ (blk_lt HT.out)).trans HT.out
      have HM4 : Hid (Mlb t4.w' Bd s.d) := HMd.out.next t4.h
      have HK4 : Hid (Kp (fun q => q = g ∨ q = B) w t4.w') := HKE.out.trans (Kp.of_below (S := fun _ => False) t4.h) (fun _ _ h => h.elim)
      clear HE HT HMd HKE s0 s3 t1 hln
      generalize t4.w' = w4 at *
      by_cases hfull : r < L.length + s.f
      · have HL : Hid (layr r L X fault = ((0, 135), L)) := by show _ = _; rw [HLB.out, if_pos hfull]
        have g5 : ((r : Nat) : Int) < (L.length : Int) + (s.f : Int) := by omega
        have HE := HE4
        have HKE := HK4
        have HNE := hide HS.out.n
        clear hfull HLB
        go_wp2_with fail
        refine leaves_cons (f := 29) (args := #[.pointer (some ⟨g, 1, none⟩)]) (by simp) (by simp [go_sem]) ?_
        refine (unlockLate ⟨g, 1, none⟩ .returning _ (blk_cell (j := 1) HE.out.c rfl) (blk_frozen 1 HE.out.c)).mono ?_
        rintro e u' w'' ⟨rfl, rfl, rfl⟩
        have hu := HE.out.unlock rfl HS.out.h HNE.out
        exact ⟨_, results_tmp2 rfl _ _ _, by rw [HL.out]; rfl, by rw [HL.out]; exact hu.1, HKE.out.trans hu.2 (fun _ _ e => .inl e)⟩
      · have HL : Hid (layr r L X fault = ((s.d.length, 0), mrg L s.d)) := by show _ = _; rw [HLB.out, if_neg hfull]
        have g5 : ¬ ((r : Nat) : Int) < (L.length : Int) + (s.f : Int) := by omega
        have HNE : Hid ((mrg L s.d).length ≤ r) := by have := HW.out.len; show _ ≤ _; omega
        clear hfull HLB
        go_upto_region 10 with fail
        have HBB : Hid (B ≠ Bd) := by
          have h1 := HS.out.m.lt
          have h2 := HK1.out.size
          have h3 := HBd.out
          show _ ≠ _
          omega
        have s3 : ∀ t : Ext w4, t.w'.cell? ⟨g, 3, none⟩ = some (.map (some B)) := fun t => Ext.cell (blk_cell (j := 3) HE4.out.c rfl) t
        have t0 : ∀ t : Ext w4, t.w'.cell? ⟨w2.heap.size, 0, none⟩ = some (.map (some Bd)) := fun t => Ext.cell (blk_cell (j := 0) HT4.out rfl) t
        refine region_ext_tail 6 (by kernel_rfl) (by kernel_rfl) ?_
        simp only [List.take_succ_cons, List.take_zero, List.drop_succ_cons, List.drop_zero]
        repeat (
          refine wpQuiet_step (fun K hK => ?_)
          go_simp
          refine hK _ ?_
          clear hK K)
        refine wpQuiet_nil ?_
        rintro _ ⟨t5, rfl⟩
        have HC := hide (copy13_any t5.w' B Bd L s.d (HE4.out.m.next t5.h) (HM4.out.next t5.h) HBB.out (by have := HDL.out; omega))
        have HT5 : Hid (t5.w'.heap[w2.heap.size]? = some (.cells #[.map (some Bd), .int .i64 (s.f : Nat), .int .i64 s.g] 82 (0, 0))) := (t5.h.block _ (blk_lt HT4.out)).trans HT4.out
        have HG5 : Hid (t5.w'.heap[g]? = some (.cells (stc r 1 B (szB L)) 59 (0, 0))) := (t5.h.block _ (blk_lt HE4.out.c)).trans HE4.out.c
        have HK5 : Hid (Kp (fun q => q = g ∨ q = B) w t5.w') := HK4.out.trans (Kp.of_below (S := fun _ => False) t5.h) (fun _ _ h => h.elim)
        have HM5 := hide (HM4.out.next t5.h)
        have HB5 := hide (HE4.out.m.next t5.h)
        generalize t5.w' = w5 at *
        clear s3 t0 HE4 HT4 HM4 HK4
        go_upto_region 11 with (go_at_call 35; refine HC.out.mono ?_; rintro e w6 ⟨rfl, hP6⟩)
        have HM6 := hide hP6.out.1
        have hk6 := hP6.out.2
        have HT6 : Hid (w6.heap[w2.heap.size]? = some (.cells #[.map (some Bd), .int .i64 (s.f : Nat), .int .i64 s.g] 82 (0, 0))) := (hk6.block _ (blk_lt HT5.out) (HB5.out.ne HT5.out)).trans HT5.out
        have HG6 : Hid (w6.heap[g]? = some (.cells (stc r 1 B (szB L)) 59 (0, 0))) := (hk6.block _ (blk_lt HG5.out) (HB5.out.ne HG5.out)).trans HG5.out
        have HK6 : Hid (Kp (fun q => q = g ∨ q = B) w w6) := HK5.out.trans hk6 (fun _ _ e => .inr e)
        have HD6 : Hid (Mlb w6 Bd s.d) := HM5.out.kp hk6 (fun e => HBB.out e.symm)
        clear hP6 hk6 HC HT5 HG5 HK5 HM5 HB5
        have t2 : ∀ t : Ext w6, t.w'.cell? ⟨w2.heap.size, 2, none⟩ = some (.int .i64 s.g) := fun t => Ext.cell (blk_cell (j := 2) HT6.out rfl) t
        refine region_ext_tail 5 (by kernel_rfl) (by kernel_rfl) ?_
        simp only [List.take_succ_cons, List.take_zero, List.drop_succ_cons, List.drop_zero]
        repeat (
          refine wpQuiet_step (fun K hK => ?_)
          go_simp
          refine hK _ ?_
          clear hK K)
        refine wpQuiet_nil ?_
        rintro _ ⟨t7, rfl⟩
        have HT7 : Hid (t7.w'.heap[w2.heap.size]? = some (.cells #[.map (some Bd), .int .i64 (s.f : Nat), .int .i64 s.g] 82 (0, 0))) := (t7.h.block _ (blk_lt HT6.out)).trans HT6.out
        have HG7 : Hid (t7.w'.heap[g]? = some (.cells (stc r 1 B (szB L)) 59 (0, 0))) := (t7.h.block _ (blk_lt HG6.out)).trans HG6.out
        have HK7 : Hid (Kp (fun q => q = g ∨ q = B) w t7.w') := HK6.out.trans (Kp.of_below (S := fun _ => False) t7.h) (fun _ _ h => h.elim)
        have HM7 := hide (HM6.out.next t7.h)
        have HD7 := hide (HD6.out.next t7.h)
        generalize t7.w' = w7 at *
        clear t2 HM6 HT6 HG6 HK6 HD6
        have HSZ : Hid (((szB L : Nat) : Int) + s.g = szB (mrg L s.d)) := HW.out.sz.symm
        have HSB : Hid (-9223372036854775808 ≤ ((szB L : Nat) : Int) + s.g ∧ ((szB L : Nat) : Int) + s.g ≤ 9223372036854775807) := by
          have h1 := sz_le (fun p hp => (HM7.out.ok p hp).n)
          have h2 := HSZ.out
          have h3 := HNE.out
          show _ ∧ _
          rw [h2]
          omega
        have HAD := hide (add64_any ⟨g, 4, none⟩ (szB L) s.g w7 (blk_cell (j := 4) HG7.out rfl) (blk_frozen 4 HG7.out) HSB.out)
        go_upto_region 12 with (go_at_call 36; refine HAD.out.mono ?_; rintro e w8 ⟨rfl, rfl⟩)
        have hk8 : Kp (fun q => q = g) w7 (w7.setCell ⟨g, 4, none⟩ (.int .i64 ((szB L : Nat) + s.g))) := (Kp.refl _ w7).setCell _ _ (fun _ => rfl)
        have HE : Hid (Stl (w7.setCell ⟨g, 4, none⟩ (.int .i64 ((szB L : Nat) + s.g))) g B r ((szB L : Nat) + s.g) (mrg L s.d)) := ⟨by have := blk_set 4 (.int .i64 ((szB L : Nat) + s.g)) HG7.out; rw [stc_set4] at this; exact this, HM7.out.kp hk8 (fun e => HM7.out.ne HG7.out e.symm)⟩
        have HKE : Hid (Kp (fun q => q = g ∨ q = B) w (w7.setCell ⟨g, 4, none⟩ (.int .i64 ((szB L : Nat) + s.g)))) := HK7.out.trans hk8 (fun _ _ e => .inl e)
        have HD8 : Hid (Mlb (w7.setCell ⟨g, 4, none⟩ (.int .i64 ((szB L : Nat) + s.g))) Bd s.d) := HD7.out.kp hk8 (fun e => HD7.out.ne HG7.out e.symm)
        have t9 : (w7.setCell ⟨g, 4, none⟩ (.int .i64 ((szB L : Nat) + s.g))).cell? ⟨w2.heap.size, 0, none⟩ = some (.map (some Bd)) := blk_cell (j := 0) ((hk8.block _ (blk_lt HT7.out) (ne_of_type HT7.out HG7.out (by decide))).trans HT7.out) rfl
        generalize w7.setCell ⟨g, 4, none⟩ (.int .i64 ((szB L : Nat) + s.g)) = w8 at *
        clear hk8 HG7 HT7 HK7 HM7 HD7 HAD
        go_wp2_with (refine wpList_lenB (B := Bd) (L := s.d) rfl rfl rfl HD8.out ?_)
        refine leaves_cons (f := 29) (args := #[.pointer (some ⟨g, 1, none⟩)]) (by simp) (by simp [go_sem]) ?_
        refine (unlockLate ⟨g, 1, none⟩ .returning _ (blk_cell (j := 1) HE.out.c rfl) (blk_frozen 1 HE.out.c)).mono ?_
        rintro e u' w'' ⟨rfl, rfl, rfl⟩
        have hu := HE.out.unlock HSZ.out HS.out.h HNE.out
        have HP : LayP w g B r (layr r L X fault) (.returned (.tuple #[.int .i64 (s.d.length : Nat), .int .i64 0])) (w8.setCell ⟨g, 1, none⟩ (.int .i32 0)) := by
          rw [HL.out]
          exact ⟨rfl, hu.1, HKE.out.trans hu.2 (fun _ _ e => .inl e)⟩
        refine ⟨.tuple #[.int .i64 (s.d.length : Nat), .int .i64 0], (results_tmp2 (t := 8) (u := 9) rfl _ _ _).trans ?_, HP⟩
        rfl
    · have HL : Hid (layr r L X fault = ((0, fault), L)) := by show _ = _; rw [HLA.out, if_neg hf0]
      have HNE := hide HS.out.n
      have g2 : (((fault : Nat) : Int) != 0) = true := by rw [bne_iff_ne]; omega
      clear hf0 HLA
      go_wp2_with fail
      refine leaves_cons (f := 29) (args := #[.pointer (some ⟨g, 1, none⟩)]) (by simp) (by simp [go_sem]) ?_
      refine (unlockLate ⟨g, 1, none⟩ .returning _ (blk_cell (j := 1) HE.out.c rfl) (blk_frozen 1 HE.out.c)).mono ?_
      rintro e u' w'' ⟨rfl, rfl, rfl⟩
      have hu := HE.out.unlock rfl HS.out.h HNE.out
      exact ⟨_, results_tmp2 rfl _ _ _, by rw [HL.out]; rfl, by rw [HL.out]; exact hu.1, HKE.out.trans hu.2 (fun _ _ e => .inl e)⟩
end
section
open Go.RowKit Go
theorem lof_lkb {c : Nat} (b : List Nat) (hc : c < 18446744073709551616) : Lkb (lof c b).1 := by
  unfold lof
  split
  · exact ⟨hc, by simp, sha_byte b, by simp only [sha_len]; decide⟩
  · exact ⟨by simp [Lk.none], by simp [Lk.none], by simp [Lk.none], by simp [Lk.none]⟩
set_option maxRecDepth 1000000 in
set_option maxHeartbeats 1000000 in
theorem of_any (w : World) (c : Nat) (vb : Value) (b : List Nat) (hcb : Cb w) (hb : BSl w vb b) (hbl : b.length ≤ 140737488351232) :
    Calls Tryz.prog 17 #[.int .u64 (c : Nat), vb] w fun e w' => e = .returned (.tuple #[lkv (lof c b).1, .int .i64 ((lof c b).2 : Nat)]) ∧ Below w.heap.size w w' := by
  have HB := hide hb
  have HBL := hide hbl
  have HCB := hide hcb
  obtain ⟨⟨a, cap, rfl, hn, hc⟩, hmax, hby⟩ := hb
  clear hn hc hby hbl hcb
  have HR0 : Hid ((w.alloc (.cells #[.int .i64 0, .int .u64 0, .int .u64 0, .string ⟨#[]⟩] 38)).heap[w.heap.size]? = some (.cells zlk 38 (0, 0))) := heap_alloc_new w _
  have HB0 := hide (below_alloc4 w (.cells #[.int .i64 0, .int .u64 0, .int .u64 0, .string ⟨#[]⟩] 38))
  generalize hn : (c : Int) = n at *
  have HN := hide hn
  clear hn
  by_cases hc63 : n < 9223372036854775808
  · have HP : Hid (lof c b = (⟨1, c, 18, sha b⟩, 0)) := by show _ = _; unfold lof; rw [if_pos (by have := HN.out; omega)]
    rw [HP.out]
    have hc64 : ¬ (9223372036854775808 : Int) ≤ n := by omega
    clear HP
    go_enter Tryz.func17, Tryz.ntmps17
    go_wp2_with fail
    generalize w.alloc (.cells #[.int .i64 0, .int .u64 0, .int .u64 0, .string ⟨#[]⟩] 38) = w0 at *
    refine (sum_any w0 _ b (HCB.out.below HB0.out) (HB.out.move (keep_below HB0.out)) HBL.out).mono ?_
    rintro e w1 ⟨rfl, hb1⟩
    have HI := hide (info32d b)
    have HON := hide (one32 b)
    have HSL := hide (sha_len b)
    have HSB := hide (sha_byte b)
    have hb2 := hb1.trans ((below_alloc4 w1 (.cells (bv (sha b)).toArray 77)).mono hb1.size)
    have HR2 : Hid ((w1.alloc (.cells (bv (sha b)).toArray 77)).heap[w.heap.size]? = some (.cells zlk 38 (0, 0))) := (hb2.block _ (blk_lt HR0.out)).trans HR0.out
    have HB2 : Hid (Below w.heap.size w (w1.alloc (.cells (bv (sha b)).toArray 77))) := HB0.out.trans (hb2.mono HB0.out.size)
    have HBD := hide (bsl_block (heap_alloc_new w1 (.cells (bv (sha b)).toArray 77)) HSB.out (by rw [HSL.out]; decide))
    rw [HSL.out] at HBD
    clear hb1 hb2 HR0 HB0
    generalize hD : sha b = D at HI HON HSL HSB HR2 HB2 HBD ⊢
    have HDE := hide hD
    clear hD
    have cv := HBD.out.text
    have HAG : Hid (lcs ⟨1, c, 18, D⟩ = #[.int .i64 1, .int .u64 n, .int .u64 18, .string (nstr D)]) := by show _ = _; rw [← HN.out]; rfl
    go_wp2_with (first
      | (refine wpList_storeRow rfl rfl w1.heap.size _ (bv D).toArray 77 rfl rfl (heap_alloc_new w1 _) HI.out (by simp [bv_len, HSL.out]) HON.out ?_; rw [World.setRow_alloc_new])
      | (refine wpList_storeLk rfl rfl w.heap.size zlk ⟨1, c, 18, D⟩ rfl (by rw [HAG.out]; rfl) rfl HR2.out ?_))
    exact bodyPost_ret (end_c2 rfl Tryz.underlying38 info61 rfl (row_same HR2.out) rfl rfl) rfl ⟨by rw [HDE.out]; rfl, HB2.out.trans ((row_kp _ _ _).below HB2.out.size (fun q e => by omega))⟩
  · have HP : Hid (lof c b = (Lk.none, 40)) := by show _ = _; unfold lof; rw [if_neg (by have := HN.out; omega)]
    rw [HP.out]
    have hc64 : (9223372036854775808 : Int) ≤ n := by omega
    clear HP hc63
    go_enter Tryz.func17, Tryz.ntmps17
    go_wp2_with (refine wpList_zero rfl rfl w.heap.size rfl rfl HR0.out ?_)
    exact bodyPost_ret (end_c2 rfl Tryz.underlying38 info61 rfl HR0.out rfl rfl) rfl ⟨rfl, HB0.out⟩
end
section
open Go.RowKit Go
def putr13 (r : Nat) (L : List Blk) (c : Nat) (b : List Nat) : (Lk × Nat) × List Blk :=
  if c < 9223372036854775808 then
    if 67108864 < b.length then ((Lk.none, 133), L)
    else if (layr r L [((lof c b).1, b)] 0).1.2 = 0 then (((lof c b).1, 0), (layr r L [((lof c b).1, b)] 0).2) else ((Lk.none, (layr r L [((lof c b).1, b)] 0).1.2), (layr r L [((lof c b).1, b)] 0).2)
  else ((Lk.none, 131), L)
structure PutP (w : World) (g B r : Nat) (R : (Lk × Nat) × List Blk) (e : Ending) (w' : World) : Prop where
  e : e = .returned (.tuple #[lkv R.1.1, .int .i64 (R.1.2 : Nat)])
  s : Sto w' g B r R.2
  k : Kp (fun q => q = g ∨ q = B) w w'
theorem layr_le (r : Nat) (L X : List Blk) : (layr r L X 0).1.2 ≤ 135 := by
  unfold layr
  split
  · simp
  · split
    · split <;> simp
    · simp
theorem Sto.next {w wx : World} {g B r : Nat} {L : List Blk} (h : Sto w g B r L) (hb : Below w.heap.size w wx) : Sto wx g B r L := ⟨(hb.block _ (blk_lt h.c)).trans h.c, h.m.next hb, h.h, h.n⟩
set_option maxRecDepth 1000000 in
set_option maxHeartbeats 1000000 in
theorem put13_any (w : World) (g B r : Nat) (L : List Blk) (hS : Sto w g B r L) (c : Nat) (hc : c < 18446744073709551616) (vb : Value) (b : List Nat) (hb : ∀ wy, Kp (fun q => q = g) w wy → BSl wy vb b) (hbl : b.length ≤ 140737488351232) (hcb : ∀ wy, Kp (fun q => q = g) w wy → Cb wy) :
    Calls Tryz.prog 11 #[.pointer (some ⟨g, 0, none⟩), .int .u64 (c : Nat), vb] w (PutP w g B r (putr13 r L c b)) := by
  have hb0 := hb w (Kp.refl _ _)
  have hcb0 := hcb w (Kp.refl _ _)
  have HS := hide hS
  have HBH := hide hb
  have HCB := hide hcb
  have HC0 := hide hcb0
  have HB0 := hide hb0
  have HBL := hide hbl
  have HC := hide hc
  obtain ⟨⟨a, cap, rfl, -, -⟩, -, hby⟩ := hb0
  have HBY := hide hby
  have HR0 : Hid ((w.alloc (.cells #[.int .i64 0, .int .u64 0, .int .u64 0, .string ⟨#[]⟩] 38)).heap[w.heap.size]? = some (.cells zlk 38 (0, 0))) := heap_alloc_new w _
  have HB1 := hide (below_alloc4 w (.cells #[.int .i64 0, .int .u64 0, .int .u64 0, .string ⟨#[]⟩] 38))
  clear hS hb hcb hcb0 hbl hc hby
  generalize hn : (c : Int) = n at *
  have HN := hide hn
  clear hn
  go_enter Tryz.func11, Tryz.ntmps11
  go_upto_region 1 with fail
  generalize w.alloc (.cells #[.int .i64 0, .int .u64 0, .int .u64 0, .string ⟨#[]⟩] 38) = w1 at *
  have HS1 := hide (HS.out.next HB1.out)
  have HK1 : Hid (Kp (fun q => q = g ∨ q = B) w w1) := Kp.of_below HB1.out
  by_cases hc63 : n < 9223372036854775808
  · have hc64 : ¬ (9223372036854775808 : Int) ≤ n := by omega
    have HCC : Hid (c < 9223372036854775808) := by have := HN.out; show _ < _; omega
    clear hc63
    by_cases hbl : 67108864 < b.length
    · have g3 : (67108864 : Int) < b.length := by omega
      have HPR : Hid (putr13 r L c b = ((Lk.none, 133), L)) := by show _ = _; unfold putr13; rw [if_pos HCC.out, if_pos hbl]
      clear hbl
      go_wp2_with (refine wpList_zero rfl rfl w.heap.size rfl rfl HR0.out ?_)
      have HP : PutP w g B r (putr13 r L c b) (.returned (.tuple #[lkv Lk.none, .int .i64 133])) w1 := by rw [HPR.out]; exact ⟨rfl, HS1.out, HK1.out⟩
      exact bodyPost_ret (end_c2 rfl Tryz.underlying38 info61 rfl HR0.out rfl rfl) rfl HP
    · have g3 : ¬ (67108864 : Int) < b.length := by omega
      have HB6 : Hid (b.length ≤ 67108864) := by show _ ≤ _; omega
      have HPR : Hid (putr13 r L c b = if (layr r L [((lof c b).1, b)] 0).1.2 = 0 then (((lof c b).1, 0), (layr r L [((lof c b).1, b)] 0).2) else ((Lk.none, (layr r L [((lof c b).1, b)] 0).1.2), (layr r L [((lof c b).1, b)] 0).2)) := by show _ = _; unfold putr13; rw [if_pos HCC.out, if_neg hbl]
      clear hbl
      have HOF := hide (of_any w1 c (.slice a b.length cap) b (HC0.out.below HB1.out) (HB0.out.move (keep_below HB1.out)) HBL.out)
      rw [HN.out] at HOF
      have HLB := hide (lof_lkb b HC.out)
      have HLV : Hid ((lof c b).1.v = 1) := by show _ = _; unfold lof; rw [if_pos HCC.out]
      obtain ⟨l, hl⟩ : ∃ l, (lof c b).1 = l := ⟨_, rfl⟩
      rw [hl] at HOF HLB HLV HPR
      clear hl
      simp only [lkv] at HOF
      go_upto_region 6 with (go_at_call 17; refine HOF.out.mono ?_; rintro e w2 ⟨rfl, hb2⟩)
      have HB3 : Hid (Below w.heap.size w (w2.alloc (.cells #[.int .i64 l.v, .int .u64 (l.c : Nat), .int .u64 (l.h : Nat), .string (nstr l.d)] 38))) := (HB1.out.trans (hb2.mono HB1.out.size)).trans ((below_alloc4 w2 _).mono (HB1.out.trans (hb2.mono HB1.out.size)).size)
      have HR3 : Hid ((w2.alloc (.cells #[.int .i64 l.v, .int .u64 (l.c : Nat), .int .u64 (l.h : Nat), .string (nstr l.d)] 38)).heap[w.heap.size]? = some (.cells zlk 38 (0, 0))) := blk_alloc _ ((hb2.block _ (blk_lt HR0.out)).trans HR0.out)
      have HT3 : Hid ((w2.alloc (.cells #[.int .i64 l.v, .int .u64 (l.c : Nat), .int .u64 (l.h : Nat), .string (nstr l.d)] 38)).heap[w2.heap.size]? = some (.cells (lcs l) 38 (0, 0))) := heap_alloc_new w2 _
      have HLZ : Hid (w.heap.size < w2.heap.size) := Nat.lt_of_lt_of_le (blk_lt HR0.out) hb2.size
      clear HOF hb2 HR0 HS1 HK1
      generalize w2.alloc (.cells #[.int .i64 l.v, .int .u64 (l.c : Nat), .int .u64 (l.h : Nat), .string (nstr l.d)] 38) = w3 at *
      have c0 : w3.cell? ⟨w2.heap.size, 0, none⟩ = some (.int .i64 l.v) := blk_cell (j := 0) HT3.out rfl
      have c1 : w3.cell? ⟨w2.heap.size, 1, none⟩ = some (.int .u64 (l.c : Nat)) := blk_cell (j := 1) HT3.out rfl
      have c2 : w3.cell? ⟨w2.heap.size, 2, none⟩ = some (.int .u64 (l.h : Nat)) := blk_cell (j := 2) HT3.out rfl
      have c3 : w3.cell? ⟨w2.heap.size, 3, none⟩ = some (.string (nstr l.d)) := blk_cell (j := 3) HT3.out rfl
      have HB4 : Hid (Below w.heap.size w (w3.alloc (.cells #[.int .i64 l.v, .int .u64 (l.c : Nat), .int .u64 (l.h : Nat), .string (nstr l.d), .slice a b.length cap] 43))) := HB3.out.trans ((below_alloc4 w3 _).mono HB3.out.size)
      have HS4 : Hid (Sto (w3.alloc (.cells #[.int .i64 l.v, .int .u64 (l.c : Nat), .int .u64 (l.h : Nat), .string (nstr l.d), .slice a b.length cap] 43)) g B r L) := HS.out.next HB4.out
      have hgz : g < w.heap.size := blk_lt HS.out.c
      have hBz : B < w.heap.size := HS.out.m.lt
      have hz3 : w.heap.size ≤ w3.heap.size := HB3.out.size
      have HT4 : Hid ((w3.alloc (.cells #[.int .i64 l.v, .int .u64 (l.c : Nat), .int .u64 (l.h : Nat), .string (nstr l.d), .slice a b.length cap] 43)).heap[w3.heap.size]? = some (.cells (bcs (l, b) (.slice a b.length cap)) 43 (0, 0))) := heap_alloc_new w3 _
      have HKS : Hid (∀ wy, Kp (fun q => q = g) (w3.alloc (.cells #[.int .i64 l.v, .int .u64 (l.c : Nat), .int .u64 (l.h : Nat), .string (nstr l.d), .slice a b.length cap] 43)) wy → KSl wy (.slice (some ⟨w3.heap.size, 0, none⟩) 1 1) [(l, b)]) := fun wy hy => by
        refine ⟨⟨_, 1, rfl, ⟨Nat.le_refl _, fun h => by cases h⟩, .inr ⟨w3.heap.size, 0, rfl, fun i x hx => ?_⟩⟩, by simp⟩
        rcases i with _ | i
        · obtain rfl : (l, b) = x := by simpa using hx
          have hbk := (hy.block _ (blk_lt HT4.out) (by omega)).trans HT4.out
          refine ⟨bcs (l, b) (.slice a b.length cap), ⟨⟨_, rfl, HBH.out wy ((Kp.of_below HB4.out).trans hy (fun _ _ e => e))⟩, ⟨HLB.out, by rw [HLV.out]; decide⟩, HBL.out⟩, fun j u hj => ?_⟩
          rw [show 0 + 0 * 5 + j = j by omega]
          exact blk_cell hbk hj
        · simp at hx
      have HLY := hide (lay13_any (w3.alloc (.cells #[.int .i64 l.v, .int .u64 (l.c : Nat), .int .u64 (l.h : Nat), .string (nstr l.d), .slice a b.length cap] 43)) g B r L HS4.out (.slice (some ⟨w3.heap.size, 0, none⟩) 1 1) [(l, b)] HKS.out (fun x hx => by obtain rfl : x = (l, b) := (by simpa using hx); exact HB6.out) (by simp) (fun wy hy => HCB.out wy ((Kp.of_below HB4.out).trans hy (fun _ _ e => e))) 0)
      have HR4 : Hid ((w3.alloc (.cells #[.int .i64 l.v, .int .u64 (l.c : Nat), .int .u64 (l.h : Nat), .string (nstr l.d), .slice a b.length cap] 43)).heap[w.heap.size]? = some (.cells zlk 38 (0, 0))) := blk_alloc _ HR3.out
      have HT5 : Hid ((w3.alloc (.cells #[.int .i64 l.v, .int .u64 (l.c : Nat), .int .u64 (l.h : Nat), .string (nstr l.d), .slice a b.length cap] 43)).heap[w2.heap.size]? = some (.cells (lcs l) 38 (0, 0))) := blk_alloc _ HT3.out
      have HE := hide (layr_le r L [(l, b)])
      obtain ⟨R, hR⟩ : ∃ R, layr r L [(l, b)] 0 = R := ⟨_, rfl⟩
      rw [hR] at HLY HPR HE
      clear hR HKS HT4 HR3 HT3 HS4
      go_upto_region 7 with (go_at_call 20; refine HLY.out.mono ?_; rintro e w5 ⟨rfl, hs5, hk5⟩)
      generalize w3.alloc (.cells #[.int .i64 l.v, .int .u64 (l.c : Nat), .int .u64 (l.h : Nat), .string (nstr l.d), .slice a b.length cap] 43) = w4 at *
      have HS5 := hide hs5
      have HR5 : Hid (w5.heap[w.heap.size]? = some (.cells zlk 38 (0, 0))) := (hk5.block _ (blk_lt HR4.out) (by omega)).trans HR4.out
      have hzz := HLZ.out
      have HT6 : Hid (w5.heap[w2.heap.size]? = some (.cells (lcs l) 38 (0, 0))) := (hk5.block _ (blk_lt HT5.out) (by omega)).trans HT5.out
      have HK5 : Hid (Kp (fun q => q = g ∨ q = B) w w5) := (Kp.of_below HB4.out).trans hk5 (fun _ _ e => e)
      obtain ⟨⟨n1, er⟩, L2⟩ := R
      simp only at HPR HE HS5
      clear hs5 hk5 HLY HB4 HT5 HR4 HB3 c0 c1 c2 c3
      by_cases he0 : er = 0
      · subst he0
        have HQ : Hid (putr13 r L c b = ((l, 0), L2)) := by show _ = _; rw [HPR.out]; simp
        have d0 : w5.cell? ⟨w2.heap.size, 0, none⟩ = some (.int .i64 l.v) := blk_cell (j := 0) HT6.out rfl
        have d1 : w5.cell? ⟨w2.heap.size, 1, none⟩ = some (.int .u64 (l.c : Nat)) := blk_cell (j := 1) HT6.out rfl
        have d2 : w5.cell? ⟨w2.heap.size, 2, none⟩ = some (.int .u64 (l.h : Nat)) := blk_cell (j := 2) HT6.out rfl
        have d3 : w5.cell? ⟨w2.heap.size, 3, none⟩ = some (.string (nstr l.d)) := blk_cell (j := 3) HT6.out rfl
        go_wp2_with (refine wpList_storeLk rfl rfl w.heap.size zlk l rfl rfl rfl HR5.out ?_)
        have hk6 := row_kp w5 w.heap.size (lcs l)
        have HP : PutP w g B r (putr13 r L c b) (.returned (.tuple #[lkv l, .int .i64 0])) (w5.setRow w.heap.size (lcs l)) := by
          rw [HQ.out]
          exact ⟨rfl, ⟨(hk6.block _ (blk_lt HS5.out.c) (by omega)).trans HS5.out.c, HS5.out.m.kp hk6 (by omega), HS5.out.h, HS5.out.n⟩, HK5.out.trans hk6 (fun q hq e => by omega)⟩
        exact bodyPost_ret (end_c2 rfl Tryz.underlying38 info61 rfl (row_same HR5.out) rfl rfl) rfl HP
      · have g7 : (((er : Nat) : Int) != 0) = true := by rw [bne_iff_ne]; omega
        have HQ : Hid (putr13 r L c b = ((Lk.none, er), L2)) := by show _ = _; rw [HPR.out, if_neg he0]
        clear he0
        go_wp2_with (refine wpList_zero rfl rfl w.heap.size rfl rfl HR5.out ?_)
        have HP : PutP w g B r (putr13 r L c b) (.returned (.tuple #[lkv Lk.none, .int .i64 (er : Nat)])) w5 := by rw [HQ.out]; exact ⟨rfl, HS5.out, HK5.out⟩
        exact bodyPost_ret (end_c2 rfl Tryz.underlying38 info61 rfl HR5.out rfl rfl) rfl HP
  · have hc64 : (9223372036854775808 : Int) ≤ n := by omega
    have HPR : Hid (putr13 r L c b = ((Lk.none, 131), L)) := by show _ = _; unfold putr13; rw [if_neg (by have := HN.out; omega)]
    clear hc63
    go_wp2_with (refine wpList_zero rfl rfl w.heap.size rfl rfl HR0.out ?_)
    have HP : PutP w g B r (putr13 r L c b) (.returned (.tuple #[lkv Lk.none, .int .i64 131])) w1 := by rw [HPR.out]; exact ⟨rfl, HS1.out, HK1.out⟩
    exact bodyPost_ret (end_c2 rfl Tryz.underlying38 info61 rfl HR0.out rfl rfl) rfl HP
end
section
open Go.RowKit Go
theorem infoSb : (Tryz.prog.info? 74).map (·.size) = some 1 := by kernel_rfl
set_option maxRecDepth 1000000 in
theorem size13_any (w : World) (g B r : Nat) (L : List Blk) (hS : Sto w g B r L) : Calls Tryz.prog 22 #[.pointer (some ⟨g, 0, none⟩)] w fun e w' => e = .returned (.int .i64 (szB L : Nat)) ∧ w' = w := by
  have HL := hide (load64_any ⟨g, 4, none⟩ (szB L) w (blk_cell (j := 4) hS.c rfl))
  clear hS
  go_enter Tryz.func22, Tryz.ntmps22
  go_wp2_with (go_at_call 40; refine HL.out.mono ?_; rintro e w1 ⟨rfl, rfl⟩)
  go_ret
  exact ⟨rfl, rfl⟩
structure SamP (w : World) (g B r : Nat) (L : List Blk) (v : Value) (e : Ending) (w' : World) : Prop where
  e : e = .returned v
  s : Sto w' g B r L
  k : Kp (fun q => q = g) w w'
set_option maxRecDepth 1000000 in
set_option maxHeartbeats 1000000 in
theorem len13_any (w : World) (g B r : Nat) (L : List Blk) (hS : Sto w g B r L) : Calls Tryz.prog 14 #[.pointer (some ⟨g, 0, none⟩)] w (SamP w g B r L (.int .i64 (L.length : Nat))) := by
  have hlk := hS.lock
  have HE := hide hlk.1
  have HK1 := hide hlk.2
  have HS := hide hS
  have c1 : w.cell? ⟨g, 1, none⟩ = some (.int .i32 0) := blk_cell (j := 1) hS.c rfl
  have f1 := blk_frozen 1 hS.c
  clear hlk hS
  go_enter_defers Tryz.func14, Tryz.ntmps14
  go_upto_region 3 with (go_at_call 28; refine (lockFree ⟨g, 1, none⟩ _ c1 f1).mono ?_; rintro e w' ⟨rfl, rfl⟩)
  generalize w.setCell ⟨g, 1, none⟩ (.int .i32 1) = w1 at *
  clear c1 f1
  have s3 : w1.cell? ⟨g, 3, none⟩ = some (.map (some B)) := blk_cell (j := 3) HE.out.c rfl
  go_wp2_with (refine wpList_lenB (B := B) (L := L) rfl rfl rfl HE.out.m ?_)
  refine leaves_cons (f := 29) (args := #[.pointer (some ⟨g, 1, none⟩)]) (by simp) (by simp [go_sem]) ?_
  refine (unlockLate ⟨g, 1, none⟩ .returning _ (blk_cell (j := 1) HE.out.c rfl) (blk_frozen 1 HE.out.c)).mono ?_
  rintro e u' w'' ⟨rfl, rfl, rfl⟩
  have hu := HE.out.unlock rfl HS.out.h HS.out.n
  refine ⟨.int .i64 (L.length : Nat), (results_tmp (t := 2) rfl _ _ _).trans ?_, ⟨rfl, hu.1, HK1.out.trans hu.2 (fun _ _ e => e)⟩⟩
  rfl
set_option maxRecDepth 1000000 in
set_option maxHeartbeats 1000000 in
theorem under13_any (w : World) (g B r : Nat) (L : List Blk) (hS : Sto w g B r L) (l : Lk) (hl : Lkx l) : Calls Tryz.prog 27 #[.pointer (some ⟨g, 0, none⟩), lkv l] w (SamP w g B r L (.tuple #[bval ((atB L l).getD []), .bool (atB L l).isSome])) := by
  have hlk := hS.lock
  have HS := hide hS
  have HLK := hide hl
  obtain ⟨q, hq⟩ : ∃ q, (atB L l).getD [] = q := ⟨_, rfl⟩
  obtain ⟨f, hf⟩ : ∃ f, (atB L l).isSome = f := ⟨_, rfl⟩
  rw [hq, hf]
  have HQ := hide hq
  have HF := hide hf
  have HT : Hid (((w.alloc (.cells #[.int .i64 l.v, .int .u64 (l.c : Nat), .int .u64 (l.h : Nat), .string (nstr l.d)] 38)).alloc (.cells #[.string ⟨#[]⟩] 74)).heap[w.heap.size]? = some (.cells (lcs l) 38 (0, 0))) := blk_alloc _ (heap_alloc_new w _)
  have HT2 : Hid (((w.alloc (.cells #[.int .i64 l.v, .int .u64 (l.c : Nat), .int .u64 (l.h : Nat), .string (nstr l.d)] 38)).alloc (.cells #[.string ⟨#[]⟩] 74)).heap[w.heap.size + 1]? = some (.cells #[.string ⟨#[]⟩] 74 (0, 0))) := by
    have h := heap_alloc_new (w.alloc (.cells #[.int .i64 l.v, .int .u64 (l.c : Nat), .int .u64 (l.h : Nat), .string (nstr l.d)] 38)) (.cells #[.string ⟨#[]⟩] 74)
    rw [show (w.alloc (.cells #[.int .i64 l.v, .int .u64 (l.c : Nat), .int .u64 (l.h : Nat), .string (nstr l.d)] 38)).heap.size = w.heap.size + 1 by simp] at h
    exact h
  have HB0 : Hid (Below w.heap.size w ((w.alloc (.cells #[.int .i64 l.v, .int .u64 (l.c : Nat), .int .u64 (l.h : Nat), .string (nstr l.d)] 38)).alloc (.cells #[.string ⟨#[]⟩] 74))) := (below_alloc4 w _).trans ((below_alloc4 _ _).mono (by simp))
  clear hlk hq hf hl hS
  simp only [lkv]
  go_enter_defers Tryz.func27, Tryz.ntmps27
  go_upto_region 1 with fail
  generalize (w.alloc (.cells #[.int .i64 l.v, .int .u64 (l.c : Nat), .int .u64 (l.h : Nat), .string (nstr l.d)] 38)).alloc (.cells #[.string ⟨#[]⟩] 74) = w0 at *
  have HS0 := hide (HS.out.next HB0.out)
  have hlk := HS0.out.lock
  have HE := hide hlk.1
  have HK1 := hide hlk.2
  have c1 : w0.cell? ⟨g, 1, none⟩ = some (.int .i32 0) := blk_cell (j := 1) HS0.out.c rfl
  have f1 := blk_frozen 1 HS0.out.c
  clear hlk
  go_upto_region 3 with (go_at_call 28; refine (lockFree ⟨g, 1, none⟩ _ c1 f1).mono ?_; rintro e w' ⟨rfl, rfl⟩)
  generalize w0.setCell ⟨g, 1, none⟩ (.int .i32 1) = w1 at *
  clear c1 f1
  have hgz : g < w.heap.size := blk_lt HS.out.c
  have HT1 : Hid (w1.heap[w.heap.size]? = some (.cells (lcs l) 38 (0, 0))) := (HK1.out.block _ (blk_lt HT.out) (by omega)).trans HT.out
  have HU1 : Hid (w1.heap[w.heap.size + 1]? = some (.cells #[.string ⟨#[]⟩] 74 (0, 0))) := (HK1.out.block _ (blk_lt HT2.out) (by omega)).trans HT2.out
  have hlk : (Instr.lookup 46 (.map (some B)) (.agg #[.int .i64 l.v, .int .u64 (l.c : Nat), .int .u64 (l.h : Nat), .string (nstr l.d)]) true).run Tryz.prog w1.drew = .ok (.tuple #[.agg #[.string (nstr q)], .bool f]) w1.drew := by
    have h := (HE.out.m.block (w' := w1.drew) rfl).look HLK.out
    rw [HQ.out, HF.out] at h
    exact h
  have hlk2 : (Instr.lookup 46 (.map (some B)) (.agg #[.int .i64 l.v, .int .u64 (l.c : Nat), .int .u64 (l.h : Nat), .string (nstr l.d)]) true).run Tryz.prog (w1.alloc (.cells #[.string ⟨#[]⟩] 74)).drew = .ok (.tuple #[.agg #[.string (nstr q)], .bool f]) (w1.alloc (.cells #[.string ⟨#[]⟩] 74)).drew := by
    have h := ((HE.out.m.next (below_alloc4 w1 _)).block (w' := (w1.alloc (.cells #[.string ⟨#[]⟩] 74)).drew) rfl).look HLK.out
    rw [HQ.out, HF.out] at h
    exact h
  have d0 : w1.cell? ⟨w.heap.size, 0, none⟩ = some (.int .i64 l.v) := blk_cell (j := 0) HT1.out rfl
  have d1 : w1.cell? ⟨w.heap.size, 1, none⟩ = some (.int .u64 (l.c : Nat)) := blk_cell (j := 1) HT1.out rfl
  have d2 : w1.cell? ⟨w.heap.size, 2, none⟩ = some (.int .u64 (l.h : Nat)) := blk_cell (j := 2) HT1.out rfl
  have d3 : w1.cell? ⟨w.heap.size, 3, none⟩ = some (.string (nstr l.d)) := blk_cell (j := 3) HT1.out rfl
  have s3 : w1.cell? ⟨g, 3, none⟩ = some (.map (some B)) := blk_cell (j := 3) HE.out.c rfl
  have l1 : w.heap.size < w1.heap.size := blk_lt HT1.out
  have l2 : g < w1.heap.size := blk_lt HE.out.c
  go_cut [6, 7] from 15 to 25 (fun a b wx => a = .pointer (some ⟨w1.heap.size, 0, none⟩) ∧ b = .bool f ∧ wx = (w1.alloc (.cells #[.string (nstr q)] 74)).drew)
  case first => as_aux_lemma =>
    go_region
    all_goals (go_wp2_with fail; go_meet; exact ⟨rfl, rfl, rfl⟩)
  case rest =>
    obtain ⟨rfl, rfl, rfl⟩ := hcut
    have HB3 : Hid (Below w1.heap.size w1 (w1.alloc (.cells #[.string (nstr q)] 74)).drew) := (below_alloc4 w1 _).drew
    have a0 : (w1.alloc (.cells #[.string (nstr q)] 74)).drew.cell? ⟨w1.heap.size, 0, none⟩ = some (.string (nstr q)) := blk_cell (j := 0) (heap_alloc_new w1 _) rfl
    clear hlk hlk2 d0 d1 d2 d3 s3
    generalize (w1.alloc (.cells #[.string (nstr q)] 74)).drew = w2 at *
    have HE2 := hide (HE.out.next HB3.out)
    have HU2 : Hid (w2.heap[w.heap.size + 1]? = some (.cells #[.string ⟨#[]⟩] 74 (0, 0))) := (HB3.out.block _ (blk_lt HU1.out)).trans HU1.out
    have u0 : w2.cell? ⟨w.heap.size + 1, 0, none⟩ = some (.string ⟨#[]⟩) := blk_cell (j := 0) HU2.out rfl
    have z0 := blk_frozen 0 HU2.out
    have HU3 := hide (blk_set 0 (.string (nstr q)) HU2.out)
    have hk3 : Kp (fun y => y = w.heap.size + 1) w2 (w2.setCell ⟨w.heap.size + 1, 0, none⟩ (.string (nstr q))) := (Kp.refl _ w2).setCell _ _ (fun _ => rfl)
    have hBz : B < w.heap.size := HS.out.m.lt
    have HE3 : Hid (Stl (w2.setCell ⟨w.heap.size + 1, 0, none⟩ (.string (nstr q))) g B r (szB L) L) := ⟨(hk3.block _ (blk_lt HE2.out.c) (by omega)).trans HE2.out.c, HE2.out.m.kp hk3 (by omega)⟩
    have HK3 : Hid (Kp (fun y => y = g) w (w2.setCell ⟨w.heap.size + 1, 0, none⟩ (.string (nstr q)))) := (((Kp.of_below HB0.out).trans HK1.out (fun _ _ e => e)).trans (Kp.of_below (S := fun _ => False) HB3.out) (fun _ _ h => h.elim)).trans hk3 (fun y hy e => by omega)
    clear hk3
    go_wp2_with fail
    generalize w2.setCell ⟨w.heap.size + 1, 0, none⟩ (.string (nstr q)) = w3 at *
    refine leaves_cons (f := 29) (args := #[.pointer (some ⟨g, 1, none⟩)]) (by simp) (by simp [go_sem]) ?_
    refine (unlockLate ⟨g, 1, none⟩ .returning _ (blk_cell (j := 1) HE3.out.c rfl) (blk_frozen 1 HE3.out.c)).mono ?_
    rintro e u' w'' ⟨rfl, rfl, rfl⟩
    have hu := HE3.out.unlock rfl HS.out.h HS.out.n
    have hU4 := (hu.2.block _ (blk_lt HU3.out) (by omega)).trans HU3.out
    exact ⟨_, end_c2 rfl Tryz.underlying74 infoSb rfl hU4 rfl rfl, ⟨rfl, hu.1, HK3.out.trans hu.2 (fun _ _ e => e)⟩⟩
set_option maxRecDepth 1000000 in
set_option maxHeartbeats 1000000 in
theorem has13_any (w : World) (g B r : Nat) (L : List Blk) (hS : Sto w g B r L) (l : Lk) (hl : Lkx l) : Calls Tryz.prog 25 #[.pointer (some ⟨g, 0, none⟩), lkv l] w (SamP w g B r L (.bool (atB L l).isSome)) := by
  have HS := hide hS
  have HLK := hide hl
  obtain ⟨q, hq⟩ : ∃ q, (atB L l).getD [] = q := ⟨_, rfl⟩
  obtain ⟨f, hf⟩ : ∃ f, (atB L l).isSome = f := ⟨_, rfl⟩
  rw [hf]
  have HQ := hide hq
  have HF := hide hf
  clear hq hf
  have HT : Hid ((w.alloc (.cells #[.int .i64 l.v, .int .u64 (l.c : Nat), .int .u64 (l.h : Nat), .string (nstr l.d)] 38)).heap[w.heap.size]? = some (.cells (lcs l) 38 (0, 0))) := heap_alloc_new w _
  have HB0 := hide (below_alloc4 w (.cells #[.int .i64 l.v, .int .u64 (l.c : Nat), .int .u64 (l.h : Nat), .string (nstr l.d)] 38))
  clear hS hl
  simp only [lkv]
  go_enter Tryz.func25, Tryz.ntmps25
  go_upto_region 1 with fail
  generalize w.alloc (.cells #[.int .i64 l.v, .int .u64 (l.c : Nat), .int .u64 (l.h : Nat), .string (nstr l.d)] 38) = w0 at *
  have HU := hide (under13_any w0 g B r L (HS.out.next HB0.out) l HLK.out)
  rw [HQ.out, HF.out] at HU
  simp only [lkv, bval] at HU
  have d0 : w0.cell? ⟨w.heap.size, 0, none⟩ = some (.int .i64 l.v) := blk_cell (j := 0) HT.out rfl
  have d1 : w0.cell? ⟨w.heap.size, 1, none⟩ = some (.int .u64 (l.c : Nat)) := blk_cell (j := 1) HT.out rfl
  have d2 : w0.cell? ⟨w.heap.size, 2, none⟩ = some (.int .u64 (l.h : Nat)) := blk_cell (j := 2) HT.out rfl
  have d3 : w0.cell? ⟨w.heap.size, 3, none⟩ = some (.string (nstr l.d)) := blk_cell (j := 3) HT.out rfl
  go_wp2_with (go_at_call 27; refine HU.out.mono ?_; rintro e w1 ⟨rfl, hs1, hk1⟩)
  have hb2 := below_alloc4 w1 (.cells #[.string (nstr q)] 74)
  have HP : SamP w g B r L (.bool f) (.returned (.bool f)) (w1.alloc (.cells #[.string (nstr q)] 74)) := ⟨rfl, hs1.next hb2, ((Kp.of_below HB0.out).trans hk1 (fun _ _ e => e)).trans (Kp.of_below (S := fun _ => False) hb2) (fun _ _ h => h.elim)⟩
  go_ret
  exact HP
end
section
open Go.RowKit Go
def getr13 (L : List Blk) (l : Lk) : List Nat × Nat :=
  if lok l then if l.h = 0 then (l.d, 0) else
    match atB L l with
    | none => ([], 136)
    | some b => if dholds l.h l.d b then (b, 0) else ([], 137)
  else ([], 132)
structure GetP (w : World) (g B r : Nat) (L : List Blk) (l : Lk) (e : Ending) (w' : World) : Prop where
  e : ∃ v, e = .returned (.tuple #[v, .int .i64 ((getr13 L l).2 : Nat)]) ∧ BSl w' v (getr13 L l).1 ∧ ∀ q, v.ownBlock = some q → w.heap.size ≤ q
  s : Sto w' g B r L
  k : Kp (fun q => q = g) w w'
theorem GetP.no {w w' : World} {g B r : Nat} {L : List Blk} {l : Lk} {er : Nat} (h : getr13 L l = ([], er)) (hs : Sto w' g B r L) (hk : Kp (fun q => q = g) w w') : GetP w g B r L l (.returned (.tuple #[.slice none 0 0, .int .i64 (er : Nat)])) w' := ⟨⟨.slice none 0 0, by rw [h], by rw [h]; exact ⟨⟨none, 0, rfl, ⟨Nat.le_refl _, fun _ => rfl⟩, .inl rfl⟩, by simp, by simp⟩, fun q hq => by simp [Value.ownBlock] at hq⟩, hs, hk⟩
set_option maxRecDepth 1000000 in
set_option maxHeartbeats 1000000 in
theorem get13_any (w : World) (g B r : Nat) (L : List Blk) (hS : Sto w g B r L) (l : Lk) (hl : Lkx l) (hcb : ∀ wy, Kp (fun q => q = g) w wy → Cb wy) : Calls Tryz.prog 13 #[.pointer (some ⟨g, 0, none⟩), lkv l] w (GetP w g B r L l) := by
  have HS := hide hS
  have HL := hide hl
  have HCB := hide hcb
  have HT : Hid ((w.alloc (.cells #[.int .i64 l.v, .int .u64 (l.c : Nat), .int .u64 (l.h : Nat), .string (nstr l.d)] 38)).heap[w.heap.size]? = some (.cells (lcs l) 38 (0, 0))) := heap_alloc_new w _
  have HB0 := hide (below_alloc4 w (.cells #[.int .i64 l.v, .int .u64 (l.c : Nat), .int .u64 (l.h : Nat), .string (nstr l.d)] 38))
  have hnot : ∀ (x : Bool) (w : World), (Op.unary .not (.bool x)).run Tryz.prog w = .ok (.bool (!x)) w := fun _ _ => rfl
  clear hS hl hcb
  simp only [lkv]
  go_enter Tryz.func13, Tryz.ntmps13
  go_upto_region 1 with fail
  generalize w.alloc (.cells #[.int .i64 l.v, .int .u64 (l.c : Nat), .int .u64 (l.h : Nat), .string (nstr l.d)] 38) = w0 at *
  have d0 : w0.cell? ⟨w.heap.size, 0, none⟩ = some (.int .i64 l.v) := blk_cell (j := 0) HT.out rfl
  have d1 : w0.cell? ⟨w.heap.size, 1, none⟩ = some (.int .u64 (l.c : Nat)) := blk_cell (j := 1) HT.out rfl
  have d2 : w0.cell? ⟨w.heap.size, 2, none⟩ = some (.int .u64 (l.h : Nat)) := blk_cell (j := 2) HT.out rfl
  have d3 : w0.cell? ⟨w.heap.size, 3, none⟩ = some (.string (nstr l.d)) := blk_cell (j := 3) HT.out rfl
  have HCK := hide (check_any w0 l HL.out.toLkb)
  simp only [lkv] at HCK
  by_cases hok : lok l
  · rw [if_pos hok] at HCK
    go_upto_region 3 with (go_at_call 26; refine HCK.out.mono ?_; rintro e w1 ⟨rfl, hb1⟩)
    have HB1 : Hid (Below w.heap.size w w1) := HB0.out.trans (hb1.mono HB0.out.size)
    have HT1 : Hid (w1.heap[w.heap.size]? = some (.cells (lcs l) 38 (0, 0))) := (hb1.block _ (blk_lt HT.out)).trans HT.out
    clear d0 d1 d2 d3 HCK hb1 HT HB0
    have d0 : w1.cell? ⟨w.heap.size, 0, none⟩ = some (.int .i64 l.v) := blk_cell (j := 0) HT1.out rfl
    have d1 : w1.cell? ⟨w.heap.size, 1, none⟩ = some (.int .u64 (l.c : Nat)) := blk_cell (j := 1) HT1.out rfl
    have d2 : w1.cell? ⟨w.heap.size, 2, none⟩ = some (.int .u64 (l.h : Nat)) := blk_cell (j := 2) HT1.out rfl
    have d3 : w1.cell? ⟨w.heap.size, 3, none⟩ = some (.string (nstr l.d)) := blk_cell (j := 3) HT1.out rfl
    have HS1 := hide (HS.out.next HB1.out)
    have HK1 : Hid (Kp (fun q => q = g) w w1) := Kp.of_below HB1.out
    by_cases hh : l.h = 0
    · have HG : Hid (getr13 L l = (l.d, 0)) := by show _ = _; unfold getr13; rw [if_pos hok, if_pos hh]
      have g2 : (((l.h : Nat) : Int) == 0) = true := by rw [hh]; rfl
      have cv := conv_sb w1 (nstr l.d)
      have HB2 := hide (conv_sb_below w1 (nstr l.d))
      have HS3 := hide (HS1.out.next HB2.out)
      have hBS := conv_sb_bsl w1 (nstr l.d) (by rw [HL.out.toLkb.size]; exact HL.out.n)
      rw [sl_nstr HL.out.d] at hBS
      have HBS := hide hBS
      clear hh hok hBS
      go_wp2_with fail
      have HP : GetP w g B r L l (.returned (.tuple #[.slice (some ⟨w1.heap.size, 0, none⟩) (nstr l.d).size (grownCap w1 (nstr l.d).size 0 5), .int .i64 0])) (Lib.bytesWorld w1 5 (nstr l.d)) :=
        ⟨⟨_, by rw [HG.out]; rfl, by rw [HG.out]; exact HBS.out, fun q hq => by have h1 : w1.heap.size = q := Option.some.inj hq; have h2 := HB1.out.size; omega⟩, HS3.out, HK1.out.trans (Kp.of_below (S := fun _ => False) HB2.out) (fun _ _ h => h.elim)⟩
      go_ret2
      exact HP
    · have g2 : (((l.h : Nat) : Int) == 0) = false := beq_eq_false_iff_ne.2 (by omega)
      have HU := hide (under13_any w1 g B r L HS1.out l HL.out)
      obtain ⟨A, hA⟩ : ∃ A, atB L l = A := ⟨_, rfl⟩
      rw [hA] at HU
      simp only [lkv, bval] at HU
      cases A with
      | none =>
        have HG : Hid (getr13 L l = ([], 136)) := by show _ = _; unfold getr13; rw [if_pos hok, if_neg hh, hA]
        simp only [Option.getD_none, Option.isSome_none] at HU
        clear hh hok hA
        go_wp2_with (go_at_call 27; refine HU.out.mono ?_; rintro e w2 ⟨rfl, hs2, hk2⟩)
        have hb3 := below_alloc4 w2 (.cells #[.string (nstr [])] 74)
        have HP := GetP.no HG.out (hs2.next hb3) ((HK1.out.trans hk2 (fun _ _ e => e)).trans (Kp.of_below (S := fun _ => False) hb3) (fun _ _ h => h.elim))
        go_ret2
        exact HP
      | some b =>
        have HA := hide hA
        have HBB := hide (HS.out.m.ok _ (atB_mem hA))
        simp only [Option.getD_some, Option.isSome_some] at HU
        have HGA : Hid (getr13 L l = if dholds l.h l.d b then (b, 0) else ([], 137)) := by show _ = _; unfold getr13; rw [if_pos hok, if_neg hh, hA]
        clear hh hok hA
        go_upto_region 8 with (go_at_call 27; refine HU.out.mono ?_; rintro e w2 ⟨rfl, hs2, hk2⟩)
        have hgz : g < w.heap.size := blk_lt HS.out.c
        have hb3 := below_alloc4 w2 (.cells #[.string (nstr b)] 74)
        have HS3 := hide (hs2.next hb3)
        have HK3 : Hid (Kp (fun q => q = g) w (w2.alloc (.cells #[.string (nstr b)] 74))) := (HK1.out.trans hk2 (fun _ _ e => e)).trans (Kp.of_below (S := fun _ => False) hb3) (fun _ _ h => h.elim)
        have HT3 : Hid ((w2.alloc (.cells #[.string (nstr b)] 74)).heap[w.heap.size]? = some (.cells (lcs l) 38 (0, 0))) := blk_alloc _ ((hk2.block _ (blk_lt HT1.out) (by omega)).trans HT1.out)
        have a0 : (w2.alloc (.cells #[.string (nstr b)] 74)).cell? ⟨w2.heap.size, 0, none⟩ = some (.string (nstr b)) := blk_cell (j := 0) (heap_alloc_new w2 _) rfl
        clear d0 d1 d2 d3 HT1 HS1 HU hs2 hk2 hb3
        generalize w2.alloc (.cells #[.string (nstr b)] 74) = w3 at *
        have cv := conv_sb w3 (nstr b)
        have HB4 := hide (conv_sb_below w3 (nstr b))
        have HS4 := hide (HS3.out.next HB4.out)
        have HK4 : Hid (Kp (fun q => q = g) w (Lib.bytesWorld w3 5 (nstr b))) := HK3.out.trans (Kp.of_below (S := fun _ => False) HB4.out) (fun _ _ h => h.elim)
        have hBS := conv_sb_bsl w3 (nstr b) (by rw [nstr_size HBB.out.b]; exact Nat.le_trans HBB.out.n (by decide))
        rw [sl_nstr HBB.out.b] at hBS
        have HBS := hide hBS
        have HT4 : Hid ((Lib.bytesWorld w3 5 (nstr b)).heap[w.heap.size]? = some (.cells (lcs l) 38 (0, 0))) := (HB4.out.block _ (blk_lt HT3.out)).trans HT3.out
        clear hBS
        go_upto_region 9 with fail
        have HOB : Hid (w.heap.size ≤ w3.heap.size) := HK3.out.size
        generalize w3.heap.size = gg at *
        generalize grownCap w3 (nstr b).size 0 5 = G at *
        generalize Lib.bytesWorld w3 5 (nstr b) = w4 at *
        generalize (nstr b).size = N at *
        have d0 : w4.cell? ⟨w.heap.size, 0, none⟩ = some (.int .i64 l.v) := blk_cell (j := 0) HT4.out rfl
        have d1 : w4.cell? ⟨w.heap.size, 1, none⟩ = some (.int .u64 (l.c : Nat)) := blk_cell (j := 1) HT4.out rfl
        have d2 : w4.cell? ⟨w.heap.size, 2, none⟩ = some (.int .u64 (l.h : Nat)) := blk_cell (j := 2) HT4.out rfl
        have d3 : w4.cell? ⟨w.heap.size, 3, none⟩ = some (.string (nstr l.d)) := blk_cell (j := 3) HT4.out rfl
        have HH := hide (holds13_any w4 l HL.out.toLkb _ b (HCB.out _ HK4.out) HBS.out (Nat.le_trans HBB.out.n (by decide)))
        simp only [lkv] at HH
        clear cv a0 HT3 HS3 HK3 HB4 HT4
        cases hd : dholds l.h l.d b
        · rw [hd] at HH
          have HG : Hid (getr13 L l = ([], 137)) := by show _ = _; rw [HGA.out, hd]; rfl
          clear hd HGA
          go_wp2_with (go_at_call 19; refine HH.out.mono ?_; rintro e w5 ⟨rfl, hb5⟩)
          have HP := GetP.no HG.out (HS4.out.next hb5) (HK4.out.trans (Kp.of_below (S := fun _ => False) hb5) (fun _ _ h => h.elim))
          go_ret2
          exact HP
        · rw [hd] at HH
          have HG : Hid (getr13 L l = (b, 0)) := by show _ = _; rw [HGA.out, hd]; rfl
          clear hd HGA
          go_wp2_with (go_at_call 19; refine HH.out.mono ?_; rintro e w5 ⟨rfl, hb5⟩)
          have HP : GetP w g B r L l (.returned (.tuple #[.slice (some ⟨gg, 0, none⟩) N G, .int .i64 0])) w5 :=
            ⟨⟨_, by rw [HG.out]; rfl, by rw [HG.out]; exact HBS.out.move (keep_below hb5), fun q hq => by have h1 : gg = q := Option.some.inj hq; have h2 := HOB.out; omega⟩, HS4.out.next hb5, HK4.out.trans (Kp.of_below (S := fun _ => False) hb5) (fun _ _ h => h.elim)⟩
          go_ret2
          exact HP
  · rw [if_neg hok] at HCK
    have HG : Hid (getr13 L l = ([], 132)) := by show _ = _; unfold getr13; rw [if_neg hok]
    clear hok
    go_wp2_with (go_at_call 26; refine HCK.out.mono ?_; rintro e w1 ⟨rfl, hb1⟩)
    have HB1 : Below w.heap.size w w1 := HB0.out.trans (hb1.mono HB0.out.size)
    have HP := GetP.no HG.out (HS.out.next HB1) (Kp.of_below HB1)
    go_ret2
    exact HP
end
section
open Go.RowKit Go
theorem KSl.take {w : World} {a : Option Addr} {cap : Nat} {L : List Blk} (h : KSl w (.slice a L.length cap) L) (k : Nat) (hk : k ≤ L.length) : KSl w (.slice a k cap) (L.take k) := by
  obtain ⟨⟨a', cap', he, hn, hc⟩, hm⟩ := h
  injection he with e1 e2 e3
  subst e1 e3
  have hl : (L.take k).length = k := by simp; omega
  refine ⟨⟨a, cap, by rw [hl], ⟨by rw [hl]; omega, hn.2⟩, ?_⟩, by rw [hl]; omega⟩
  rcases hc with hc | ⟨b, off, ha, hc⟩
  · exact .inl (by rw [hc]; simp)
  · refine .inr ⟨b, off, ha, fun i x hx => hc i x ?_⟩
    rw [List.getElem?_take] at hx
    split at hx
    · exact hx
    · cases hx
theorem frt_le : ∀ X : List Blk, (frt X).1 ≤ X.length ∧ (frt X).2 ≤ 137
  | [] => ⟨Nat.le_refl _, by decide⟩
  | x :: r => by
    have h := frt_le r
    have h2 := fit13_le x
    rw [frt]
    split
    · split
      · simp only [List.length_cons]
        omega
      · simp
    · simp
      omega
theorem frt_good : ∀ (X : List Blk) (x : Blk), x ∈ X.take (frt X).1 → fit13 x = 0 ∧ dholds x.1.h x.1.d x.2 = true
  | [], x, h => by simp at h
  | y :: r, x, h => by
    rw [frt] at h
    by_cases hf : fit13 y = 0
    · rw [if_pos hf] at h
      by_cases hd : dholds y.1.h y.1.d y.2 = true
      · rw [if_pos hd] at h
        rw [List.take_succ_cons] at h
        rcases List.mem_cons.1 h with rfl | h
        · exact ⟨hf, hd⟩
        · exact frt_good r x h
      · rw [if_neg hd] at h
        simp at h
    · rw [if_neg hf] at h
      simp at h
theorem fit13_len {x : Blk} (h : fit13 x = 0) : x.2.length ≤ 67108864 := by
  unfold fit13 at h
  split at h
  · split at h
    · cases h
    · omega
  · cases h
def addr13 (r : Nat) (L X : List Blk) : (Nat × Nat) × List Blk := layr r L (X.take (frt X).1) (frt X).2
set_option maxRecDepth 1000000 in
set_option maxHeartbeats 1000000 in
theorem adds13_any (w : World) (g B r : Nat) (L : List Blk) (hS : Sto w g B r L) (v : Value) (X : List Blk) (hX : ∀ wy, Kp (fun q => q = g) w wy → KSl wy v X) (hn : X.length ≤ 1048576) (hcb : ∀ wy, Kp (fun q => q = g) w wy → Cb wy) :
    Calls Tryz.prog 18 #[.pointer (some ⟨g, 0, none⟩), v, .func (.func 19) #[] #[]] w (LayP w g B r (addr13 r L X)) := by
  have hv := hX w (Kp.refl _ _)
  have HF := hide (front13_any w v X hv (hcb w (Kp.refl _ _)))
  have HS := hide hS
  have HX := hide hX
  have HCB := hide hcb
  obtain ⟨⟨a, cap, rfl, ⟨hcap, hcn⟩, -⟩, hmax⟩ := hv
  have HLE := hide (frt_le X)
  obtain ⟨i, hi⟩ : ∃ i, (frt X).1 = i := ⟨_, rfl⟩
  obtain ⟨er, her⟩ : ∃ e, (frt X).2 = e := ⟨_, rfl⟩
  have HG := hide (frt_good X)
  have HAD : Hid (addr13 r L X = layr r L (X.take i) er) := by show _ = _; unfold addr13; rw [hi, her]
  rw [hi, her] at HF HLE
  rw [hi] at HG
  have hil := HLE.out.1
  have hic : i ≤ cap := by omega
  clear hi her hX hcb hS
  go_enter Tryz.func18, Tryz.ntmps18
  go_upto_region 2 with (go_at_call 32; refine HF.out.mono ?_; rintro e w1 ⟨rfl, hb1⟩)
  have hk1 : Kp (fun q => q = g) w w1 := Kp.of_below hb1
  have HS1 : Hid (Sto w1 g B r L) := ⟨(hb1.block _ (blk_lt HS.out.c)).trans HS.out.c, HS.out.m.next hb1, HS.out.h, HS.out.n⟩
  have HLY := hide (lay13_any w1 g B r L HS1.out (.slice a i cap) (X.take i) (fun wy hy => (HX.out wy (hk1.trans hy (fun _ _ e => e))).take i hil) (fun x hx => fit13_len (HG.out x hx).1) (by simp; omega) (fun wy hy => HCB.out wy (hk1.trans hy (fun _ _ e => e))) er)
  have HK1 := hide hk1
  clear hb1 hk1
  go_wp2_with (go_at_call 20; refine HLY.out.mono ?_; rintro e w2 ⟨rfl, hs2, hk2⟩)
  have HP : LayP w g B r (addr13 r L X) (.returned (.tuple #[.int .i64 ((layr r L (X.take i) er).1.1 : Nat), .int .i64 ((layr r L (X.take i) er).1.2 : Nat)])) w2 := by
    rw [HAD.out]
    exact ⟨rfl, hs2, (HK1.out.mono (fun _ _ e => .inl e)).trans hk2 (fun _ _ e => e)⟩
  go_ret2
  exact HP
set_option maxRecDepth 1000000 in
theorem Adds13_any (w : World) (g B r : Nat) (L : List Blk) (hS : Sto w g B r L) (v : Value) (X : List Blk) (hX : ∀ wy, Kp (fun q => q = g) w wy → KSl wy v X) (hn : X.length ≤ 1048576) (hcb : ∀ wy, Kp (fun q => q = g) w wy → Cb wy) :
    Calls Tryz.prog 9 #[.pointer (some ⟨g, 0, none⟩), v] w (LayP w g B r (addr13 r L X)) := by
  have HA := hide (adds13_any w g B r L hS v X hX hn hcb)
  obtain ⟨⟨a, cap, rfl, -, -⟩, -⟩ := hX w (Kp.refl _ _)
  clear hS hX hcb
  go_enter Tryz.func9, Tryz.ntmps9
  go_wp2_with (go_at_call 18; refine HA.out.mono ?_; rintro e w2 ⟨rfl, hs2, hk2⟩)
  have HP : LayP w g B r (addr13 r L X) (.returned (.tuple #[.int .i64 ((addr13 r L X).1.1 : Nat), .int .i64 ((addr13 r L X).1.2 : Nat)])) w2 := ⟨rfl, hs2, hk2⟩
  go_ret2
  exact HP
end
section
open Go.RowKit Go

end
section
open Go.RowKit Go
theorem num13_any (w : World) (n : Int) : Calls Tryz.prog 6 #[.int .i64 n] w fun e w' => e = .returned (.int .i64 n) ∧ w' = w := by
  go_enter Tryz.func6, Tryz.ntmps6
  go_wp2_with fail
  go_ret
  exact ⟨rfl, rfl⟩
set_option maxRecDepth 1000000 in
set_option maxHeartbeats 1000000 in
theorem name13_any (w : World) (c : Nat) (vb : Value) (b : List Nat) (hb : BSl w vb b) (hbl : b.length ≤ 140737488351232) :
    Calls Tryz.prog 15 #[.int .u64 (c : Nat), vb] w fun e w' => e = .returned (lkv ⟨1, c, 18, sha b⟩) ∧ Below w.heap.size w w' := by
  have HB := hide hb
  have HBL := hide hbl
  obtain ⟨⟨a, cap, rfl, hn, hc⟩, hmax, hby⟩ := hb
  clear hn hc hby hbl
  have HR0 : Hid ((w.alloc (.cells #[.int .i64 0, .int .u64 0, .int .u64 0, .string ⟨#[]⟩] 38)).heap[w.heap.size]? = some (.cells zlk 38 (0, 0))) := heap_alloc_new w _
  have HB0 := hide (below_alloc4 w (.cells #[.int .i64 0, .int .u64 0, .int .u64 0, .string ⟨#[]⟩] 38))
  generalize hn : (c : Int) = n at *
  have HN := hide hn
  clear hn
  go_enter Tryz.func15, Tryz.ntmps15
  go_wp2_with fail
  generalize w.alloc (.cells #[.int .i64 0, .int .u64 0, .int .u64 0, .string ⟨#[]⟩] 38) = w0 at *
  refine (refSum_any w0 _ b (HB.out.move (keep_below HB0.out)) HBL.out).mono ?_
  rintro e w1 ⟨rfl, hb1⟩
  have HI := hide (info32d b)
  have HON := hide (one32 b)
  have HSL := hide (sha_len b)
  have HSB := hide (sha_byte b)
  have hb2 := hb1.trans ((below_alloc4 w1 (.cells (bv (sha b)).toArray 77)).mono hb1.size)
  have HR2 : Hid ((w1.alloc (.cells (bv (sha b)).toArray 77)).heap[w.heap.size]? = some (.cells zlk 38 (0, 0))) := (hb2.block _ (blk_lt HR0.out)).trans HR0.out
  have HB2 : Hid (Below w.heap.size w (w1.alloc (.cells (bv (sha b)).toArray 77))) := HB0.out.trans (hb2.mono HB0.out.size)
  have HBD := hide (bsl_block (heap_alloc_new w1 (.cells (bv (sha b)).toArray 77)) HSB.out (by rw [HSL.out]; decide))
  rw [HSL.out] at HBD
  clear hb1 hb2 HR0 HB0
  generalize hD : sha b = D at HI HON HSL HSB HR2 HB2 HBD ⊢
  have HDE := hide hD
  clear hD
  have cv := HBD.out.text
  have HAG : Hid (lcs ⟨1, c, 18, D⟩ = #[.int .i64 1, .int .u64 n, .int .u64 18, .string (nstr D)]) := by show _ = _; rw [← HN.out]; rfl
  go_wp2_with (first
    | (refine wpList_storeRow rfl rfl w1.heap.size _ (bv D).toArray 77 rfl rfl (heap_alloc_new w1 _) HI.out (by simp [bv_len, HSL.out]) HON.out ?_; rw [World.setRow_alloc_new])
    | (refine wpList_storeLk rfl rfl w.heap.size zlk ⟨1, c, 18, D⟩ rfl (by rw [HAG.out]; rfl) rfl HR2.out ?_))
  exact bodyPost_ret (results_cell_row rfl _ _ _ _ _ _ _ rfl (row_same HR2.out) Tryz.underlying38 rfl info61) rfl ⟨by rw [HDE.out]; rfl, HB2.out.trans ((row_kp _ _ _).below HB2.out.size (fun q e => by omega))⟩
theorem sha_ab : sha [97] ≠ sha [98] := by decide +kernel
theorem sha_ac : sha [97] ≠ sha [99] := by decide +kernel
theorem dh18 (d b : List Nat) : dholds 18 d b = decide (d = sha b) := by unfold dholds; rw [if_pos rfl]
def la13 : Lk := ⟨1, 85, 18, sha [97]⟩
def lc13 : Lk := ⟨1, 85, 18, sha [99]⟩
theorem putr_a : putr13 1 [] 85 [97] = ((la13, 0), [(la13, [97])]) := by
  unfold putr13
  rw [if_pos (by decide), if_neg (by simp)]
  have h1 : (lof 85 [97]).1 = la13 := rfl
  rw [h1]
  have h2 : layr 1 [] [(la13, [97])] 0 = ((1, 0), [(la13, [97])]) := by
    unfold layr
    rw [drf_new (by rfl) (by rfl), drf]
    simp [mrg, putB, delB]
  rw [h2]
  rfl
theorem lok_la : lok la13 := .inr ⟨rfl, by decide, .inl ⟨rfl, sha_len [97]⟩⟩
theorem at_la : atB [(la13, [97])] la13 = some [97] := by rw [atB_cons, if_pos rfl]
theorem getr_a : getr13 [(la13, [97])] la13 = ([97], 0) := by
  unfold getr13
  rw [if_pos lok_la, if_neg (by decide), at_la]
  simp only
  exact if_pos (show dholds 18 (sha [97]) [97] = true by rw [dh18]; exact decide_eq_true rfl)
theorem addr_b : addr13 1 [(la13, [97])] [(la13, [98])] = ((0, 137), [(la13, [97])]) := by
  have hf : frt [(la13, [98])] = (0, 137) := by
    rw [frt, if_pos (by unfold fit13; rw [if_pos ⟨lok_la, rfl⟩, if_neg (by decide)])]
    exact if_neg (show ¬ dholds 18 (sha [97]) [98] = true by rw [dh18, decide_eq_false sha_ab]; decide)
  unfold addr13
  rw [hf]
  unfold layr
  simp [drf]
theorem lc_ne : la13 ≠ lc13 := fun e => sha_ac (congrArg Lk.d e)
theorem putr_c : putr13 1 [(la13, [97])] 85 [99] = ((Lk.none, 135), [(la13, [97])]) := by
  unfold putr13
  rw [if_pos (by decide), if_neg (by simp)]
  have h1 : (lof 85 [99]).1 = lc13 := rfl
  rw [h1]
  have h2 : layr 1 [(la13, [97])] [(lc13, [99])] 0 = ((0, 135), [(la13, [97])]) := by
    unfold layr
    rw [drf_new (by rfl) (by rw [atB_cons, if_neg lc_ne]; rfl), drf]
    simp
  rw [h2]
  simp
end
section
open Go.RowKit Go
structure Nst (w wx : World) (g B r : Nat) (L : List Blk) : Prop where
  s : Sto wx g B r L
  b : Below w.heap.size w wx
  g : w.heap.size ≤ g
  m : w.heap.size ≤ B
theorem Nst.next {w wx wy : World} {g B r : Nat} {L : List Blk} (h : Nst w wx g B r L) (hb : Below wx.heap.size wx wy) : Nst w wy g B r L := ⟨h.s.next hb, h.b.trans (hb.mono h.b.size), h.g, h.m⟩
theorem Nst.of {w wx wy : World} {g B r : Nat} {L M : List Blk} (h : Nst w wx g B r L) (hs : Sto wy g B r M) (hk : Kp (fun q => q = g ∨ q = B) wx wy) : Nst w wy g B r M := ⟨hs, h.b.trans (hk.below h.b.size (fun q e => by have h1 := h.g; have h2 := h.m; rcases e with e | e <;> omega)), h.g, h.m⟩
theorem Nst.cb {w wx : World} {g B r : Nat} {L : List Blk} (h : Nst w wx g B r L) (hc : Cb w) : ∀ wy, Kp (fun q => q = g) wx wy → Cb wy := fun _ hy => hc.below (h.b.trans (hy.below h.b.size (fun q e => by have h1 := h.g; omega)))
theorem litc (w : World) (c : Int) : Sem.run Tryz.prog (convert 41 41 (.slice (some ⟨w.heap.size, 0, none⟩) 1 1)) (w.alloc (.cells #[.int .u8 c] 5)) = .ok (.slice (some ⟨w.heap.size, 0, none⟩) 1 1) (w.alloc (.cells #[.int .u8 c] 5 (1, 2))) := Lib.run_convert_bytes_const (P := Tryz.prog) w 41 5 #[.int .u8 c] 1 1 Tryz.underlying41 Tryz.underlying5
theorem bsl_blk {w : World} {g : Nat} {c : Nat} {t : TypeId} {fr : Nat × Nat} (h : w.heap[g]? = some (.cells #[.int .u8 (c : Nat)] t fr)) (hc : c < 256) : BSl w (.slice (some ⟨g, 0, none⟩) 1 1) [c] := by
  refine ⟨⟨_, 1, rfl, ⟨Nat.le_refl _, fun h => by cases h⟩, .inr ⟨g, 0, rfl, fun j hj => ?_⟩⟩, by simp, by simpa using hc⟩
  obtain rfl : j = 0 := by simp at hj; omega
  simp [World.cell?, h]
theorem bsl_keep {w : World} {g p c : Nat} {t : TypeId} {fr : Nat × Nat} (h : w.heap[p]? = some (.cells #[.int .u8 (c : Nat)] t fr)) (hp : p ≠ g) (hc : c < 256) : ∀ wy, Kp (fun q => q = g) w wy → BSl wy (.slice (some ⟨p, 0, none⟩) 1 1) [c] := fun _ hy => bsl_blk ((hy.block _ (blk_lt h) hp).trans h) hc
theorem KSl.one {w : World} {g p : Nat} {l : Lk} {b : List Nat} {vb : Value} (h : w.heap[p]? = some (.cells (bcs (l, b) vb) 43 (0, 0))) (hp : p ≠ g) (hb : ∀ wy, Kp (fun q => q = g) w wy → BSl wy vb b) (hl : Lkx l) (hn : b.length ≤ 140737488351232) : ∀ wy, Kp (fun q => q = g) w wy → KSl wy (.slice (some ⟨p, 0, none⟩) 1 1) [(l, b)] := fun wy hy => by
  refine ⟨⟨_, 1, rfl, ⟨Nat.le_refl _, fun h => by cases h⟩, .inr ⟨p, 0, rfl, fun i x hx => ?_⟩⟩, by simp⟩
  rcases i with _ | i
  · obtain rfl : (l, b) = x := by simpa using hx
    have hbk := (hy.block _ (blk_lt h) hp).trans h
    refine ⟨bcs (l, b) vb, ⟨⟨_, rfl, hb wy hy⟩, hl, hn⟩, fun j u hj => ?_⟩
    rw [show 0 + 0 * 5 + j = j by omega]
    exact blk_cell hbk hj
  · simp at hx
structure Wkl (w wx : World) (g B : Nat) (l : Lk) (p : Nat) : Prop where
  n : Nst w wx g B 1 [(l, [97])]
  lb : wx.heap[p]? = some (.cells (lcs l) 38 (0, 0))
theorem Wkl.next {w wx wy : World} {g B p : Nat} {l : Lk} (h : Wkl w wx g B l p) (hb : Below wx.heap.size wx wy) : Wkl w wy g B l p := ⟨h.n.next hb, (hb.block _ (blk_lt h.lb)).trans h.lb⟩
theorem Wkl.of {w wx wy : World} {g B p : Nat} {l : Lk} (h : Wkl w wx g B l p) (hs : Sto wy g B 1 [(l, [97])]) (hk : Kp (fun q => q = g ∨ q = B) wx wy) : Wkl w wy g B l p := ⟨h.n.of hs hk, (hk.block _ (blk_lt h.lb) (fun e => by
  rcases e with e | e
  · exact ne_of_type h.lb h.n.s.c (by decide) e
  · exact h.n.s.m.ne h.lb e)).trans h.lb⟩
structure Wkb (w wx : World) (g B : Nat) (l : Lk) (p : Nat) (v : Value) : Prop where
  l : Wkl w wx g B l p
  b : BSl wx v [97]
  o : ∀ k, v.ownBlock = some k → k ≠ g ∧ k ≠ B
theorem Wkb.next {w wx wy : World} {g B p : Nat} {l : Lk} {v : Value} (h : Wkb w wx g B l p v) (hb : Below wx.heap.size wx wy) : Wkb w wy g B l p v := ⟨h.l.next hb, h.b.move (keep_below hb), h.o⟩
theorem Wkb.of {w wx wy : World} {g B p : Nat} {l : Lk} {v : Value} (h : Wkb w wx g B l p v) (hs : Sto wy g B 1 [(l, [97])]) (hk : Kp (fun q => q = g ∨ q = B) wx wy) : Wkb w wy g B l p v := ⟨h.l.of hs hk, hk.bsl h.b (fun k e => by have := h.o k e; omega), h.o⟩
theorem aggLk (w : World) : (isAgg 38).run Tryz.prog w = .ok true w := by
  unfold isAgg
  rw [Sem.run_bind, run_underlying Tryz.underlying38 w]
  simp
theorem works_facts : ∃ l : Lk, Lkx l ∧ (⟨1, 85, 18, sha [97]⟩ : Lk) = l ∧ putr13 1 [] 85 [97] = ((l, 0), [(l, [97])]) ∧ getr13 [(l, [97])] l = ([97], 0) ∧ addr13 1 [(l, [97])] [(l, [98])] = ((0, 137), [(l, [97])]) ∧ putr13 1 [(l, [97])] 85 [99] = ((Lk.none, 135), [(l, [97])]) :=
  ⟨la13, ⟨⟨by decide, by decide, sha_byte [97], by show (sha [97]).length ≤ _; rw [sha_len]; decide⟩, by decide⟩, rfl, putr_a, getr_a, addr_b, putr_c⟩
set_option maxRecDepth 1000000 in
set_option maxHeartbeats 2000000 in
theorem works13_any (w : World) (hcb : Cb w) : Calls Tryz.prog 7 #[] w fun e w' => e = .returned (.bool true) ∧ Below w.heap.size w w' := by
  have HCB := hide hcb
  have HNW := hide (new13_any w 1 ⟨Nat.le_refl _, by decide⟩)
  have HNM : Hid (∀ (w : World) (n : Int), Calls Tryz.prog 6 #[.int .i64 n] w fun e w' => e = .returned (.int .i64 n) ∧ w' = w) := num13_any
  clear hcb
  go_enter Tryz.func7, Tryz.ntmps7
  go_upto_region 4 with (first
    | (go_at_call 5; refine HNW.out.mono ?_; rintro e w1 ⟨rfl, hp1⟩)
    | (go_at_call 6; refine (HNM.out _ _).mono ?_; rintro e wq ⟨rfl, rfl⟩))
  obtain ⟨l, hlx, hl1, hpa, hga, hab, hpc⟩ := works_facts
  have HLX := hide hlx
  have HL1 := hide hl1
  have HGA := hide hga
  have HAB := hide hab
  have HPC := hide hpc
  have HN1 : Hid (Nst w wq (w.heap.size + 1) w.heap.size 1 []) := ⟨hp1.out.1, hp1.out.2, by omega, Nat.le_refl _⟩
  generalize hgg : w.heap.size + 1 = g at *
  obtain ⟨B, hB⟩ : ∃ B, w.heap.size = B := ⟨_, rfl⟩
  rw [hB] at HN1
  have HGZ : Hid (g < wq.heap.size) := blk_lt HN1.out.s.c
  have HP1 : Hid (Calls Tryz.prog 11 #[.pointer (some ⟨g, 0, none⟩), .int .u64 85, .slice (some ⟨wq.heap.size, 0, none⟩) 1 1] (wq.alloc (.cells #[.int .u8 97] 5 (1, 2))) fun e w' => e = .returned (.tuple #[.agg #[.int .i64 l.v, .int .u64 (l.c : Nat), .int .u64 (l.h : Nat), .string (nstr l.d)], .int .i64 0]) ∧ Hid (Nst w w' g B 1 [(l, [97])])) := by
    have h := put13_any (wq.alloc (.cells #[.int .u8 97] 5 (1, 2))) g B 1 [] ((HN1.out.next (below_alloc4 wq _)).s) 85 (by decide) (.slice (some ⟨wq.heap.size, 0, none⟩) 1 1) [97] (bsl_keep (c := 97) (heap_alloc_new wq (.cells #[.int .u8 97] 5 (1, 2))) (by have := HGZ.out; omega) (by decide)) (by decide) ((HN1.out.next (below_alloc4 wq _)).cb (HCB.out))
    rw [hpa] at h
    refine h.mono ?_
    rintro e w' ⟨he, hs, hk⟩
    exact ⟨he, (HN1.out.next (below_alloc4 wq _)).of hs hk⟩
  clear hlx hl1 hpa hga hab hpc hp1 hgg hB
  have cv1 := litc wq 97
  go_upto_region 5 with (go_at_call 11; refine HP1.out.mono ?_; rintro e w3 ⟨rfl, hN3⟩)
  have HW4 : Hid (Wkl w (w3.alloc (.cells #[.int .i64 l.v, .int .u64 (l.c : Nat), .int .u64 (l.h : Nat), .string (nstr l.d)] 38)) g B l w3.heap.size) := ⟨hN3.out.next (below_alloc4 w3 _), heap_alloc_new w3 _⟩
  clear HP1 HN1 HGZ hN3 cv1
  generalize w3.alloc (.cells #[.int .i64 l.v, .int .u64 (l.c : Nat), .int .u64 (l.h : Nat), .string (nstr l.d)] 38) = w4 at *
  generalize w3.heap.size = p at *
  have HG4 : Hid (Calls Tryz.prog 13 #[.pointer (some ⟨g, 0, none⟩), .agg #[.int .i64 l.v, .int .u64 (l.c : Nat), .int .u64 (l.h : Nat), .string (nstr l.d)]] w4 fun e w' => ∃ (a : Option Addr) (cap : Nat), e = .returned (.tuple #[.slice a 1 cap, .int .i64 0]) ∧ Hid (Wkb w w' g B l p (.slice a 1 cap))) := by
    have h := get13_any w4 g B 1 [(l, [97])] HW4.out.n.s l HLX.out (HW4.out.n.cb HCB.out)
    refine h.mono ?_
    rintro e w' ⟨⟨v, he, hb, ho⟩, hs, hk⟩
    rw [HGA.out] at he hb
    have hb2 := hb
    obtain ⟨⟨a, cap, rfl, -, -⟩, -⟩ := hb2
    exact ⟨a, cap, he, HW4.out.of hs (hk.mono (fun _ _ e => .inl e)), hb, fun k hk2 => by
      have h1 := ho k hk2
      have h2 := blk_lt HW4.out.n.s.c
      have h3 := HW4.out.n.s.m.lt
      omega⟩
  have d0 : w4.cell? ⟨p, 0, none⟩ = some (.int .i64 l.v) := blk_cell (j := 0) HW4.out.lb rfl
  have d1 : w4.cell? ⟨p, 1, none⟩ = some (.int .u64 (l.c : Nat)) := blk_cell (j := 1) HW4.out.lb rfl
  have d2 : w4.cell? ⟨p, 2, none⟩ = some (.int .u64 (l.h : Nat)) := blk_cell (j := 2) HW4.out.lb rfl
  have d3 : w4.cell? ⟨p, 3, none⟩ = some (.string (nstr l.d)) := blk_cell (j := 3) HW4.out.lb rfl
  go_upto_region 6 with (go_at_call 13; refine HG4.out.mono ?_; rintro e w5 ⟨a, cap, rfl, HW5⟩)
  clear d0 d1 d2 d3 HW4 HG4
  have d0 : w5.cell? ⟨p, 0, none⟩ = some (.int .i64 l.v) := blk_cell (j := 0) HW5.out.l.lb rfl
  have d1 : w5.cell? ⟨p, 1, none⟩ = some (.int .u64 (l.c : Nat)) := blk_cell (j := 1) HW5.out.l.lb rfl
  have d2 : w5.cell? ⟨p, 2, none⟩ = some (.int .u64 (l.h : Nat)) := blk_cell (j := 2) HW5.out.l.lb rfl
  have d3 : w5.cell? ⟨p, 3, none⟩ = some (.string (nstr l.d)) := blk_cell (j := 3) HW5.out.l.lb rfl
  have cv2 := litc w5 98
  have hz5 : (w5.alloc (.cells #[.int .u8 98] 5 (1, 2))).heap.size = w5.heap.size + 1 := by simp
  have HB6 : Hid (Below w5.heap.size w5 ((w5.alloc (.cells #[.int .u8 98] 5 (1, 2))).alloc (.cells #[.int .i64 l.v, .int .u64 (l.c : Nat), .int .u64 (l.h : Nat), .string (nstr l.d), .slice (some ⟨w5.heap.size, 0, none⟩) 1 1] 43))) := (below_alloc4 w5 _).trans ((below_alloc4 _ _).mono (by rw [hz5]; omega))
  have HW6 := hide (HW5.out.next HB6.out)
  have HGZ5 : Hid (g < w5.heap.size) := blk_lt HW5.out.l.n.s.c
  have HA6 : Hid (Calls Tryz.prog 9 #[.pointer (some ⟨g, 0, none⟩), .slice (some ⟨w5.heap.size + 1, 0, none⟩) 1 1] ((w5.alloc (.cells #[.int .u8 98] 5 (1, 2))).alloc (.cells #[.int .i64 l.v, .int .u64 (l.c : Nat), .int .u64 (l.h : Nat), .string (nstr l.d), .slice (some ⟨w5.heap.size, 0, none⟩) 1 1] 43)) fun e w' => e = .returned (.tuple #[.int .i64 0, .int .i64 137]) ∧ Hid (Wkb w w' g B l p (.slice a 1 cap))) := by
    have hnew := heap_alloc_new (w5.alloc (.cells #[.int .u8 98] 5 (1, 2))) (.cells #[.int .i64 l.v, .int .u64 (l.c : Nat), .int .u64 (l.h : Nat), .string (nstr l.d), .slice (some ⟨w5.heap.size, 0, none⟩) 1 1] 43)
    rw [hz5] at hnew
    have hg5 := HGZ5.out
    have hby := blk_alloc (.cells #[.int .i64 l.v, .int .u64 (l.c : Nat), .int .u64 (l.h : Nat), .string (nstr l.d), .slice (some ⟨w5.heap.size, 0, none⟩) 1 1] 43) (heap_alloc_new w5 (.cells #[.int .u8 98] 5 (1, 2)))
    have h := Adds13_any ((w5.alloc (.cells #[.int .u8 98] 5 (1, 2))).alloc (.cells #[.int .i64 l.v, .int .u64 (l.c : Nat), .int .u64 (l.h : Nat), .string (nstr l.d), .slice (some ⟨w5.heap.size, 0, none⟩) 1 1] 43)) g B 1 [(l, [97])] HW6.out.l.n.s (.slice (some ⟨w5.heap.size + 1, 0, none⟩) 1 1) [(l, [98])] (KSl.one (b := [98]) hnew (by omega) (bsl_keep (c := 98) hby (by omega) (by decide)) HLX.out (by decide)) (by simp) (HW6.out.l.n.cb HCB.out)
    rw [HAB.out] at h
    refine h.mono ?_
    rintro e w' ⟨he, hs, hk⟩
    exact ⟨he, HW6.out.of hs hk⟩
  clear hz5 HB6 HW6 HW5
  go_upto_region 7 with (go_at_call 9; refine HA6.out.mono ?_; rintro e w7 ⟨rfl, HW7⟩)
  clear d0 d1 d2 d3 HA6 cv2 HGZ5
  have cv3 := litc w7 99
  have HW8 := hide (HW7.out.next (below_alloc4 w7 (.cells #[.int .u8 99] 5 (1, 2))))
  have HGZ7 : Hid (g < w7.heap.size) := blk_lt HW7.out.l.n.s.c
  have HP8 : Hid (Calls Tryz.prog 11 #[.pointer (some ⟨g, 0, none⟩), .int .u64 85, .slice (some ⟨w7.heap.size, 0, none⟩) 1 1] (w7.alloc (.cells #[.int .u8 99] 5 (1, 2))) fun e w' => e = .returned (.tuple #[.agg #[.int .i64 0, .int .u64 0, .int .u64 0, .string ⟨#[]⟩], .int .i64 135]) ∧ Hid (Wkb w w' g B l p (.slice a 1 cap))) := by
    have h := put13_any (w7.alloc (.cells #[.int .u8 99] 5 (1, 2))) g B 1 [(l, [97])] HW8.out.l.n.s 85 (by decide) (.slice (some ⟨w7.heap.size, 0, none⟩) 1 1) [99] (bsl_keep (c := 99) (heap_alloc_new w7 (.cells #[.int .u8 99] 5 (1, 2))) (by have := HGZ7.out; omega) (by decide)) (by decide) (HW8.out.l.n.cb HCB.out)
    rw [HPC.out] at h
    refine h.mono ?_
    rintro e w' ⟨he, hs, hk⟩
    exact ⟨he, HW8.out.of hs hk⟩
  clear HW7 HW8 HGZ7
  go_upto_region 8 with (go_at_call 11; refine HP8.out.mono ?_; rintro e w9 ⟨rfl, HW9⟩)
  have HWa := hide (HW9.out.next (below_alloc4 w9 (.cells #[.int .i64 0, .int .u64 0, .int .u64 0, .string ⟨#[]⟩] 38)))
  clear HP8 HW9 cv3
  generalize w9.alloc (.cells #[.int .i64 0, .int .u64 0, .int .u64 0, .string ⟨#[]⟩] 38) = wa at *
  refine heldStart (S := fun wq => Wkb w wq g B l p (.slice a 1 cap)) (by kernel_rfl) ?_
  have hS : Wkb w wa.drew g B l p (.slice a 1 cap) := HWa.out.next (Below.drew (Below.refl _ _))
  refine heldTake 0 _ rfl (by kernel_rfl) (by kernel_rfl) (by kernel_rfl) (fun _ _ _ h => h) rfl hS (fun wy hy => by first | (go_simp; done) | (go_simp; rfl) | rfl) ?_
  (try simp only [Act.put]); (try simp only [LsA, Ls0, LsS])
  refine heldStep 1 rfl (by kernel_rfl) (fun K hK => ?_)
  go_simp
  refine (HNM.out _ _).mono ?_
  rintro e wq1 ⟨rfl, rfl⟩
  refine (Hid.out hK) _ _ hS (fun hS2 => ?_)
  clear hK K hS
  have hS := hS2
  clear hS2
  (try simp only [Act.put]); (try simp only [LsA, Ls0, LsS])
  refine heldTake 2 _ rfl (by kernel_rfl) (by kernel_rfl) (by kernel_rfl) (fun _ _ _ h => h) rfl hS (fun wy hy => by first | (go_simp; done) | (go_simp; rfl) | rfl) ?_
  (try simp only [Act.put]); (try simp only [LsA, Ls0, LsS])
  refine heldTake 3 _ rfl (by kernel_rfl) (by kernel_rfl) (by kernel_rfl) (fun _ _ _ h => h) rfl hS (fun wy hy => by first | (go_simp; done) | (go_simp; rfl) | rfl) ?_
  (try simp only [Act.put]); (try simp only [LsA, Ls0, LsS])
  refine heldTake 4 _ rfl (by kernel_rfl) (by kernel_rfl) (by kernel_rfl) (fun _ _ _ h => h) rfl hS (fun wy hy => by first | (go_simp; done) | (go_simp; rfl) | rfl) ?_
  (try simp only [Act.put]); (try simp only [LsA, Ls0, LsS])
  refine heldStep 5 rfl (by kernel_rfl) (fun K hK => ?_)
  go_simp
  refine (HNM.out _ _).mono ?_
  rintro e wq2 ⟨rfl, rfl⟩
  refine (Hid.out hK) _ _ hS (fun hS2 => ?_)
  clear hK K hS
  have hS := hS2
  clear hS2
  (try simp only [Act.put]); (try simp only [LsA, Ls0, LsS])
  refine heldTake 6 _ rfl (by kernel_rfl) (by kernel_rfl) (by kernel_rfl) (fun _ _ _ h => h) rfl hS (fun wy hy => by first | (go_simp; done) | (go_simp; rfl) | rfl) ?_
  (try simp only [Act.put]); (try simp only [LsA, Ls0, LsS])
  refine heldTake 7 _ rfl (by kernel_rfl) (by kernel_rfl) (by kernel_rfl) (fun _ _ _ h => h) rfl hS (fun wy hy => by first | (go_simp; done) | (go_simp; rfl) | rfl) ?_
  (try simp only [Act.put]); (try simp only [LsA, Ls0, LsS])
  refine heldTake 8 _ rfl (by kernel_rfl) (by kernel_rfl) (by kernel_rfl) (fun _ _ _ h => h) rfl hS (fun wy hy => by first | (go_simp; done) | (go_simp; rfl) | rfl) ?_
  (try simp only [Act.put]); (try simp only [LsA, Ls0, LsS])
  refine heldTake 9 _ rfl (by kernel_rfl) (by kernel_rfl) (by kernel_rfl) (fun _ _ _ h => h) rfl hS (fun wy hy => by first | (go_simp; done) | (go_simp; rfl) | rfl) ?_
  (try simp only [Act.put]); (try simp only [LsA, Ls0, LsS])
  refine heldTake 10 _ rfl (by kernel_rfl) (by kernel_rfl) (by kernel_rfl) (fun _ _ _ h => h) rfl hS (fun wq hq => by have h0 := hq.b.text; rw [show nstr [97] = ⟨#[97]⟩ from rfl] at h0; first | (go_simp; done) | (go_simp; rfl) | rfl) ?_
  (try simp only [Act.put]); (try simp only [LsA, Ls0, LsS])
  refine heldTake 11 _ rfl (by kernel_rfl) (by kernel_rfl) (by kernel_rfl) (fun _ _ _ h => h) rfl hS (fun wy hy => by first | (go_simp; done) | (go_simp; rfl) | rfl) ?_
  (try simp only [Act.put]); (try simp only [LsA, Ls0, LsS])
  refine heldTake 12 _ rfl (by kernel_rfl) (by kernel_rfl) (by kernel_rfl) (fun _ _ _ h => h) rfl hS (fun wy hy => by first | (go_simp; done) | (go_simp; rfl) | rfl) ?_
  (try simp only [Act.put]); (try simp only [LsA, Ls0, LsS])
  refine heldTake 13 _ rfl (by kernel_rfl) (by kernel_rfl) (by kernel_rfl) (fun _ _ _ h => h) rfl hS (fun wy hy => by first | (go_simp; done) | (go_simp; rfl) | rfl) ?_
  (try simp only [Act.put]); (try simp only [LsA, Ls0, LsS])
  refine heldTake 14 _ rfl (by kernel_rfl) (by kernel_rfl) (by kernel_rfl) (fun _ _ _ h => h) rfl hS (fun wy hy => by first | (go_simp; done) | (go_simp; rfl) | rfl) ?_
  (try simp only [Act.put]); (try simp only [LsA, Ls0, LsS])
  refine heldStep 15 rfl (by kernel_rfl) (fun K hK => ?_)
  go_simp
  refine (HNM.out _ _).mono ?_
  rintro e wq3 ⟨rfl, rfl⟩
  refine (Hid.out hK) _ _ hS (fun hS2 => ?_)
  clear hK K hS
  have hS := hS2
  clear hS2
  (try simp only [Act.put]); (try simp only [LsA, Ls0, LsS])
  refine heldTake 16 _ rfl (by kernel_rfl) (by kernel_rfl) (by kernel_rfl) (fun _ _ _ h => h) rfl hS (fun wy hy => by first | (go_simp; done) | (go_simp; rfl) | rfl) ?_
  (try simp only [Act.put]); (try simp only [LsA, Ls0, LsS])
  refine heldTake 17 _ rfl (by kernel_rfl) (by kernel_rfl) (by kernel_rfl) (fun _ _ _ h => h) rfl hS (fun wy hy => by first | (go_simp; done) | (go_simp; rfl) | rfl) ?_
  (try simp only [Act.put]); (try simp only [LsA, Ls0, LsS])
  refine heldTake 18 _ rfl (by kernel_rfl) (by kernel_rfl) (by kernel_rfl) (fun _ _ _ h => h) rfl hS (fun wy hy => by first | (go_simp; done) | (go_simp; rfl) | rfl) ?_
  (try simp only [Act.put]); (try simp only [LsA, Ls0, LsS])
  refine heldTake 19 _ rfl (by kernel_rfl) (by kernel_rfl) (by kernel_rfl) (fun _ _ _ h => h) rfl hS (fun wy hy => by first | (go_simp; done) | (go_simp; rfl) | rfl) ?_
  (try simp only [Act.put]); (try simp only [LsA, Ls0, LsS])
  refine heldStep 20 rfl (by kernel_rfl) (fun K hK => ?_)
  go_simp
  refine (HNM.out _ _).mono ?_
  rintro e wq4 ⟨rfl, rfl⟩
  refine (Hid.out hK) _ _ hS (fun hS2 => ?_)
  clear hK K hS
  have hS := hS2
  clear hS2
  (try simp only [Act.put]); (try simp only [LsA, Ls0, LsS])
  refine heldTake 21 _ rfl (by kernel_rfl) (by kernel_rfl) (by kernel_rfl) (fun _ _ _ h => h) rfl hS (fun wy hy => by first | (go_simp; done) | (go_simp; rfl) | rfl) ?_
  (try simp only [Act.put]); (try simp only [LsA, Ls0, LsS])
  refine heldTake 22 _ rfl (by kernel_rfl) (by kernel_rfl) (by kernel_rfl) (fun _ _ _ h => h) rfl hS (fun wy hy => by first | (go_simp; done) | (go_simp; rfl) | rfl) ?_
  (try simp only [Act.put]); (try simp only [LsA, Ls0, LsS])
  refine heldTake 23 _ rfl (by kernel_rfl) (by kernel_rfl) (by kernel_rfl) (fun _ _ _ h => h) rfl hS (fun wy hy => by first | (go_simp; done) | (go_simp; rfl) | rfl) ?_
  (try simp only [Act.put]); (try simp only [LsA, Ls0, LsS])
  refine heldTake 24 _ rfl (by kernel_rfl) (by kernel_rfl) (by kernel_rfl) (fun _ _ _ h => h) rfl hS (fun wy hy => by first | (go_simp; done) | (go_simp; rfl) | rfl) ?_
  (try simp only [Act.put]); (try simp only [LsA, Ls0, LsS])
  refine heldStep 25 rfl (by kernel_rfl) (fun K hK => ?_)
  go_simp
  refine (len13_any _ g B 1 _ hS.l.n.s).mono ?_
  rintro e wl ⟨rfl, hsl, hkl⟩
  have hSl : Wkb w wl g B l p (.slice a 1 cap) := hS.of hsl (hkl.mono (fun _ _ e => .inl e))
  rw [show (([(l, [97])] : List Blk).length : Int) = 1 from rfl]
  refine (Hid.out hK) _ _ hSl (fun hS2 => ?_)
  clear hK K hS
  have hS := hS2
  clear hS2
  (try simp only [Act.put]); (try simp only [LsA, Ls0, LsS])
  have HSL := hide hSl
  clear hsl hkl hSl
  refine heldTake 26 _ rfl (by kernel_rfl) (by kernel_rfl) (by kernel_rfl) (fun _ _ _ h => h) rfl hS (fun wy hy => by first | (go_simp; done) | (go_simp; rfl) | rfl) ?_
  (try simp only [Act.put]); (try simp only [LsA, Ls0, LsS])
  refine heldTake 27 _ rfl (by kernel_rfl) (by kernel_rfl) (by kernel_rfl) (fun _ _ _ h => h) rfl hS (fun wy hy => by first | (go_simp; done) | (go_simp; rfl) | rfl) ?_
  (try simp only [Act.put]); (try simp only [LsA, Ls0, LsS])
  refine heldTake 28 _ rfl (by kernel_rfl) (by kernel_rfl) (by kernel_rfl) (fun _ _ _ h => h) rfl hS (fun wy hy => by first | (go_simp; done) | (go_simp; rfl) | rfl) ?_
  (try simp only [Act.put]); (try simp only [LsA, Ls0, LsS])
  refine heldTake 29 _ rfl (by kernel_rfl) (by kernel_rfl) (by kernel_rfl) (fun _ _ _ h => h) rfl hS (fun wq hq => exec_aggAt (g := p) (off := 0) (cs := #[.int .i64 l.v, .int .u64 (l.c : Nat), .int .u64 (l.h : Nat), .string (nstr l.d)]) info61 aggLk rfl rfl rfl (fun j u hj => by rw [Nat.zero_add]; exact blk_cell hq.l.lb hj)) ?_
  (try simp only [Act.put]); (try simp only [LsA, Ls0, LsS])
  refine heldStep 30 rfl (by kernel_rfl) (fun K hK => ?_)
  go_simp
  have hS5 : Wkb w (wl.alloc (.cells #[.int .u8 97] 5)) g B l p (.slice a 1 cap) := HSL.out.next (below_alloc4 wl _)
  refine (Hid.out hK) _ _ hS5 (fun hS2 => ?_)
  clear hK K hS
  have hS := hS2
  clear hS2
  (try simp only [Act.put]); (try simp only [LsA, Ls0, LsS])
  have cv4 := litc wl 97
  refine heldStep 31 rfl (by kernel_rfl) (fun K hK => ?_)
  go_simp
  have hS6 : Wkb w (wl.alloc (.cells #[.int .u8 97] 5 (1, 2))) g B l p (.slice a 1 cap) := HSL.out.next (below_alloc4 wl _)
  refine (Hid.out hK) _ _ hS6 (fun hS2 => ?_)
  clear hK K hS
  have hS := hS2
  clear hS2
  (try simp only [Act.put]); (try simp only [LsA, Ls0, LsS])
  refine heldStep 32 rfl (by kernel_rfl) (fun K hK => ?_)
  go_simp
  have HNA : Hid (Calls Tryz.prog 15 #[.int .u64 85, .slice (some ⟨wl.heap.size, 0, none⟩) 1 1] (wl.alloc (.cells #[.int .u8 97] 5 (1, 2))) fun e w' => e = .returned (.agg #[.int .i64 l.v, .int .u64 (l.c : Nat), .int .u64 (l.h : Nat), .string (nstr l.d)]) ∧ Below (wl.alloc (.cells #[.int .u8 97] 5 (1, 2))).heap.size (wl.alloc (.cells #[.int .u8 97] 5 (1, 2))) w') := by
    have h := name13_any (wl.alloc (.cells #[.int .u8 97] 5 (1, 2))) 85 (.slice (some ⟨wl.heap.size, 0, none⟩) 1 1) [97] (bsl_blk (c := 97) (heap_alloc_new wl (.cells #[.int .u8 97] 5 (1, 2))) (by decide)) (by decide)
    rw [HL1.out] at h
    exact h
  refine HNA.out.mono ?_
  rintro e wm ⟨rfl, hbm⟩
  have hS7 : Wkb w wm g B l p (.slice a 1 cap) := hS.next hbm
  refine (Hid.out hK) _ _ hS7 (fun hS2 => ?_)
  clear hK K hS
  have hS := hS2
  clear hS2
  (try simp only [Act.put]); (try simp only [LsA, Ls0, LsS])
  have HEQ : Hid (∀ wq, (Op.equalIn 10000 38 (.agg #[.int .i64 l.v, .int .u64 (l.c : Nat), .int .u64 (l.h : Nat), .string (nstr l.d)]) (.agg #[.int .i64 l.v, .int .u64 (l.c : Nat), .int .u64 (l.h : Nat), .string (nstr l.d)])).run Tryz.prog wq = .ok true wq) := fun wq => by
    have h := eqlk wq (a := l) (b := l) HLX.out.d HLX.out.d
    rw [decide_eq_true rfl] at h
    exact h
  refine heldTake 33 _ rfl (by kernel_rfl) (by kernel_rfl) (by kernel_rfl) (fun _ _ _ h => h) rfl hS (fun wq hq => exec_eqlk rfl rfl rfl (HEQ.out wq)) ?_
  (try simp only [Act.put]); (try simp only [LsA, Ls0, LsS])
  refine heldTake 34 _ rfl (by kernel_rfl) (by kernel_rfl) (by kernel_rfl) (fun _ _ _ h => h) rfl hS (fun wy hy => by first | (go_simp; done) | (go_simp; rfl) | rfl) ?_
  (try simp only [Act.put]); (try simp only [LsA, Ls0, LsS])
  refine heldTake 35 _ rfl (by kernel_rfl) (by kernel_rfl) (by kernel_rfl) (fun _ _ _ h => h) rfl hS (fun wy hy => by first | (go_simp; done) | (go_simp; rfl) | rfl) ?_
  simp only [Act.put]
  simp only [List.setIfInBounds_toArray, List.set_cons_zero]
  refine heldDone (by kernel_rfl) ?_
  have HBE := hide hS.l.n.b
  clear hS hS5 hS6 hS7 hbm
  go_wp2_with fail
  go_ret
  exact ⟨rfl, HBE.out⟩
end
section
open Go.RowKit Go
def blk4 (i : Nat) : List Nat := [i % 256, i / 256 % 256, i / 65536 % 256, 107]
theorem blk4_byte (i : Nat) : ∀ x ∈ blk4 i, x < 256 := by
  intro x hx
  simp only [blk4, List.mem_cons, List.not_mem_nil, or_false] at hx
  rcases hx with rfl | rfl | rfl | rfl <;> omega
theorem blk4_inj {i j : Nat} (hi : i < 16777216) (hj : j < 16777216) (h : blk4 i = blk4 j) : i = j := by
  simp only [blk4, List.cons.injEq, and_true] at h
  omega
theorem met13_any (w : World) (e : Int) : Calls Tryz.prog 10 #[.int .i64 e] w fun x w' => x = .returned (.bool (decide (e = 134))) ∧ w' = w := by
  by_cases h : e = 134
  · subst h
    go_enter Tryz.func10, Tryz.ntmps10
    go_wp2_with fail
    refine (num13_any w 134).mono ?_
    rintro x w' ⟨rfl, hw⟩
    have hw := hw.symm
    subst hw
    go_wp2_with fail
    go_ret
    exact ⟨rfl, rfl⟩
  · have g : (e == 134) = false := beq_eq_false_iff_ne.2 h
    have hd : decide (e = 134) = false := decide_eq_false h
    rw [hd]
    clear h hd
    go_enter Tryz.func10, Tryz.ntmps10
    go_wp2_with fail
    refine (num13_any w e).mono ?_
    rintro x w' ⟨rfl, hw⟩
    have hw := hw.symm
    subst hw
    go_wp2_with fail
    go_ret
    exact ⟨rfl, rfl⟩
end
section
open Go.RowKit Go.Maps Go
theorem kll_same {a b : Lk} (ha : Lkx a) (hb : Lkx b) : (kll a).sameKey (kll b) = decide (a = b) := by
  rw [Bool.eq_iff_iff, decide_eq_true_iff]
  constructor
  · intro h
    refine kll_inj ha hb ?_
    unfold kll at h ⊢
    simpa [Lit.sameKey] using h
  · rintro rfl
    unfold kll
    simp [Lit.sameKey]
def LCol (D0 : DataW Unit) (left : Lit → Bool) (ss : List Lk) : Prop := ss.Nodup ∧ (∀ x ∈ ss, Lkx x) ∧ ∀ x, Lkx x → (x ∈ ss ↔ (has D0 (kll x) = true ∧ left (kll x) = false))
theorem LCol.start (D0 : DataW Unit) : LCol D0 (has D0) [] := ⟨List.nodup_nil, fun _ h => (nomatch h), fun x _ => by cases h : has D0 (kll x) <;> simp⟩
theorem LCol.step {D0 : DataW Unit} {left : Lit → Bool} {ss : List Lk} (h : LCol D0 left ss) {x : Lk} (hx : Lkx x) {y : DataW Unit} (hlk : left (kll x) = true) (hat : ∀ zd, D0.atKey (kll x) zd = y) : LCol D0 (fun z => left z && !z.sameKey (kll x)) (ss ++ [x]) := by
  have hhas : has D0 (kll x) = true := has_true_of_atKey hat
  have hn : x ∉ ss := fun hm => by
    have := ((h.2.2 x hx).1 hm).2
    rw [hlk] at this
    cases this
  refine ⟨?_, fun z hz => ?_, fun z hz => ?_⟩
  · rw [List.nodup_append]
    exact ⟨h.1, by simp, fun a ha b hb => by
      rw [List.mem_singleton.1 hb]
      exact fun e => hn (e ▸ ha)⟩
  · rcases List.mem_append.1 hz with hz | hz
    · exact h.2.1 z hz
    · rw [List.mem_singleton.1 hz]
      exact hx
  · rw [List.mem_append, h.2.2 z hz, List.mem_singleton]
    show _ ↔ _ ∧ (left (kll z) && !(kll z).sameKey (kll x)) = false
    rw [kll_same hz hx]
    by_cases e : z = x
    · subst e
      simp [hhas]
    · simp [e]
theorem LCol.perm {w : World} {B : Nat} {L : List Blk} (h : Mlb w B L) {D0 : DataW Unit} (hD : ∀ l, Lkx l → has D0 (kll l) = (atB L l).isSome) {left : Lit → Bool} {ss : List Lk} (hc : LCol D0 left ss) (hl : ∀ kl, left kl = false) : ss.Perm (L.map (·.1)) := by
  refine (List.perm_ext_iff_of_nodup hc.1 h.nd).2 fun x => ?_
  constructor
  · intro hm
    have hx := hc.2.1 x hm
    have h1 := ((hc.2.2 x hx).1 hm).1
    rw [hD x hx] at h1
    obtain ⟨b, hb⟩ := Option.isSome_iff_exists.1 h1
    exact List.mem_map.2 ⟨(x, b), atB_mem hb, rfl⟩
  · intro hm
    obtain ⟨p, hp, rfl⟩ := List.mem_map.1 hm
    have hx := (h.ok p hp).l
    refine (hc.2.2 _ hx).2 ⟨?_, hl _⟩
    rw [hD _ hx]
    cases hg : atB L p.1 with
    | none => exact absurd (List.mem_map.2 ⟨p, hp, rfl⟩) (atB_none.1 hg)
    | some b => rfl
end
section
open Go.RowKit Go.Maps Go.Sort Go
set_option maxRecDepth 1000000 in
set_option maxHeartbeats 1000000 in
theorem keysL_in (F : Fence) (n : Nat) (h10 : F.fn 84) (hro : F.round = none) (hn : 1 ≤ n) (l Bm b nn : Nat) (D0 : DataW Unit) (J : List Lk → World → Prop)
    (hY : ∀ pre x W, Lkx x → J pre W → pre.length < Maps.size D0 → YieldAt F (n - 1) Tryz.prog l #[lkv x] W fun e W' => e = .returned (.bool true) ∧ J (pre ++ [x]) W' ∧ KeepsWalks W W')
    (W : World) (hJ : AbidesFrom W.heap.size J) (hm : W.cell? ⟨Bm, 0, none⟩ = some (.map (some b))) (hown : W.ownsMap Tryz.prog 38 blkElem b nn D0) (h0 : J [] W) :
    CallsIn F n Tryz.prog 84 #[.func (.yield l) #[] #[], .pointer (some ⟨Bm, 0, none⟩)] W fun e W' => (∃ v, e = .returned v) ∧ ∃ (left : Lit → Bool) (ss : List Lk), (∀ kl, left kl = false) ∧ LCol D0 left ss ∧ J ss W' := by
  refine callsIn_of_wp Tryz.func84 rfl h10 ?_ hro
  simp only [Tryz.ntmps84, List.size_toArray, List.length_cons, List.length_nil, Nat.reduceAdd, Nat.reduceSub, Array.replicate_succ, Array.replicate_zero, List.push_toArray, List.append_toArray, List.nil_append, List.cons_append]
  gi_wp2_with (first
    | (gi_at_range; refine wpListIn_range_own _ rfl _ 46 rfl 38 74 lawK Tryz.underlying46 blkElem b nn _ rfl hown ?_; intro w0 hrg0 hg0 hs0)
    | gi_in)
  go_frame
  gi_loopw [3] (fun _ wr => ∃ (left : Lit → Bool) (cnt : Nat) (ss : List Lk), wr.ranges Tryz.prog 38 blkElem b W.heap.size nn D0 left cnt ∧ ss.length + cnt ≤ Maps.size D0 ∧ LCol D0 left ss ∧ J ss wr)
    (fun _ wr => wr.rangeLeft b W.heap.size)
  case atStart =>
    exact ⟨_, _, [], hrg0, by simp, LCol.start D0, hJ [] W w0 none h0 hg0 (fun r e => by cases e)⟩
  case round =>
    obtain ⟨left, cnt, ss, hrg, hcs, hC, hJs⟩ := hrel
    gi_wp2_with (first
      | (gi_at_next; refine wpListIn_next_ranges _ rfl _ rfl 38 lawK blkElem (fun x : {x : Lk // Lkx x} => .agg #[.int .i64 x.1.v, .int .u64 (x.1.c : Nat), .int .u64 (x.1.h : Nat), .string (nstr x.1.d)]) bval (fun key kl hk => by obtain ⟨x, hx, h1⟩ := keyInv hk; exact ⟨⟨x, h1⟩, hx⟩) (fun v _ h => by obtain ⟨c, hc, _⟩ := blkElem_inv h; exact ⟨c, hc⟩) b W.heap.size nn _ _ _ rfl hrg ?_ ?_)
      | gi_in)
    · -- nothing is left
      intro hc0 hl0
      gi_wp2
      go_end0
      exact ⟨⟨_, rfl⟩, left, ss, hl0, hC, hJs⟩
    · -- a link has come
      intro x hx c kl yd yp w2 cnt2 hkey hlk hv hat hrg2 hlt hg2 hs2 hen
      obtain rfl : kll x = kl := Option.some.inj ((keyL hx).symm.trans hkey)
      clear hkey
      have hJ2 : J ss w2 := hJ ss wr w2 (some W.heap.size) hJs hg2 (fun r e => by cases e; exact ⟨Nat.le_refl _, hrg.iter_walk⟩)
      clear hs2
      have hz2 := heap_alloc_new w2 (.cells #[.int .i64 0, .int .u64 0, .int .u64 0, .string ⟨#[]⟩] 38)
      have hst := row_store (cs := #[.int .i64 x.v, .int .u64 (x.c : Nat), .int .u64 (x.h : Nat), .string (nstr x.d)]) hz2 rfl (by simp [Value.oneCell'])
      have hg3 : w2.grownBy (w2.alloc (.cells #[.int .i64 x.v, .int .u64 (x.c : Nat), .int .u64 (x.h : Nat), .string (nstr x.d)] 38)) none := ⟨rfl, rfl, rfl, by simp, fun k hk _ => Below.heap_alloc w2 _ k hk⟩
      have hJ3 := hJ ss w2 _ none hJ2 hg3 (fun r e => by cases e)
      have hrg3 := hrg2.of_walks (KeepsWalks.alloc w2 (.cells #[.int .i64 x.v, .int .u64 (x.c : Nat), .int .u64 (x.h : Nat), .string (nstr x.d)] 38))
      obtain ⟨fn, tmps, assign, body, hy, hR⟩ := hY ss x _ hx hJ3 (by omega)
      unfold lkv at hy
      gi_wp2
      refine hR.mono ?_
      rintro e W3 ⟨rfl, hJ4, hk3⟩
      gi_wp2
      have hrg4 := hrg3.of_walks hk3
      go_roundw
      case rel => exact ⟨_, cnt2, ss ++ [x], hrg4, by simp; omega, hC.step hx hlk hat, hJ4⟩
      case measure => rw [hrg4.left_eq, hrg.left_eq]; exact hlt
end
section
open Go.RowKit Go.Maps Go.Sort Go
def apA9 : Code := Code.region 2
  #[{ dst := some 5, op := Op.alloc 38, type := 0, pos := "iter.go:51", after := #[], guard := none },
    { dst := none, op := Op.store 38 (Operand.tmp 5) (Operand.tmp 7), type := 0, pos := "iter.go:51", after := #[{ on := 0, ground := Ground.data }, { on := 0, ground := Ground.phase }], guard := none }]
  false
def apB9 : Code := Code.block 1 (Code.region 3
  #[{ dst := some 8, op := Op.load 68 (Operand.tmp 2), type := 68, pos := "iter.go:52", after := #[], guard := none },
    { dst := some 9, op := Op.load 38 (Operand.tmp 5), type := 38, pos := "iter.go:52", after := #[], guard := none },
    { dst := some 10, op := Op.buildSlice 68 1 #[(0, Operand.tmp 9)], type := 68, pos := "iter.go:52", after := #[{ on := 1, ground := Ground.data }], guard := none },
    { dst := some 11, op := Op.call { callee := Callee.builtin Builtin.append, args := #[Operand.tmp 8, Operand.tmp 10], argTypes := #[68, 68] }, type := 68, pos := "iter.go:52", after := #[{ on := 0, ground := Ground.data }, { on := 2, ground := Ground.data }], guard := none },
    { dst := none, op := Op.store 68 (Operand.tmp 2) (Operand.tmp 11), type := 0, pos := "iter.go:52", after := #[{ on := 3, ground := Ground.data }, { on := 3, ground := Ground.chain }, { on := 0, ground := Ground.phase }, { on := 1, ground := Ground.phase }, { on := 2, ground := Ground.phase }, { on := 3, ground := Ground.phase }], guard := none }]
  false)
def apR9 (fn : FuncId) (sv : Value) (Bs D : Nat) (st : LoopState) : Loop :=
  { state := st, pending := none, fn, tmps := #[.slice none 0 0, sv, .pointer (some ⟨Bs, 0, none⟩), undef, .slice none 0 0, undef, sv, undef, undef, undef, undef, undef, undef], params := #[7], assign := apA9, body := apB9, defers := D }
def lfl (ss : List Lk) : List Value := gfl (ss.map lcs)
structure ApL (w0 : World) (fn : FuncId) (sv : Value) (Bs l D : Nat) (ss : List Lk) (W : World) : Prop where
  box : ∃ v, W.heap[Bs]? = some (.cells #[v] 68 (0, 0)) ∧ W.ownsRow w0.heap.size 38 4 v ss.length (lfl ss)
  L : W.heap[l]? = some (.loop (apR9 fn sv Bs D .ready))
  K : W.heap[D]? = some (.deferred (some []))
  below : Below w0.heap.size w0 W
theorem own_abides9 {W W' : World} {row : Option Nat} {base : Nat} {e : TypeId} {size : Nat} {v : Value} {k : Nat} {xs : List Value} (h : W.ownsRow base e size v k xs) (hg : W.grownBy W' row)
    (hrow : ∀ r, row = some r → ∃ o : Obj, W.heap[r]? = some o ∧ o.isWalk = true) : W'.ownsRow base e size v k xs := by
  refine h.kept hg ?_
  rcases h.2 with ⟨rfl, _⟩ | ⟨g, cap, cur, rfl, _, hgb, _⟩
  · exact .inl rfl
  · refine .inr fun e' => ?_
    obtain ⟨o, ho, hw⟩ := hrow g (by simpa [Value.ownBlock] using e'.symm)
    rw [hgb] at ho
    cases ho
    cases hw
theorem ap_abides9 (w0 : World) (fn : FuncId) (sv : Value) (Bs l D B : Nat) (hB : w0.heap.size ≤ B) : AbidesFrom B (ApL w0 fn sv Bs l D) := fun s W W' row h hg hrow => by
  have hrow' : ∀ r, row = some r → ∃ o : Obj, W.heap[r]? = some o ∧ o.isWalk = true := fun r e => (hrow r e).2
  obtain ⟨v, hv, hr⟩ := h.box
  exact ⟨⟨v, (grownBy_keeps hg hrow' hv rfl).trans hv, own_abides9 hr hg hrow'⟩, (grownBy_keeps hg hrow' h.L rfl).trans h.L, (grownBy_keeps hg hrow' h.K rfl).trans h.K, h.below.grown hg h.below.size (fun k e => Nat.le_trans hB (hrow k e).1)⟩
theorem grown_put9 (W : World) (l : Nat) (o : Obj) : W.grownBy (W.putObj l o) (some l) :=
  ⟨rfl, rfl, rfl, by simp, fun k _ hk => World.putObj_heap_other (fun e => hk (by rw [e]))⟩
theorem grown_set9 (W : World) (b : Nat) (v : Value) : W.grownBy (W.setCell ⟨b, 0, none⟩ v) (some b) :=
  ⟨rfl, rfl, rfl, (KeepsWalks.setCell W _ v).size, fun k _ hk => Below.heap_setCell _ _ _ k (fun e => hk (by rw [e]))⟩
theorem grown_new9 (W : World) (o : Obj) : W.grownBy (W.alloc o) none := ⟨rfl, rfl, rfl, by simp, fun k hk _ => Below.heap_alloc W o k hk⟩
theorem own_ne9 {W : World} {base : Nat} {e : TypeId} {size : Nat} {v : Value} {k : Nat} {xs : List Value} (h : W.ownsRow base e size v k xs) {j : Nat} {o : Obj} (hj : W.heap[j]? = some o) (hno : ∀ cur, o ≠ .cells cur e (0, 0)) : v.ownBlock = none ∨ v.ownBlock ≠ some j := by
  rcases h.2 with ⟨rfl, _⟩ | ⟨g, cap, cur, rfl, _, hgb, _⟩
  · exact .inl rfl
  · refine .inr fun e' => ?_
    have : g = j := by simpa [Value.ownBlock] using e'
    subst this
    rw [hgb] at hj
    cases hj
    exact hno cur rfl
theorem own_walk9 {W : World} {base : Nat} {e : TypeId} {size : Nat} {v : Value} {k : Nat} {xs : List Value} (h : W.ownsRow base e size v k xs) : ∀ (j : Nat) (o : Obj), v.ownBlock = some j → W.heap[j]? = some o → o.isWalk = false := by
  intro j o hj ho
  rcases h.2 with ⟨rfl, _⟩ | ⟨g, cap, cur, rfl, _, hgb, _⟩
  · simp [Value.ownBlock] at hj
  · have : g = j := by simpa [Value.ownBlock] using hj
    subst this
    rw [hgb] at ho
    cases ho
    rfl
theorem link_ne9 : (68 : Nat) ≠ 38 := by decide
theorem infoLk3 : (Tryz.prog.info? 38).map (fun i => (i.zero, i.size, i.bytes)) = some (some (.agg #[.int .i64 0, .int .u64 0, .int .u64 0, .string ⟨#[]⟩]), 4, 40) := by kernel_rfl
set_option maxRecDepth 1000000 in
set_option maxHeartbeats 2000000 in
theorem apY9 (F : Fence) (m : Nat) (w0 : World) (fn : FuncId) (hfn : F.fn fn) (sv : Value) (Bs l D : Nat) (hBl : Bs ≠ l) (hDl : D ≠ l) (hDB : D ≠ Bs) (h0B : w0.heap.size ≤ Bs) (h0l : w0.heap.size ≤ l)
    (N : Nat) (hN : N ≤ 1000000) (ss : List Lk) (x : Lk) (W : World) (h : ApL w0 fn sv Bs l D ss W) (hlen : ss.length < N) :
    YieldAt F m Tryz.prog l #[lkv x] W fun e W' => e = .returned (.bool true) ∧ ApL w0 fn sv Bs l D (ss ++ [x]) W' ∧ KeepsWalks W W' := by
  have hne := link_ne9
  obtain ⟨i0, hi, hz0, hz1, hz2⟩ := info_ex infoLk3
  obtain ⟨v, hv, hrow⟩ := h.box
  unfold lkv
  refine ⟨fn, #[.slice none 0 0, sv, .pointer (some ⟨Bs, 0, none⟩), undef, .slice none 0 0, undef, sv, .agg #[.int .i64 x.v, .int .u64 (x.c : Nat), .int .u64 (x.h : Nat), .string (nstr x.d)], undef, undef, undef, undef, undef], apA9, apB9, by simpa [apR9] using run_yield (P := Tryz.prog) (args := #[.agg #[.int .i64 x.v, .int .u64 (x.c : Nat), .int .u64 (x.h : Nat), .string (nstr x.d)]]) h.L rfl, roundIn_of_wpIn hfn ?_⟩
  obtain ⟨Wa, hWa⟩ : ∃ Wa, Wa = W.alloc (.cells (lcs x) 38) := ⟨_, rfl⟩
  have hga : W.grownBy Wa none := by rw [hWa]; exact grown_new9 _ _
  have hka : KeepsWalks W Wa := by rw [hWa]; exact KeepsWalks.alloc _ _
  have hL := (hga.block l (blk_lt h.L) (by simp)).trans h.L
  have hva := (hga.block Bs (blk_lt hv) (by simp)).trans hv
  have hKa := (hga.block D (blk_lt h.K) (by simp)).trans h.K
  have hxa : Wa.heap[W.heap.size]? = some (.cells (lcs x) 38 (0, 0)) := by rw [hWa]; exact heap_alloc_new _ _
  have hrowa := hrow.kept hga (Classical.em _)
  have hba : Below w0.heap.size w0 Wa := h.below.grown hga h.below.size (fun k e => by cases e)
  have hbr := run_beginRound (P := Tryz.prog) hL rfl
  obtain ⟨W2, hW2⟩ : ∃ W2, Wa.putObj l (.loop (apR9 fn sv Bs D .busy)) = W2 := ⟨_, rfl⟩
  change Sem.run Tryz.prog (Instr.beginRound l) Wa = Result.ok () (Wa.putObj l (.loop (apR9 fn sv Bs D .busy))) at hbr
  rw [hW2] at hbr
  have hz2 := heap_alloc_new W (.cells #[.int .i64 0, .int .u64 0, .int .u64 0, .string ⟨#[]⟩] 38)
  have hst := row_store (cs := #[.int .i64 x.v, .int .u64 (x.c : Nat), .int .u64 (x.h : Nat), .string (nstr x.d)]) hz2 rfl (by simp [Value.oneCell'])
  unfold lcs at hWa
  unfold apA9
  gi_wp2_with (rw [Oper.semAt_eq _ _ _ (fun c h => by cases h)]; go_simp; try go_bits)
  rw [← hWa]
  refine ⟨W2, hbr, ?_⟩
  have hg2 : Wa.grownBy W2 (some l) := by rw [← hW2]; exact grown_put9 _ _ _
  have hk2 : KeepsWalks W W2 := hka.trans (by rw [← hW2]; exact KeepsWalks.putObj _ hL rfl)
  have hv2 : W2.heap[Bs]? = some (.cells #[v] 68 (0, 0)) := by rw [← hW2]; exact (World.putObj_heap_other hBl).trans hva
  have hK2 : W2.heap[D]? = some (.deferred (some [])) := by rw [← hW2]; exact (World.putObj_heap_other hDl).trans hKa
  have hL2 : W2.heap[l]? = some (.loop (apR9 fn sv Bs D .busy)) := by rw [← hW2]; exact World.putObj_heap_same (blk_lt hL)
  have hxl : W.heap.size ≠ l := by have := blk_lt h.L; omega
  have hx2 : W2.heap[W.heap.size]? = some (.cells (lcs x) 38 (0, 0)) := by rw [← hW2]; exact (World.putObj_heap_other hxl).trans hxa
  have hrow2 := hrowa.kept hg2 (own_ne9 hrowa hL (fun cur e => by cases e))
  have hb2 : Below w0.heap.size w0 W2 := hba.grown hg2 hba.size (fun k e => by cases e; exact h0l)
  have c2 : W2.cell? ⟨Bs, 0, none⟩ = some v := blk_cell (j := 0) hv2 rfl
  have cx0 : W2.cell? ⟨W.heap.size, 0, none⟩ = some (.int .i64 x.v) := blk_cell (j := 0) hx2 rfl
  have cx1 : W2.cell? ⟨W.heap.size, 1, none⟩ = some (.int .u64 (x.c : Nat)) := blk_cell (j := 1) hx2 rfl
  have cx2 : W2.cell? ⟨W.heap.size, 2, none⟩ = some (.int .u64 (x.h : Nat)) := blk_cell (j := 2) hx2 rfl
  have cx3 : W2.cell? ⟨W.heap.size, 3, none⟩ = some (.string (nstr x.d)) := blk_cell (j := 3) hx2 rfl
  clear hW2 hWa hst hz2 hbr
  have ne_of : ∀ {j : Nat} {o : Obj}, W2.heap[j]? = some o → (∀ cur, o ≠ .cells cur 38 (0, 0)) → some j ≠ v.ownBlock := fun hj hno => by
    rcases own_ne9 hrow2 hj hno with e | e
    · rw [e]; simp
    · exact fun e' => e e'.symm
  have nB := ne_of hv2 (fun cur e => hne (Obj.cells.inj e).2.1)
  have nL := ne_of hL2 (fun cur e => by cases e)
  have nK := ne_of hK2 (fun cur e => by cases e)
  have HNW : Hid (∀ j u, ([.int .i64 x.v, .int .u64 (x.c : Nat), .int .u64 (x.h : Nat), .string (nstr x.d)] : List Value)[j]? = some u → (W2.alloc (.cells #[.int .i64 x.v, .int .u64 (x.c : Nat), .int .u64 (x.h : Nat), .string (nstr x.d)] 38)).cell? ((⟨W2.heap.size, 0, none⟩ : Addr).add j) = some u) := fun j u hu => by
    rw [addr0]
    exact blk_cell (heap_alloc_new _ _) (by simpa using hu)
  have HON : Hid (∀ u ∈ ([.int .i64 x.v, .int .u64 (x.c : Nat), .int .u64 (x.h : Nat), .string (nstr x.d)] : List Value), u.oneCell' = true) := by
    intro u hu
    simp at hu
    rcases hu with rfl | rfl | rfl | rfl <;> rfl
  have HB1 : Hid (ss.length + 1 ≤ maxLen ∧ (ss.length + 1) * 40 ≤ 140737488355328) := by show _ ∧ _; unfold maxLen; omega
  have HB2 : Hid (w0.heap.size ≤ (W2.alloc (.cells #[.int .i64 x.v, .int .u64 (x.c : Nat), .int .u64 (x.h : Nat), .string (nstr x.d)] 38)).heap.size) := by have := hb2.size; show _ ≤ _; simp; omega
  have HRW := hide (hrow2.alloc (.cells #[.int .i64 x.v, .int .u64 (x.c : Nat), .int .u64 (x.h : Nat), .string (nstr x.d)] 38))
  have hBlt := blk_lt hv2
  have hLlt := blk_lt hL2
  have hKlt := blk_lt hK2
  unfold apB9
  gi_wp2_with (first
    | (gi_at_builtin; refine wpListIn_append_own _ rfl _ _ 68 rfl w0.heap.size 38 i0 (.agg #[.int .i64 0, .int .u64 0, .int .u64 0, .string ⟨#[]⟩]) 4 40 Tryz.underlying68 hi hz0 hz1 hz2 rfl (by decide) _ _ _ rfl HRW.out ⟨W2.heap.size, 0, none⟩ 1 1 [.int .i64 x.v, .int .u64 (x.c : Nat), .int .u64 (x.h : Nat), .string (nstr x.d)] rfl rfl HNW.out HON.out HB1.out.1 HB1.out.2 HB2.out ?_; intro v' w3 hown' hg3 hnil3
       have hv3 : w3.heap[Bs]? = some (.cells #[v] 68 (0, 0)) := (hg3.block Bs (by simp; omega) nB).trans ((Below.heap_alloc _ _ Bs hBlt).trans hv2)
       have hc3 := blk_cell (j := 0) (v := v) hv3 rfl
       have hf3 := blk_frozen 0 hv3
       obtain ⟨a', cap', hv', -⟩ := own_formG hown'
       subst hv'
       go_frame)
    | (rw [Oper.semAt_eq _ _ _ (fun c h => by cases h)]; go_simp; try go_bits))
  have hg3' : (W2.alloc (.cells #[.int .i64 x.v, .int .u64 (x.c : Nat), .int .u64 (x.h : Nat), .string (nstr x.d)] 38)).grownBy w3 v.ownBlock := hg3
  have hL3 := (hg3'.block l (by simp; omega) nL).trans ((Below.heap_alloc _ _ l hLlt).trans hL2)
  have hK3 := (hg3'.block D (by simp; omega) nK).trans ((Below.heap_alloc _ _ D hKlt).trans hK2)
  obtain ⟨w4, hw4⟩ : ∃ w4, w3.setCell ⟨Bs, 0, none⟩ (.slice a' (ss.length + 1) cap') = w4 := ⟨_, rfl⟩
  rw [hw4]
  have hg4 : w3.grownBy w4 (some Bs) := by rw [← hw4]; exact grown_set9 _ _ _
  have hv4 : w4.heap[Bs]? = some (.cells #[.slice a' (ss.length + 1) cap'] 68 (0, 0)) := by rw [← hw4]; exact blk_set 0 _ hv3
  have hL4 := (hg4.block l (blk_lt hL3) (fun e => hBl (by cases e; rfl))).trans hL3
  have hK4 := (hg4.block D (blk_lt hK3) (fun e => hDB (by cases e; rfl))).trans hK3
  have hrow4 := hown'.kept hg4 (own_ne9 hown' hv3 (fun cur e => hne (Obj.cells.inj e).2.1))
  have hb3 : Below w0.heap.size w0 w3 := (hb2.alloc hb2.size _).grown hg3' (by have := hb2.size; simp; omega) (fun k e => (hrow2.lt k e).1)
  have hb4 : Below w0.heap.size w0 w4 := hb3.grown hg4 hb3.size (fun k e => by cases e; exact h0B)
  have hk4 : KeepsWalks W w4 := ((hk2.trans (KeepsWalks.alloc _ _)).trans (KeepsWalks.of_grownBy hg3' (own_walk9 HRW.out))).trans (by rw [← hw4]; exact KeepsWalks.setCell _ _ _)
  clear hw4
  refine ⟨_, _, run_endRound none hL4, rfl, ⟨⟨_, (World.putObj_heap_other hBl).trans hv4, ?_⟩, World.putObj_heap_same (blk_lt hL4), (World.putObj_heap_other hDl).trans hK4, hb4.grown (grown_put9 _ _ _) hb4.size (fun k e => by cases e; exact h0l)⟩, hk4.trans (KeepsWalks.putObj _ hL4 rfl)⟩
  have h9 := hrow4.kept (grown_put9 w4 l (.loop { apR9 fn sv Bs D .busy with state := if (none : Option Code).isNone then .ready else .done, pending := none })) (own_ne9 hrow4 hL4 (fun cur e => by cases e))
  have e9 : lfl (ss ++ [x]) = lfl ss ++ [.int .i64 x.v, .int .u64 (x.c : Nat), .int .u64 (x.h : Nat), .string (nstr x.d)] := by
    unfold lfl
    rw [List.map_append, gfl_app]
    simp [gfl, lcs]
  rw [e9, List.length_append]
  exact h9
end
end Go.Proofs.YtnbbnainmifenaaGreatDoor

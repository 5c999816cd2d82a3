import Derived.Test.YtnkghcndaafmoaaGreatDoorJqa
import Derived.Defers
import Derived.Laws.Pointers
import Derived.Laws.LoneSync
import Derived.RegionCalls
import Derived.Laws.NewBlocks
import Derived.Test.YtnkghcndaafmoaaGreatDoorJqv
namespace Go.Proofs.YtnkghcndaafmoaaGreatDoor
section
open Go.RowKit Go
theorem raceOff (w : World) : (callFunc 143 #[]).run Tryz.prog w = .ok (.value (.tuple #[])) w := run_call_mark0 Tryz.func143 (by kernel_rfl) (by kernel_rfl) (by kernel_rfl) .disable (by kernel_rfl) w
theorem raceOn (w : World) : (callFunc 145 #[]).run Tryz.prog w = .ok (.value (.tuple #[])) w := run_call_mark0 Tryz.func145 (by kernel_rfl) (by kernel_rfl) (by kernel_rfl) .enable (by kernel_rfl) w
theorem raceGet (a : Addr) (w : World) : (callFunc 146 #[.pointer (some a)]).run Tryz.prog w = .ok (.value (.tuple #[])) w := run_call_marked Tryz.func146 (by kernel_rfl) (by kernel_rfl) (by kernel_rfl) .acquire (by kernel_rfl) a w
theorem racePut (a : Addr) (w : World) : (callFunc 148 #[.pointer (some a)]).run Tryz.prog w = .ok (.value (.tuple #[])) w := run_call_marked Tryz.func148 (by kernel_rfl) (by kernel_rfl) (by kernel_rfl) .releaseMerge (by kernel_rfl) a w
set_option maxRecDepth 1000000 in
theorem lockFree (a : Addr) (w : World) (hc : w.cell? a = some (.int .i32 0)) (hz : w.frozen? a = false) : Calls Tryz.prog 43 #[.pointer (some a)] w fun e w' => e = .returned (.tuple #[]) ∧ w' = w.setCell a (.int .i32 1) := by
  have hd := raceOff
  have he := raceOn
  have ha := raceGet
  have hcas := run_call_cas_hit (P := Tryz.prog) Tryz.func144 (by kernel_rfl) (by kernel_rfl) (by kernel_rfl) .i32 (by kernel_rfl) (y := 1) hc hz
  have hc' : (w.setCell a (.int .i32 1)).cell? a = some (.int .i32 1) := World.cell?_setCell_same w a _ hc
  have hcv := run_convert_to_unsafe (P := Tryz.prog) (src := 204) (dst := 190) Tryz.underlying204 Tryz.underlying190 (by kernel_rfl) hc'
  go_enter Tryz.func43, Tryz.ntmps43
  go_wp2
  first | go_end0 | (simp only [Exit.inBlock, Exit.then]; refine bodyPost_ret (results_none rfl _ _ _) rfl ?_) | refine bodyPost_ret (results_none rfl _ _ _) rfl ?_
  go_wp2
  go_end0
  exact ⟨rfl, rfl⟩
set_option maxRecDepth 1000000 in
theorem unlockLate (a : Addr) (u : FrameMode) (w : World) (hc : w.cell? a = some (.int .i32 1)) (hz : w.frozen? a = false) : CallsD Tryz.prog 44 #[.pointer (some a)] u w fun e u' w' => u' = u ∧ (e = .returned (.tuple #[]) ∧ w' = w.setCell a (.int .i32 0)) := by
  have hd := raceOff
  have he := raceOn
  have hr := racePut
  have hadd := run_call_add (P := Tryz.prog) Tryz.func149 (by kernel_rfl) (by kernel_rfl) (by kernel_rfl) .i32 (by kernel_rfl) (y := -1) (s := 0) hc hz (by simp [go_sem]; rfl)
  have hcv := run_convert_to_unsafe (P := Tryz.prog) (src := 204) (dst := 190) Tryz.underlying204 Tryz.underlying190 (by kernel_rfl) hc
  go_enter_d Tryz.func44, Tryz.ntmps44
  go_wp2
  go_end0
  go_wp2
  go_end0
  exact ⟨rfl, rfl⟩
end
section
open Go.RowKit Go
theorem drf_drw {L : List Blk} (hL : ndB L) : ∀ (X : List Blk) (s t : Dr), drf L X s = some t → Drw L s → Drw L t
  | [], s, t, h, hs => by
    rw [drf] at h
    rw [← Option.some.inj h]
    exact hs
  | x :: r, s, t, h, hs => by
    cases h1 : atB s.d x.1 with
    | some b =>
      by_cases hb : b = x.2
      · rw [drf_same h1 hb] at h
        exact drf_drw hL r s t h hs
      · rw [drf_unlike h1 hb] at h
        cases h
    | none =>
      have hst := hs.step hL (x := x) h1
      cases h2 : atB L x.1 with
      | none =>
        rw [drf_new h1 h2] at h
        rw [h2] at hst
        simp only [Option.isSome_none, Bool.false_eq_true, if_false, Option.getD_none, List.length_nil] at hst
        rw [show ((x.2.length : Int) - ((0 : Nat) : Int)) = x.2.length by omega] at hst
        exact drf_drw hL r _ t h hst
      | some b =>
        rw [h2] at hst
        simp only [Option.isSome_some, if_true, Option.getD_some, Nat.add_zero] at hst
        by_cases hb : b = x.2
        · rw [drf_stands h1 h2 hb] at h
          exact drf_drw hL r s t h hs
        · cases hd : dholds x.1.h x.1.d b with
          | true =>
            rw [drf_clash h1 h2 hb hd] at h
            cases h
          | false =>
            rw [drf_over h1 h2 hb hd] at h
            exact drf_drw hL r _ t h hst
theorem sz_le {L : List Blk} (h : ∀ p ∈ L, p.2.length ≤ 67108864) : szB L ≤ L.length * 67108864 := by
  induction L with
  | nil => simp [szB]
  | cons p L ih =>
    have h1 := ih (fun q hq => h q (List.mem_cons_of_mem _ hq))
    have h2 := h p List.mem_cons_self
    simp only [szB, List.map_cons, List.sum_cons, List.length_cons] at h1 ⊢
    omega
def layr (r : Nat) (L X : List Blk) (fault : Nat) : (Nat × Nat) × List Blk :=
  match drf L X ⟨[], 0, 0⟩ with
  | none => ((0, 134), L)
  | some s => if fault = 0 then if r < L.length + s.f then ((0, 135), L) else ((s.d.length, 0), mrg L s.d) else ((0, fault), L)
structure LayP (w : World) (g B r : Nat) (R : (Nat × Nat) × List Blk) (e : Ending) (w' : World) : Prop where
  e : e = .returned (.tuple #[.int .i64 (R.1.1 : Nat), .int .i64 (R.1.2 : Nat)])
  s : Sto w' g B r R.2
  k : Kp (fun q => q = g ∨ q = B) w w'
set_option maxRecDepth 1000000 in
theorem add64_any (a : Addr) (x y : Int) (w : World) (hc : w.cell? a = some (.int .i64 x)) (hz : w.frozen? a = false) (hs : -9223372036854775808 ≤ x + y ∧ x + y ≤ 9223372036854775807) : Calls Tryz.prog 45 #[.pointer (some a), .int .i64 y] w fun e w' => e = .returned (.int .i64 (x + y)) ∧ w' = w.setCell a (.int .i64 (x + y)) := by
  have hadd := run_call_add (P := Tryz.prog) Tryz.func83 (by kernel_rfl) (by kernel_rfl) (by kernel_rfl) .i64 (by kernel_rfl) (y := y) (s := x + y) hc hz (by simp [go_sem]; rw [IntKind.wrap_i64]; omega)
  obtain ⟨g, o, m⟩ := a
  go_enter Tryz.func45, Tryz.ntmps45
  go_wp2
  go_ret
  exact ⟨rfl, rfl⟩
set_option maxRecDepth 1000000 in
theorem load64_any (a : Addr) (x : Int) (w : World) (hc : w.cell? a = some (.int .i64 x)) : Calls Tryz.prog 53 #[.pointer (some a)] w fun e w' => e = .returned (.int .i64 x) ∧ w' = w := by
  have hl := run_call_load (P := Tryz.prog) Tryz.func89 (by kernel_rfl) (by kernel_rfl) (by kernel_rfl) .i64 (by kernel_rfl) (w := w) (a := a) (x := x) hc
  go_enter Tryz.func53, Tryz.ntmps53
  go_wp2
  go_ret
  exact ⟨rfl, rfl⟩
end
section
open Go.RowKit Go
theorem stc_set1 (r : Nat) (k k' : Int) (B : Nat) (z : Int) : (stc r k B z).setIfInBounds 1 (.int .i32 k') = stc r k' B z := rfl
theorem stc_set4 (r : Nat) (k : Int) (B : Nat) (z z' : Int) : (stc r k B z).setIfInBounds 4 (.int .i64 z') = stc r k B z' := rfl
structure Stl (w : World) (g B r : Nat) (z : Int) (L : List Blk) : Prop where
  c : w.heap[g]? = some (.cells (stc r 1 B z) 118 (0, 0))
  m : Mlb w B L
theorem Sto.lock {w : World} {g B r : Nat} {L : List Blk} (h : Sto w g B r L) : Stl (w.setCell ⟨g, 1, none⟩ (.int .i32 1)) g B r (szB L) L ∧ Kp (fun q => q = g) w (w.setCell ⟨g, 1, none⟩ (.int .i32 1)) := by
  have hk : Kp (fun q => q = g) w (w.setCell ⟨g, 1, none⟩ (.int .i32 1)) := (Kp.refl _ w).setCell _ _ (fun _ => rfl)
  refine ⟨⟨?_, h.m.kp hk (fun e => (h.m.ne h.c) e.symm)⟩, hk⟩
  have := blk_set 1 (.int .i32 1) h.c
  rw [stc_set1] at this
  exact this
theorem Stl.unlock {w : World} {g B r : Nat} {z : Int} {L : List Blk} (h : Stl w g B r z L) (hz : z = szB L) (hr : 1 ≤ r ∧ r ≤ 65536) (hn : L.length ≤ r) : Sto (w.setCell ⟨g, 1, none⟩ (.int .i32 0)) g B r L ∧ Kp (fun q => q = g) w (w.setCell ⟨g, 1, none⟩ (.int .i32 0)) := by
  have hk : Kp (fun q => q = g) w (w.setCell ⟨g, 1, none⟩ (.int .i32 0)) := (Kp.refl _ w).setCell _ _ (fun _ => rfl)
  refine ⟨⟨?_, h.m.kp hk (fun e => (h.m.ne h.c) e.symm), hr, hn⟩, hk⟩
  have := blk_set 1 (.int .i32 0) h.c
  rw [stc_set1, hz] at this
  exact this
theorem Stl.next {w wx : World} {g B r : Nat} {z : Int} {L : List Blk} (h : Stl w g B r z L) (hb : Below w.heap.size w wx) : Stl wx g B r z L := ⟨(hb.block _ (blk_lt h.c)).trans h.c, h.m.next hb⟩
theorem drf_len (L : List Blk) : ∀ (X : List Blk) (s t : Dr), drf L X s = some t → t.d.length ≤ s.d.length + X.length
  | [], s, t, h => by
    rw [drf] at h
    rw [← Option.some.inj h]
    exact Nat.le_refl _
  | x :: r, s, t, h => by
    have key : ∀ u : Dr, u.d.length ≤ s.d.length + 1 → drf L r u = some t → t.d.length ≤ s.d.length + (x :: r).length := fun u hu hd => by
      have := drf_len L r u t hd
      simp only [List.length_cons]
      omega
    cases h1 : atB s.d x.1 with
    | some b =>
      by_cases hb : b = x.2
      · rw [drf_same h1 hb] at h
        exact key _ (Nat.le_succ _) h
      · rw [drf_unlike h1 hb] at h
        cases h
    | none =>
      cases h2 : atB L x.1 with
      | none =>
        rw [drf_new h1 h2] at h
        exact key _ (Nat.le_refl _) h
      | some b =>
        by_cases hb : b = x.2
        · rw [drf_stands h1 h2 hb] at h
          exact key _ (Nat.le_succ _) h
        · cases hd : dholds x.1.h x.1.d b with
          | true =>
            rw [drf_clash h1 h2 hb hd] at h
            cases h
          | false =>
            rw [drf_over h1 h2 hb hd] at h
            exact key _ (Nat.le_refl _) h
set_option maxRecDepth 1000000 in
set_option maxHeartbeats 2000000 in
theorem lay13_any (w : World) (g B r : Nat) (L : List Blk) (hS : Sto w g B r L) (v : Value) (X : List Blk) (hX : ∀ wy, Kp (fun q => q = g) w wy → KSl wy v X) (hX6 : ∀ x ∈ X, x.2.length ≤ 67108864) (hn : X.length ≤ 1048576) (hcb : ∀ wy, Kp (fun q => q = g) w wy → Cb wy) (fault : Nat) :
    Calls Tryz.prog 36 #[.pointer (some ⟨g, 0, none⟩), v, .int .i64 (fault : Nat), .func (.func 37) #[] #[]] w (LayP w g B r (layr r L X fault)) := by
  have hlk := hS.lock
  have HST := hide hlk.1
  have HK1 := hide hlk.2
  have HS := hide hS
  have c1 : w.cell? ⟨g, 1, none⟩ = some (.int .i32 0) := blk_cell (j := 1) hS.c rfl
  have f1 := blk_frozen 1 hS.c
  have HD := hide (drafted13_any _ g B r 1 (szB L) L hlk.1.c hlk.1.m v X (hX _ hlk.2) hX6 hn (hcb _ hlk.2))
  clear hlk hS hX hX6 hcb
  go_enter_defers Tryz.func36, Tryz.ntmps36
  go_upto_region 3 with (go_at_call 43; refine (lockFree ⟨g, 1, none⟩ _ c1 f1).mono ?_; rintro e w' ⟨rfl, rfl⟩)
  generalize w.setCell ⟨g, 1, none⟩ (.int .i32 1) = w1 at *
  clear c1 f1
  have HDW := hide (drf_drw HS.out.m.nd X ⟨[], 0, 0⟩)
  cases hd : drf L X ⟨[], 0, 0⟩ with
  | none =>
    have HL : Hid (layr r L X fault = ((0, 134), L)) := by show _ = _; unfold layr; rw [hd]
    unfold DrP at HD
    rw [hd] at HD
    clear hd
    go_wp2_with (go_at_call 75; refine HD.out.mono ?_; rintro e w2 ⟨hb2, rfl⟩)
    have hb3 := hb2.trans ((below_alloc4 w2 (.cells #[.map none, .int .i64 0, .int .i64 0] 159)).mono hb2.size)
    have HE := hide (HST.out.next hb3)
    have HNE := hide HS.out.n
    have HKE : Hid (Kp (fun q => q = g ∨ q = B) w (w2.alloc (.cells #[.map none, .int .i64 0, .int .i64 0] 159))) := (HK1.out.mono (fun _ _ e => .inl e)).trans (Kp.of_below (S := fun _ => False) hb3) (fun _ _ h => h.elim)
    refine leaves_cons (f := 44) (args := #[.pointer (some ⟨g, 1, none⟩)]) (by simp) (by simp [go_sem]) ?_
    refine (unlockLate ⟨g, 1, none⟩ .returning _ (blk_cell (j := 1) HE.out.c rfl) (blk_frozen 1 HE.out.c)).mono ?_
    rintro e u' w'' ⟨rfl, rfl, rfl⟩
    have hu := HE.out.unlock rfl HS.out.h HNE.out
    exact ⟨_, results_tmp2 rfl _ _ _, by rw [HL.out]; rfl, by rw [HL.out]; exact hu.1, HKE.out.trans hu.2 (fun _ _ e => .inl e)⟩
  | some s =>
    unfold DrP at HD
    rw [hd] at HD
    have HW := hide (HDW.out s hd (Drw.start L))
    have HDL : Hid (s.d.length ≤ 1048576) := by have h := drf_len L X _ s hd; simp only [List.length_nil] at h; show _ ≤ _; omega
    go_upto_region 4 with (go_at_call 75; refine HD.out.mono ?_; rintro e w2 ⟨hb2, Bd, hBd, rfl, hMd⟩)
    have hb3 := hb2.trans ((below_alloc4 w2 (.cells #[.map (some Bd), .int .i64 (s.f : Nat), .int .i64 s.g] 159)).mono hb2.size)
    have HE := hide (HST.out.next hb3)
    have HT : Hid ((w2.alloc (.cells #[.map (some Bd), .int .i64 (s.f : Nat), .int .i64 s.g] 159)).heap[w2.heap.size]? = some (.cells #[.map (some Bd), .int .i64 (s.f : Nat), .int .i64 s.g] 159 (0, 0))) := heap_alloc_new w2 _
    have HMd := hide (hMd.next (below_alloc4 w2 (.cells #[.map (some Bd), .int .i64 (s.f : Nat), .int .i64 s.g] 159)))
    have HKE : Hid (Kp (fun q => q = g ∨ q = B) w (w2.alloc (.cells #[.map (some Bd), .int .i64 (s.f : Nat), .int .i64 s.g] 159))) := (HK1.out.mono (fun _ _ e => .inl e)).trans (Kp.of_below (S := fun _ => False) hb3) (fun _ _ h => h.elim)
    generalize w2.alloc (.cells #[.map (some Bd), .int .i64 (s.f : Nat), .int .i64 s.g] 159) = w3 at *
    have HBd : Hid (w1.heap.size ≤ Bd) := hBd
    have HLA : Hid (layr r L X fault = if fault = 0 then if r < L.length + s.f then ((0, 135), L) else ((s.d.length, 0), mrg L s.d) else ((0, fault), L)) := by show _ = _; unfold layr; rw [hd]
    clear hd HD HDW hb2 hBd hMd hb3
    by_cases hf0 : fault = 0
    · have g2 : (((fault : Nat) : Int) != 0) = false := by rw [hf0]; rfl
      have HLB : Hid (layr r L X fault = if r < L.length + s.f then ((0, 135), L) else ((s.d.length, 0), mrg L s.d)) := by show _ = _; rw [HLA.out, if_pos hf0]
      clear hf0 HLA
      go_upto_region 8 with fail
      have hsf : s.f ≤ 1048576 := by have h1 := HW.out.len; have h2 := len_mrg L s.d; have h3 := HDL.out; omega
      have hlr := HS.out.n
      have hr6 := HS.out.h.2
      have s0 : ∀ t : Ext w3, t.w'.cell? ⟨g, 0, none⟩ = some (.int .i64 (r : Nat)) := fun t => Ext.cell (blk_cell (j := 0) HE.out.c rfl) t
      have s3 : ∀ t : Ext w3, t.w'.cell? ⟨g, 3, none⟩ = some (.map (some B)) := fun t => Ext.cell (blk_cell (j := 3) HE.out.c rfl) t
      have t1 : ∀ t : Ext w3, t.w'.cell? ⟨w2.heap.size, 1, none⟩ = some (.int .i64 (s.f : Nat)) := fun t => Ext.cell (blk_cell (j := 1) HT.out rfl) t
      have hln : ∀ (t : Ext w3) ty, (Builtin.len_ #[105] ty #[.map (some B)]).run Tryz.prog t.w' = .ok (.int .i64 (L.length : Nat)) t.w' := fun t ty => (HE.out.m.next t.h).len ty
      have hwr : IntKind.i64.wrap ((L.length : Int) + (s.f : Int)) = (L.length : Int) + (s.f : Int) := by rw [IntKind.wrap_i64]; omega
      refine region_ext (by kernel_rfl) (by kernel_rfl) ?_
      repeat (
        refine wpQuiet_step (fun K hK => ?_)
        go_simp
        refine hK _ ?_
        clear hK K)
      refine wpQuiet_nil ?_
      rintro _ ⟨t4, rfl⟩
      have HE4 : Hid (Stl t4.w' g B r (szB L) L) := HE.out.next t4.h
      have HT4 : Hid (t4.w'.heap[w2.heap.size]? = some (.cells #[.map (some Bd), .int .i64 (s.f : Nat), .int .i64 s.g] 159 (0, 0))) := (t4.h.block _ (blk_lt HT.out)).trans HT.out
      have HM4 : Hid (Mlb t4.w' Bd s.d) := HMd.out.next t4.h
      have HK4 : Hid (Kp (fun q => q = g ∨ q = B) w t4.w') := HKE.out.trans (Kp.of_below (S := fun _ => False) t4.h) (fun _ _ h => h.elim)
      clear HE HT HMd HKE s0 s3 t1 hln
      generalize t4.w' = w4 at *
      by_cases hfull : r < L.length + s.f
      · have HL : Hid (layr r L X fault = ((0, 135), L)) := by show _ = _; rw [HLB.out, if_pos hfull]
        have g5 : ((r : Nat) : Int) < (L.length : Int) + (s.f : Int) := by omega
        have HE := HE4
        have HKE := HK4
        have HNE := hide HS.out.n
        clear hfull HLB
        go_wp2_with fail
        refine leaves_cons (f := 44) (args := #[.pointer (some ⟨g, 1, none⟩)]) (by simp) (by simp [go_sem]) ?_
        refine (unlockLate ⟨g, 1, none⟩ .returning _ (blk_cell (j := 1) HE.out.c rfl) (blk_frozen 1 HE.out.c)).mono ?_
        rintro e u' w'' ⟨rfl, rfl, rfl⟩
        have hu := HE.out.unlock rfl HS.out.h HNE.out
        exact ⟨_, results_tmp2 rfl _ _ _, by rw [HL.out]; rfl, by rw [HL.out]; exact hu.1, HKE.out.trans hu.2 (fun _ _ e => .inl e)⟩
      · have HL : Hid (layr r L X fault = ((s.d.length, 0), mrg L s.d)) := by show _ = _; rw [HLB.out, if_neg hfull]
        have g5 : ¬ ((r : Nat) : Int) < (L.length : Int) + (s.f : Int) := by omega
        have HNE : Hid ((mrg L s.d).length ≤ r) := by have := HW.out.len; show _ ≤ _; omega
        clear hfull HLB
        go_upto_region 10 with fail
        have HBB : Hid (B ≠ Bd) := by
          have h1 := HS.out.m.lt
          have h2 := HK1.out.size
          have h3 := HBd.out
          show _ ≠ _
          omega
        have s3 : ∀ t : Ext w4, t.w'.cell? ⟨g, 3, none⟩ = some (.map (some B)) := fun t => Ext.cell (blk_cell (j := 3) HE4.out.c rfl) t
        have t0 : ∀ t : Ext w4, t.w'.cell? ⟨w2.heap.size, 0, none⟩ = some (.map (some Bd)) := fun t => Ext.cell (blk_cell (j := 0) HT4.out rfl) t
        refine region_ext_tail 6 (by kernel_rfl) (by kernel_rfl) ?_
        simp only [List.take_succ_cons, List.take_zero, List.drop_succ_cons, List.drop_zero]
        repeat (
          refine wpQuiet_step (fun K hK => ?_)
          go_simp
          refine hK _ ?_
          clear hK K)
        refine wpQuiet_nil ?_
        rintro _ ⟨t5, rfl⟩
        have HC := hide (copy13_any t5.w' B Bd L s.d (HE4.out.m.next t5.h) (HM4.out.next t5.h) HBB.out (by have := HDL.out; omega))
        have HT5 : Hid (t5.w'.heap[w2.heap.size]? = some (.cells #[.map (some Bd), .int .i64 (s.f : Nat), .int .i64 s.g] 159 (0, 0))) := (t5.h.block _ (blk_lt HT4.out)).trans HT4.out
        have HG5 : Hid (t5.w'.heap[g]? = some (.cells (stc r 1 B (szB L)) 118 (0, 0))) := (t5.h.block _ (blk_lt HE4.out.c)).trans HE4.out.c
        have HK5 : Hid (Kp (fun q => q = g ∨ q = B) w t5.w') := HK4.out.trans (Kp.of_below (S := fun _ => False) t5.h) (fun _ _ h => h.elim)
        have HM5 := hide (HM4.out.next t5.h)
        have HB5 := hide (HE4.out.m.next t5.h)
        generalize t5.w' = w5 at *
        clear s3 t0 HE4 HT4 HM4 HK4
        go_upto_region 11 with (go_at_call 76; refine HC.out.mono ?_; rintro e w6 ⟨rfl, hP6⟩)
        have HM6 := hide hP6.out.1
        have hk6 := hP6.out.2
        have HT6 : Hid (w6.heap[w2.heap.size]? = some (.cells #[.map (some Bd), .int .i64 (s.f : Nat), .int .i64 s.g] 159 (0, 0))) := (hk6.block _ (blk_lt HT5.out) (HB5.out.ne HT5.out)).trans HT5.out
        have HG6 : Hid (w6.heap[g]? = some (.cells (stc r 1 B (szB L)) 118 (0, 0))) := (hk6.block _ (blk_lt HG5.out) (HB5.out.ne HG5.out)).trans HG5.out
        have HK6 : Hid (Kp (fun q => q = g ∨ q = B) w w6) := HK5.out.trans hk6 (fun _ _ e => .inr e)
        have HD6 : Hid (Mlb w6 Bd s.d) := HM5.out.kp hk6 (fun e => HBB.out e.symm)
        clear hP6 hk6 HC HT5 HG5 HK5 HM5 HB5
        have t2 : ∀ t : Ext w6, t.w'.cell? ⟨w2.heap.size, 2, none⟩ = some (.int .i64 s.g) := fun t => Ext.cell (blk_cell (j := 2) HT6.out rfl) t
        refine region_ext_tail 5 (by kernel_rfl) (by kernel_rfl) ?_
        simp only [List.take_succ_cons, List.take_zero, List.drop_succ_cons, List.drop_zero]
        repeat (
          refine wpQuiet_step (fun K hK => ?_)
          go_simp
          refine hK _ ?_
          clear hK K)
        refine wpQuiet_nil ?_
        rintro _ ⟨t7, rfl⟩
        have HT7 : Hid (t7.w'.heap[w2.heap.size]? = some (.cells #[.map (some Bd), .int .i64 (s.f : Nat), .int .i64 s.g] 159 (0, 0))) := (t7.h.block _ (blk_lt HT6.out)).trans HT6.out
        have HG7 : Hid (t7.w'.heap[g]? = some (.cells (stc r 1 B (szB L)) 118 (0, 0))) := (t7.h.block _ (blk_lt HG6.out)).trans HG6.out
        have HK7 : Hid (Kp (fun q => q = g ∨ q = B) w t7.w') := HK6.out.trans (Kp.of_below (S := fun _ => False) t7.h) (fun _ _ h => h.elim)
        have HM7 := hide (HM6.out.next t7.h)
        have HD7 := hide (HD6.out.next t7.h)
        generalize t7.w' = w7 at *
        clear t2 HM6 HT6 HG6 HK6 HD6
        have HSZ : Hid (((szB L : Nat) : Int) + s.g = szB (mrg L s.d)) := HW.out.sz.symm
        have HSB : Hid (-9223372036854775808 ≤ ((szB L : Nat) : Int) + s.g ∧ ((szB L : Nat) : Int) + s.g ≤ 9223372036854775807) := by
          have h1 := sz_le (fun p hp => (HM7.out.ok p hp).n)
          have h2 := HSZ.out
          have h3 := HNE.out
          show _ ∧ _
          rw [h2]
          omega
        have HAD := hide (add64_any ⟨g, 4, none⟩ (szB L) s.g w7 (blk_cell (j := 4) HG7.out rfl) (blk_frozen 4 HG7.out) HSB.out)
        go_upto_region 12 with (go_at_call 45; refine HAD.out.mono ?_; rintro e w8 ⟨rfl, rfl⟩)
        have hk8 : Kp (fun q => q = g) w7 (w7.setCell ⟨g, 4, none⟩ (.int .i64 ((szB L : Nat) + s.g))) := (Kp.refl _ w7).setCell _ _ (fun _ => rfl)
        have HE : Hid (Stl (w7.setCell ⟨g, 4, none⟩ (.int .i64 ((szB L : Nat) + s.g))) g B r ((szB L : Nat) + s.g) (mrg L s.d)) := ⟨by have := blk_set 4 (.int .i64 ((szB L : Nat) + s.g)) HG7.out; rw [stc_set4] at this; exact this, HM7.out.kp hk8 (fun e => HM7.out.ne HG7.out e.symm)⟩
        have HKE : Hid (Kp (fun q => q = g ∨ q = B) w (w7.setCell ⟨g, 4, none⟩ (.int .i64 ((szB L : Nat) + s.g)))) := HK7.out.trans hk8 (fun _ _ e => .inl e)
        have HD8 : Hid (Mlb (w7.setCell ⟨g, 4, none⟩ (.int .i64 ((szB L : Nat) + s.g))) Bd s.d) := HD7.out.kp hk8 (fun e => HD7.out.ne HG7.out e.symm)
        have t9 : (w7.setCell ⟨g, 4, none⟩ (.int .i64 ((szB L : Nat) + s.g))).cell? ⟨w2.heap.size, 0, none⟩ = some (.map (some Bd)) := blk_cell (j := 0) ((hk8.block _ (blk_lt HT7.out) (ne_of_type HT7.out HG7.out (by decide))).trans HT7.out) rfl
        generalize w7.setCell ⟨g, 4, none⟩ (.int .i64 ((szB L : Nat) + s.g)) = w8 at *
        clear hk8 HG7 HT7 HK7 HM7 HD7 HAD
        go_wp2_with (refine wpList_lenB (B := Bd) (L := s.d) rfl rfl rfl HD8.out ?_)
        refine leaves_cons (f := 44) (args := #[.pointer (some ⟨g, 1, none⟩)]) (by simp) (by simp [go_sem]) ?_
        refine (unlockLate ⟨g, 1, none⟩ .returning _ (blk_cell (j := 1) HE.out.c rfl) (blk_frozen 1 HE.out.c)).mono ?_
        rintro e u' w'' ⟨rfl, rfl, rfl⟩
        have hu := HE.out.unlock HSZ.out HS.out.h HNE.out
        have HP : LayP w g B r (layr r L X fault) (.returned (.tuple #[.int .i64 (s.d.length : Nat), .int .i64 0])) (w8.setCell ⟨g, 1, none⟩ (.int .i32 0)) := by
          rw [HL.out]
          exact ⟨rfl, hu.1, HKE.out.trans hu.2 (fun _ _ e => .inl e)⟩
        refine ⟨.tuple #[.int .i64 (s.d.length : Nat), .int .i64 0], (results_tmp2 (t := 8) (u := 9) rfl _ _ _).trans ?_, HP⟩
        rfl
    · have HL : Hid (layr r L X fault = ((0, fault), L)) := by show _ = _; rw [HLA.out, if_neg hf0]
      have HNE := hide HS.out.n
      have g2 : (((fault : Nat) : Int) != 0) = true := by rw [bne_iff_ne]; omega
      clear hf0 HLA
      go_wp2_with fail
      refine leaves_cons (f := 44) (args := #[.pointer (some ⟨g, 1, none⟩)]) (by simp) (by simp [go_sem]) ?_
      refine (unlockLate ⟨g, 1, none⟩ .returning _ (blk_cell (j := 1) HE.out.c rfl) (blk_frozen 1 HE.out.c)).mono ?_
      rintro e u' w'' ⟨rfl, rfl, rfl⟩
      have hu := HE.out.unlock rfl HS.out.h HNE.out
      exact ⟨_, results_tmp2 rfl _ _ _, by rw [HL.out]; rfl, by rw [HL.out]; exact hu.1, HKE.out.trans hu.2 (fun _ _ e => .inl e)⟩
end
end Go.Proofs.YtnkghcndaafmoaaGreatDoor

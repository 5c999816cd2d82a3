import Derived.Test.YtadilnmkjcmnnaaDoorJj
namespace Go.Proofs.YtadilnmkjcmnnaaDoor
section
open Go.RowKit Go
theorem infoF8 : (Tryd.prog.info? 29).map (·.size) = some 2 := by kernel_rfl
theorem infoM8 : (Tryd.prog.info? 47).map (·.size) = some 4 := by kernel_rfl
/-- A fault's cells. -/
def fcs (e p : Nat) : Array Value := #[.int .i64 (e : Nat), .int .i64 (p : Nat)]
theorem fcs_all (e p : Nat) : (fcs e p).all (·.oneCell') = true := by
  rw [Array.all_eq_true']
  intro u hu
  simp only [fcs, List.mem_toArray, List.mem_cons, List.not_mem_nil, or_false] at hu
  rcases hu with rfl | rfl <;> rfl
theorem exec_fltAt {o : Oper} {a : Act} {p : Operand} {g : Nat} {c : Array Value} {w : World} (ho : o.op = .load 29 p) (hp : a.eval p = .pointer (some ⟨g, 0, none⟩)) (hn : c.size = 2) (hg : w.heap[g]? = some (.cells c 29 (0, 0))) : (execOp a.eval o).run Tryd.prog w = .ok (.value (.agg c)) w := by
  have h1 := run_loadVar_row (P := Tryd.prog) w g 29 29 c (0, 0) _ hg Tryd.underlying29 rfl (by rw [hn]; exact infoF8)
  unfold execOp
  simp only [ho, Sem.run_bind, hp, Instr.loadAt, Instr.sureAddr, Sem.run_pure, Result.andThen, h1]
theorem results_ctc {fn : Func} {p u q : Tmp} {ty ty' : TypeId} (h : fn.results = #[.cell p ty, .tmp u, .cell q ty']) (tmps : Array Value) (P : Program) (w : World) :
    (results fn tmps).run P w = ((asAddr (tmps.getD p undef)).run P w).andThen fun a w₁ => ((loadVar ty a).run P w₁).andThen fun v w₂ => ((asAddr (tmps.getD q undef)).run P w₂).andThen fun b w₃ => ((loadVar ty' b).run P w₃).andThen fun x w₄ => .ok (.tuple #[v, tmps.getD u undef, x]) w₄ := by
  simp only [results, h]
  simp [Sem.run_bind, Result.andThen]
theorem results_cc {fn : Func} {p q : Tmp} {ty ty' : TypeId} (h : fn.results = #[.cell p ty, .cell q ty']) (tmps : Array Value) (P : Program) (w : World) :
    (results fn tmps).run P w = ((asAddr (tmps.getD p undef)).run P w).andThen fun a w₁ => ((loadVar ty a).run P w₁).andThen fun v w₂ => ((asAddr (tmps.getD q undef)).run P w₂).andThen fun b w₃ => ((loadVar ty' b).run P w₃).andThen fun x w₄ => .ok (.tuple #[v, x]) w₄ := by
  simp only [results, h]
  simp [Sem.run_bind, Result.andThen]
theorem end_first {wx : World} {R F : Nat} {c f : Array Value} {n : Int} {tmps : Array Value} (hn : c.size = 13) (hr : wx.heap[R]? = some (.cells c 40 (0, 0))) (hf : f.size = 2) (hfr : wx.heap[F]? = some (.cells f 29 (0, 0))) (hp : tmps.getD 4 undef = .pointer (some ⟨R, 0, none⟩)) (hm : tmps.getD 5 undef = .int .i64 n) (hq : tmps.getD 6 undef = .pointer (some ⟨F, 0, none⟩)) : (results Tryd.f10 tmps).run Tryd.prog wx = .ok (.tuple #[.agg c, .int .i64 n, .agg f]) wx := by
  have h1 := run_loadVar_row (P := Tryd.prog) wx R 40 40 c (0, 0) _ hr Tryd.underlying40 rfl (by rw [hn]; exact infoV)
  have h2 := run_loadVar_row (P := Tryd.prog) wx F 29 29 f (0, 0) _ hfr Tryd.underlying29 rfl (by rw [hf]; exact infoF8)
  refine (results_ctc rfl _ _ _).trans ?_
  rw [hp, hm, hq]
  simp [asAddr, h1, h2, Result.andThen]
theorem end_decode {wx : World} {R F : Nat} {c f : Array Value} {tmps : Array Value} (hn : c.size = 13) (hr : wx.heap[R]? = some (.cells c 40 (0, 0))) (hf : f.size = 2) (hfr : wx.heap[F]? = some (.cells f 29 (0, 0))) (hp : tmps.getD 4 undef = .pointer (some ⟨R, 0, none⟩)) (hq : tmps.getD 5 undef = .pointer (some ⟨F, 0, none⟩)) : (results Tryd.f9 tmps).run Tryd.prog wx = .ok (.tuple #[.agg c, .agg f]) wx := by
  have h1 := run_loadVar_row (P := Tryd.prog) wx R 40 40 c (0, 0) _ hr Tryd.underlying40 rfl (by rw [hn]; exact infoV)
  have h2 := run_loadVar_row (P := Tryd.prog) wx F 29 29 f (0, 0) _ hfr Tryd.underlying29 rfl (by rw [hf]; exact infoF8)
  refine (results_cc rfl _ _ _).trans ?_
  rw [hp, hq]
  simp [asAddr, h1, h2, Result.andThen]
theorem end_check {wx : World} {F : Nat} {f : Array Value} {tmps : Array Value} (hf : f.size = 2) (hfr : wx.heap[F]? = some (.cells f 29 (0, 0))) (hq : tmps.getD 4 undef = .pointer (some ⟨F, 0, none⟩)) : (results Tryd.f6 tmps).run Tryd.prog wx = .ok (.agg f) wx := by
  have h2 := run_loadVar_row (P := Tryd.prog) wx F 29 29 f (0, 0) _ hfr Tryd.underlying29 rfl (by rw [hf]; exact infoF8)
  refine (results_one (p := 4) (ty := 29) rfl _ _ _).trans ?_
  rw [hq]
  simp [asAddr, h2, Result.andThen]
/-- A fault has no tree. -/
theorem mrun_bad {b : List Nat} {d : Nat} : ∀ {n : Nat} {s : Mst} {r : Res}, mrun b d n s = some r → r.e ≠ 0 → r.v = tz8 0
  | 0, _, _, h, _ => by cases h
  | n + 1, s, r, h, he => by
    cases hs : mstep b d s with
    | inl s' =>
      rw [mrun_next hs] at h
      exact mrun_bad h he
    | inr r' =>
      rw [mrun_end hs] at h
      injection h with h
      subst h
      obtain ⟨lab, p, st⟩ := s
      revert hs
      cases lab with
      | plain =>
        unfold mstep
        dsimp only
        repeat' split
        all_goals (intro h; first | (cases h; done) | (injection h with h; rw [← h]))
      | name =>
        unfold mstep
        dsimp only
        repeat' split
        all_goals (intro h; first | (cases h; done) | (injection h with h; rw [← h]))
      | done v =>
        cases st with
        | nil =>
          intro h
          injection h with h
          rw [← h] at he
          exact absurd rfl he
        | cons x q => intro h; cases h
      | inside =>
        cases st with
        | nil =>
          intro h
          injection h with h
          rw [← h]
        | cons x q =>
          unfold mstep
          dsimp only
          repeat' split
          all_goals (intro h; first | (cases h; done) | (injection h with h; rw [← h]))
def zf : Array Value := #[.int .i64 0, .int .i64 0]
def zm8 : Array Value := #[.slice none 0 0, .int .i64 0, .int .i64 0, .slice none 0 0]
theorem mac_all (aB : Option Addr) (n cB : Nat) (d : Int) : (#[.slice aB n cB, .int .i64 0, .int .i64 d, .slice none 0 0] : Array Value).all (·.oneCell') = true := by
  rw [Array.all_eq_true']
  intro u hu
  simp only [List.mem_toArray, List.mem_cons, List.not_mem_nil, or_false] at hu
  rcases hu with rfl | rfl | rfl | rfl <;> rfl
theorem row_mk8 (w : World) (z c : Array Value) (t : TypeId) : Below w.heap.size w ((w.alloc (.cells z t)).setRow w.heap.size c) ∧ ((w.alloc (.cells z t)).setRow w.heap.size c).heap[w.heap.size]? = some (.cells c t (0, 0)) :=
  ⟨(below_alloc4 w _).trans ((row_kp _ _ _).below (below_alloc4 w _).size (fun q e => by omega)), row_same (heap_alloc_new w _)⟩
/-- What First tells. -/
def FirstP (w : World) (r : Res) (e : Ending) (w' : World) : Prop := Below w.heap.size w w' ∧ ∃ c, e = .returned (.tuple #[.agg c, .int .i64 ((if r.e = 0 then r.p else 0 : Nat) : Int), .agg (fcs r.e (if r.e = 0 then 0 else r.p))]) ∧ Tis w' (fun q => q < w.heap.size) r.v c
theorem FirstP.mk {w w' : World} {r : Res} {c f : Array Value} {n : Nat} (hn : n = if r.e = 0 then r.p else 0) (hf : f = fcs r.e (if r.e = 0 then 0 else r.p)) (hb : Below w.heap.size w w') (ht : Tis w' (fun q => q < w.heap.size) r.v c) : FirstP w r (.returned (.tuple #[.agg c, .int .i64 (n : Nat), .agg f])) w' := by
  subst hn
  subst hf
  exact ⟨hb, c, rfl, ht⟩
/-- Where First stands: its answers' blocks. -/
structure Fst8 (w wx : World) (c f : Array Value) : Prop where
  b : Below w.heap.size w wx
  r : wx.heap[w.heap.size]? = some (.cells c 40 (0, 0))
  f : wx.heap[w.heap.size + 1]? = some (.cells f 29 (0, 0))
theorem Fst8.next {w wx wy : World} {c f : Array Value} (h : Fst8 w wx c f) (hb : Below (w.heap.size + 2) wx wy) : Fst8 w wy c f :=
  ⟨h.b.trans (hb.mono (by omega)), (hb.block _ (by omega)).trans h.r, (hb.block _ (by omega)).trans h.f⟩
theorem Fst8.setR {w wx : World} {c f : Array Value} (h : Fst8 w wx c f) (c' : Array Value) : Fst8 w (wx.setRow w.heap.size c') c' f := by
  have hk := row_kp wx w.heap.size c'
  exact ⟨h.b.trans (hk.below h.b.size (fun q e => by omega)), row_same h.r, (hk.block _ (blk_lt h.f) (by omega)).trans h.f⟩
theorem Fst8.setF {w wx : World} {c f : Array Value} (h : Fst8 w wx c f) (f' : Array Value) : Fst8 w (wx.setRow (w.heap.size + 1) f') c f' := by
  have hk := row_kp wx (w.heap.size + 1) f'
  exact ⟨h.b.trans (hk.below h.b.size (fun q e => by omega)), (hk.block _ (blk_lt h.r) (by omega)).trans h.r, row_same h.f⟩
set_option maxRecDepth 1000000 in
set_option maxHeartbeats 4000000 in
theorem first8_any (W : World) (hT : Tabs W) (w : World) (hW : Below W.heap.size W w) (vB : Value) (b : List Nat) (hB : BSl w vB b) (hBq : ∀ q, vB.ownBlock = some q → q < w.heap.size) (hbl : b.length ≤ 8388608) (d : Nat) (hd : d ≤ 1024) (N : Nat) (R : Res) (hR : mrun b d N m0 = some R) :
    Calls Tryd.prog 10 #[vB, .int .i64 (d : Nat)] w (FirstP w R) := by
  have HT := hide hT
  have HWW := hide hW
  have HB := hide hB
  have HBq := hide hBq
  have HBL := hide hbl
  have HRR := hide hR
  obtain ⟨⟨aB, cB, hvB, _⟩, _⟩ := hB
  subst hvB
  have hb0 := below_alloc4 w (.cells zv 40)
  have hb1 := below_alloc4 (w.alloc (.cells zv 40)) (.cells zf 29)
  have hs1 : (w.alloc (.cells zv 40)).heap.size = w.heap.size + 1 := by simp
  have hs2 : ((w.alloc (.cells zv 40)).alloc (.cells zf 29)).heap.size = w.heap.size + 2 := by simp
  have HF2 : Hid (Fst8 w ((w.alloc (.cells zv 40)).alloc (.cells zf 29)) zv zf) := by
    refine ⟨hb0.trans (hb1.mono hb0.size), ?_, ?_⟩
    · have h := heap_alloc_new w (.cells zv 40)
      exact (hb1.block _ (blk_lt h)).trans h
    · have h := heap_alloc_new (w.alloc (.cells zv 40)) (.cells zf 29)
      rw [hs1] at h
      exact h
  have HS2 := hide hs2
  have g1 : ¬ (d : Int) < 0 := by omega
  have g2 : ¬ (1024 : Int) < (d : Int) := by omega
  have HD := hide hd
  clear hT hW hBq hbl hR hb0 hb1 hs1 hs2 hd
  unfold zv zf at HF2 HS2
  go_enter Tryd.func10, Tryd.ntmps10
  go_upto_region 3 with fail
  clear g1 g2
  generalize (w.alloc (.cells #[.int .i64 0, .bool false, .bool false, .int .u64 0, .int .u64 0, .string ⟨#[]⟩, .slice none 0 0, .int .i64 0, .int .u64 0, .int .u64 0, .string ⟨#[]⟩, .slice none 0 0, .slice none 0 0] 40)).alloc (.cells #[.int .i64 0, .int .i64 0] 29) = w2 at *
  have HF2 : Hid (Fst8 w w2 zv zf) := HF2
  have hmk := row_mk8 w2 zm8 #[.slice aB b.length cB, .int .i64 0, .int .i64 (d : Nat), .slice none 0 0] 47
  have HN3 := hide (heap_alloc_new w2 (.cells zm8 47))
  have HI3 : Hid ((Tryd.prog.info? 47).map (·.size) = some (#[.slice aB b.length cB, .int .i64 0, .int .i64 (d : Nat), .slice none 0 0] : Array Value).size) := infoM8
  have HA3 := hide (mac_all aB b.length cB (d : Nat))
  have HB3 := hide hmk.1
  have HG3 := hide hmk.2
  clear hmk
  go_wp2_with (refine wpList_storeRow rfl rfl w2.heap.size zm8 #[.slice aB b.length cB, .int .i64 0, .int .i64 (d : Nat), .slice none 0 0] 47 rfl rfl HN3.out HI3.out rfl HA3.out ?_)
  unfold zm8 at HB3 HG3
  generalize (w2.alloc (.cells #[.slice none 0 0, .int .i64 0, .int .i64 0, .slice none 0 0] 47)).setRow w2.heap.size #[.slice aB b.length cB, .int .i64 0, .int .i64 (d : Nat), .slice none 0 0] = w3 at *
  have hbw3 : Below w.heap.size w w3 := HF2.out.b.trans (HB3.out.mono HF2.out.b.size)
  have HM3 : Hid (w2.heap.size < w3.heap.size) := blk_lt HG3.out
  refine (run8_any W HT.out w3 (HWW.out.trans (hbw3.mono HWW.out.size)) w2.heap.size (Nat.le_trans HWW.out.size HF2.out.b.size) HM3.out _ b (HB.out.move (keep_below hbw3)) (fun q hq => by have h1 := HBq.out q hq; have h2 := HS2.out; have h3 := HM3.out; omega) HBL.out d (by have := HD.out; omega) HG3.out N R HRR.out).mono ?_
  rintro e w4 ⟨hk4, c, vo, rfl, hm4, ht4⟩
  have hb4 : Below (w.heap.size + 2) w2 w4 := (HB3.out.mono (by have := HS2.out; omega)).trans (hk4.below (by have := HM3.out; have := HS2.out; omega) (fun q e => by have := HS2.out; omega))
  have HF4 := hide (HF2.out.next hb4)
  have HM4 := hide hm4
  have HT4 := hide ht4
  have HZ4 : Hid (w2.heap.size < w4.heap.size) := blk_lt hm4
  have hmk := itm_mk8 w4 c
  have HN5 := hide (heap_alloc_new w4 (.cells zv 40))
  have HI5 : Hid ((Tryd.prog.info? 40).map (·.size) = some c.size) := by show _ = _; rw [ht4.tin.size13]; exact infoV
  have HZ5 : Hid (zv.size = c.size) := by show _ = _; rw [ht4.tin.size13]; rfl
  have HC13 := hide ht4.tin.size13
  have HA5 := hide ht4.tin.all1
  have HF5 := hide (HF4.out.next (hmk.1.mono (by have := HZ4.out; have := HS2.out; omega)))
  have HM5 : Hid (((w4.alloc (.cells zv 40)).setRow w4.heap.size c).heap[w2.heap.size]? = _) := (hmk.1.block _ (blk_lt hm4)).trans hm4
  have HT5 : Hid (Tis ((w4.alloc (.cells zv 40)).setRow w4.heap.size c) (fun q => q < w3.heap.size) R.v c) := ht4.kp (Kp.of_below hmk.1)
  have HV5 := hide hmk.2
  have HW5 : Hid (w.heap.size + 2 ≤ w3.heap.size) := by show _ ≤ _; have := HM3.out; have := HS2.out; omega
  have HEB : Hid (R.e ≠ 0 → R.v = tz8 0) := mrun_bad HRR.out
  have HWS : Hid (w2.heap.size = w.heap.size + 2) := HS2.out
  clear hbw3 hk4 hm4 ht4 hb4 hmk HF2 HB3 HG3 HN3 HM3 HM4 HT4 HF4 HS2
  go_upto_region 5 with (refine wpList_storeRow rfl rfl w4.heap.size zv c 40 rfl rfl HN5.out HI5.out HZ5.out HA5.out ?_)
  unfold zv at HF5 HM5 HT5 HV5
  generalize (w4.alloc (.cells #[.int .i64 0, .bool false, .bool false, .int .u64 0, .int .u64 0, .string ⟨#[]⟩, .slice none 0 0, .int .i64 0, .int .u64 0, .int .u64 0, .string ⟨#[]⟩, .slice none 0 0, .slice none 0 0] 40)).setRow w4.heap.size c = w5 at *
  have HF5 : Hid (Fst8 w w5 zv zf) := HF5
  have HIR : Hid ((Tryd.prog.info? 40).map (·.size) = some zv.size) := infoV
  have HZA := hide zv_all8
  obtain ⟨re, rp, rv⟩ := R
  simp only at HM5 HT5 HEB
  by_cases h0 : re = 0
  case neg => as_aux_lemma =>
    have gk : ((re : Int) != 0) = true := by rw [bne_iff_ne]; omega
    have HRV := hide (HEB.out h0)
    have HR5 := hide HF5.out.r
    have HFF := hide (HF5.out.setR zv).f
    have HIF : Hid ((Tryd.prog.info? 29).map (·.size) = some (fcs re rp).size) := infoF8
    have HAF := hide (fcs_all re rp)
    have HE1 : Hid (0 = if re = 0 then rp else 0) := by show _ = _; rw [if_neg h0]
    have HE2 : Hid (fcs re rp = fcs re (if re = 0 then 0 else rp)) := by show _ = _; rw [if_neg h0]
    clear h0
    go_upto_region 6 with fail
    refine heldStart (S := fun wy => wy.heap[w2.heap.size]? = some (.cells #[.slice aB b.length cB, .int .i64 (rp : Nat), .int .i64 (d : Nat), vo] 47 (0, 0))) (by kernel_rfl) ?_
    have hS : w5.drew.heap[w2.heap.size]? = some (.cells #[.slice aB b.length cB, .int .i64 (rp : Nat), .int .i64 (d : Nat), vo] 47 (0, 0)) := HM5.out
    refine heldTake 0 _ rfl (by kernel_rfl) (by kernel_rfl) (by kernel_rfl) (fun _ _ _ h => h) rfl hS (fun wy hy => by first | (go_simp; done) | (go_simp; rfl) | rfl) ?_
    (try simp only [Act.put]); (try simp only [List.setIfInBounds_toArray, List.set_cons_zero, List.set_cons_succ])
    refine heldTake 1 _ rfl (by kernel_rfl) (by kernel_rfl) (by kernel_rfl) (fun _ _ _ h => h) rfl hS (fun wy hy => by first | (go_simp; done) | (go_simp; rfl) | rfl) ?_
    (try simp only [Act.put]); (try simp only [List.setIfInBounds_toArray, List.set_cons_zero, List.set_cons_succ])
    refine heldTake 2 _ rfl (by kernel_rfl) (by kernel_rfl) (by kernel_rfl) (fun _ _ _ h => h) rfl hS (fun wy hy => by first | (go_simp; done) | (go_simp; rfl) | rfl) ?_
    (try simp only [Act.put]); (try simp only [List.setIfInBounds_toArray, List.set_cons_zero, List.set_cons_succ])
    refine heldTake 3 _ rfl (by kernel_rfl) (by kernel_rfl) (by kernel_rfl) (fun _ _ _ h => h) rfl hS (fun wy hy => by have h0 := blk_cell (j := 1) (v := .int .i64 (rp : Nat)) hy rfl; first | (go_simp; done) | (go_simp; rfl) | rfl) ?_
    (try simp only [Act.put]); (try simp only [List.setIfInBounds_toArray, List.set_cons_zero, List.set_cons_succ])
    refine heldTake 4 _ rfl (by kernel_rfl) (by kernel_rfl) (by kernel_rfl) (fun _ _ _ h => h) rfl hS (fun wy hy => by first | (go_simp; done) | (go_simp; rfl) | rfl) ?_
    (try simp only [Act.put]); (try simp only [List.setIfInBounds_toArray, List.set_cons_zero, List.set_cons_succ])
    refine heldStep 5 rfl (by kernel_rfl) (fun K hK => ?_)
    refine step_storeRow rfl rfl w.heap.size zv zv 40 rfl rfl HR5.out HIR.out rfl HZA.out ?_
    have hrk := row_kp w5.drew w.heap.size zv
    refine (Hid.out hK) _ _ ((hrk.block _ (blk_lt hS) (by have := HWS.out; omega)).trans hS) (fun hS4 => ?_)
    clear hK K hS
    (try simp only [Act.put]); (try simp only [List.setIfInBounds_toArray, List.set_cons_zero, List.set_cons_succ])
    refine heldTake 6 _ rfl (by kernel_rfl) (by kernel_rfl) (by kernel_rfl) (fun _ _ _ h => h) rfl hS4 (fun wy hy => by first | (go_simp; done) | (go_simp; rfl) | rfl) ?_
    (try simp only [Act.put]); (try simp only [List.setIfInBounds_toArray, List.set_cons_zero, List.set_cons_succ])
    refine heldStep 7 rfl (by kernel_rfl) (fun K hK => ?_)
    refine step_storeRow rfl rfl (w.heap.size + 1) zf (fcs re rp) 29 rfl rfl HFF.out HIF.out rfl HAF.out ?_
    have hrk2 := row_kp (w5.drew.setRow w.heap.size zv) (w.heap.size + 1) (fcs re rp)
    refine (Hid.out hK) _ _ ((hrk2.block _ (blk_lt hS4) (by have := HWS.out; omega)).trans hS4) (fun hS5 => ?_)
    clear hK K hS4
    (try simp only [Act.put]); (try simp only [List.setIfInBounds_toArray, List.set_cons_zero, List.set_cons_succ])
    refine heldDone (by kernel_rfl) ?_
    clear hS5
    go_wp2_with fail
    have hFD : Fst8 w w5.drew zv zf := HF5.out.next (by refine Below.drew ?_; exact Below.refl _ _)
    have hFE := (hFD.setR zv).setF (fcs re rp)
    exact bodyPost_ret (end_first rfl hFE.r rfl hFE.f rfl rfl rfl) rfl (FirstP.mk (r := ⟨re, rp, rv⟩) HE1.out HE2.out hFE.b (by rw [show (Res.mk re rp rv).v = tz8 0 from HRV.out]; exact tz8_tis _ _))
  as_aux_lemma =>
    have gk : ((re : Int) != 0) = false := by rw [bne_eq_false_iff_eq]; omega
    have HR5 := hide HF5.out.r
    have HFF := hide (HF5.out.setR c).f
    have HIF : Hid ((Tryd.prog.info? 29).map (·.size) = some zf.size) := infoF8
    have HAF : Hid (zf.all (·.oneCell') = true) := fcs_all 0 0
    have HE1 : Hid (rp = if re = 0 then rp else 0) := by show _ = _; rw [if_pos h0]
    have HE2 : Hid (zf = fcs re (if re = 0 then 0 else rp)) := by show _ = _; rw [if_pos h0, h0]; rfl
    clear h0
    go_upto_region 7 with fail
    refine heldStart (S := fun wy => wy.heap[w2.heap.size]? = some (.cells #[.slice aB b.length cB, .int .i64 (rp : Nat), .int .i64 (d : Nat), vo] 47 (0, 0)) ∧ wy.heap[w4.heap.size]? = some (.cells c 40 (0, 0))) (by kernel_rfl) ?_
    have hS : w5.drew.heap[w2.heap.size]? = some (.cells #[.slice aB b.length cB, .int .i64 (rp : Nat), .int .i64 (d : Nat), vo] 47 (0, 0)) ∧ w5.drew.heap[w4.heap.size]? = some (.cells c 40 (0, 0)) := ⟨HM5.out, HV5.out⟩
    refine heldTake 0 (.agg c) rfl (by kernel_rfl) (by kernel_rfl) (by kernel_rfl) (fun _ _ _ h => h) rfl hS (fun wy hy => exec_valAt (g := w4.heap.size) (off := 0) (cs := c) rfl rfl HC13.out (fun j u hu => by rw [Nat.zero_add]; exact blk_cell hy.2 hu)) ?_
    (try simp only [Act.put]); (try simp only [List.setIfInBounds_toArray, List.set_cons_zero, List.set_cons_succ])
    refine heldTake 1 _ rfl (by kernel_rfl) (by kernel_rfl) (by kernel_rfl) (fun _ _ _ h => h) rfl hS (fun wy hy => by first | (go_simp; done) | (go_simp; rfl) | rfl) ?_
    (try simp only [Act.put]); (try simp only [List.setIfInBounds_toArray, List.set_cons_zero, List.set_cons_succ])
    refine heldTake 2 _ rfl (by kernel_rfl) (by kernel_rfl) (by kernel_rfl) (fun _ _ _ h => h) rfl hS (fun wy hy => by have h0 := blk_cell (j := 1) (v := .int .i64 (rp : Nat)) hy.1 rfl; first | (go_simp; done) | (go_simp; rfl) | rfl) ?_
    (try simp only [Act.put]); (try simp only [List.setIfInBounds_toArray, List.set_cons_zero, List.set_cons_succ])
    refine heldTake 3 _ rfl (by kernel_rfl) (by kernel_rfl) (by kernel_rfl) (fun _ _ _ h => h) rfl hS (fun wy hy => by first | (go_simp; done) | (go_simp; rfl) | rfl) ?_
    (try simp only [Act.put]); (try simp only [List.setIfInBounds_toArray, List.set_cons_zero, List.set_cons_succ])
    refine heldStep 4 rfl (by kernel_rfl) (fun K hK => ?_)
    refine step_storeRow rfl rfl w.heap.size zv c 40 rfl rfl HR5.out HI5.out HZ5.out HA5.out ?_
    have hrk := row_kp w5.drew w.heap.size c
    refine (Hid.out hK) _ _ ⟨(hrk.block _ (blk_lt hS.1) (by have := HWS.out; omega)).trans hS.1, (hrk.block _ (blk_lt hS.2) (by have := HWS.out; have := HZ4.out; omega)).trans hS.2⟩ (fun hS4 => ?_)
    clear hK K hS
    (try simp only [Act.put]); (try simp only [List.setIfInBounds_toArray, List.set_cons_zero, List.set_cons_succ])
    refine heldTake 5 _ rfl (by kernel_rfl) (by kernel_rfl) (by kernel_rfl) (fun _ _ _ h => h) rfl hS4 (fun wy hy => by first | (go_simp; done) | (go_simp; rfl) | rfl) ?_
    (try simp only [Act.put]); (try simp only [List.setIfInBounds_toArray, List.set_cons_zero, List.set_cons_succ])
    refine heldStep 6 rfl (by kernel_rfl) (fun K hK => ?_)
    refine step_storeRow rfl rfl (w.heap.size + 1) zf zf 29 rfl rfl HFF.out HIF.out rfl HAF.out ?_
    have hrk2 := row_kp (w5.drew.setRow w.heap.size c) (w.heap.size + 1) zf
    refine (Hid.out hK) _ _ ⟨(hrk2.block _ (blk_lt hS4.1) (by have := HWS.out; omega)).trans hS4.1, (hrk2.block _ (blk_lt hS4.2) (by have := HWS.out; have := HZ4.out; omega)).trans hS4.2⟩ (fun hS5 => ?_)
    clear hK K hS4
    (try simp only [Act.put]); (try simp only [List.setIfInBounds_toArray, List.set_cons_zero, List.set_cons_succ])
    refine heldDone (by kernel_rfl) ?_
    clear hS5
    go_wp2_with fail
    have hFD : Fst8 w w5.drew zv zf := HF5.out.next (by refine Below.drew ?_; exact Below.refl _ _)
    have hFE := (hFD.setR c).setF zf
    have hkk : Kp (fun q => q < w3.heap.size) w5 ((w5.drew.setRow w.heap.size c).setRow (w.heap.size + 1) zf) := ((Kp.refl (fun q => q < w3.heap.size) w5).drew.trans hrk (fun q _ e => by have := HW5.out; omega)).trans hrk2 (fun q _ e => by have := HW5.out; omega)
    exact bodyPost_ret (end_first HC13.out hFE.r rfl hFE.f rfl rfl rfl) rfl (FirstP.mk (r := ⟨re, rp, rv⟩) HE1.out HE2.out hFE.b ((HT5.out.kp hkk).mono (fun q hq => by have := HW5.out; omega)))
end
section
open Go.RowKit Go
/-- What Decode tells. -/
def DecP (w : World) (b : List Nat) (r : Res) (e : Ending) (w' : World) : Prop := Below w.heap.size w w' ∧ ∃ c, e = .returned (.tuple #[.agg c, .agg (fcs (dflt b r).1 (dflt b r).2)]) ∧ Tis w' (fun q => q < w.heap.size) (if (dflt b r).1 = 0 then r.v else tz8 0) c
theorem DecP.mk {w w' : World} {b : List Nat} {r : Res} {c f : Array Value} {v : Tv} (hf : f = fcs (dflt b r).1 (dflt b r).2) (hv : v = if (dflt b r).1 = 0 then r.v else tz8 0) (hb : Below w.heap.size w w') (ht : Tis w' (fun q => q < w.heap.size) v c) : DecP w b r (.returned (.tuple #[.agg c, .agg f])) w' := by
  subst hf
  subst hv
  exact ⟨hb, c, rfl, ht⟩
/-- Two new blocks, written. -/
theorem two_mk8 (w : World) (c f : Array Value) : Below w.heap.size w ((((w.alloc (.cells zv 40)).alloc (.cells zf 29)).setRow w.heap.size c).setRow (w.heap.size + 1) f) ∧ ((((w.alloc (.cells zv 40)).alloc (.cells zf 29)).setRow w.heap.size c).setRow (w.heap.size + 1) f).heap[w.heap.size]? = some (.cells c 40 (0, 0)) ∧ ((((w.alloc (.cells zv 40)).alloc (.cells zf 29)).setRow w.heap.size c).setRow (w.heap.size + 1) f).heap[w.heap.size + 1]? = some (.cells f 29 (0, 0)) := by
  have hb0 := below_alloc4 w (.cells zv 40)
  have hb1 := below_alloc4 (w.alloc (.cells zv 40)) (.cells zf 29)
  have hs1 : (w.alloc (.cells zv 40)).heap.size = w.heap.size + 1 := by simp
  have hF : Fst8 w ((w.alloc (.cells zv 40)).alloc (.cells zf 29)) zv zf := by
    refine ⟨hb0.trans (hb1.mono hb0.size), ?_, ?_⟩
    · have h := heap_alloc_new w (.cells zv 40)
      exact (hb1.block _ (blk_lt h)).trans h
    · have h := heap_alloc_new (w.alloc (.cells zv 40)) (.cells zf 29)
      rw [hs1] at h
      exact h
  have h2 := (hF.setR c).setF f
  exact ⟨h2.b, h2.r, h2.f⟩
theorem two_new8 (w : World) : Fst8 w ((w.alloc (.cells zv 40)).alloc (.cells zf 29)) zv zf := by
  have hb0 := below_alloc4 w (.cells zv 40)
  have hb1 := below_alloc4 (w.alloc (.cells zv 40)) (.cells zf 29)
  have hs1 : (w.alloc (.cells zv 40)).heap.size = w.heap.size + 1 := by simp
  refine ⟨hb0.trans (hb1.mono hb0.size), ?_, ?_⟩
  · have h := heap_alloc_new w (.cells zv 40)
    exact (hb1.block _ (blk_lt h)).trans h
  · have h := heap_alloc_new (w.alloc (.cells zv 40)) (.cells zf 29)
    rw [hs1] at h
    exact h
set_option maxRecDepth 1000000 in
set_option maxHeartbeats 4000000 in
theorem decode8_any (W : World) (hT : Tabs W) (w : World) (hW : Below W.heap.size W w) (vB : Value) (b : List Nat) (hB : BSl w vB b) (hBq : ∀ q, vB.ownBlock = some q → q < w.heap.size) (hbl : b.length ≤ 8388608) (d : Nat) (hd : d ≤ 1024) (N : Nat) (R : Res) (hR : mrun b d N m0 = some R) :
    Calls Tryd.prog 9 #[vB, .int .i64 (d : Nat)] w (DecP w b R) := by
  have HF2 := hide (two_new8 w)
  have hs2 : ((w.alloc (.cells zv 40)).alloc (.cells zf 29)).heap.size = w.heap.size + 2 := by simp
  have hb2 := (two_new8 w).b
  have HFC := hide (first8_any W hT ((w.alloc (.cells zv 40)).alloc (.cells zf 29)) (hW.trans (hb2.mono hW.size)) vB b (hB.move (keep_below hb2)) (fun q hq => by have := hBq q hq; omega) hbl d hd N R hR)
  have HS2 := hide hs2
  have HEB : Hid (R.e ≠ 0 → R.v = tz8 0) := mrun_bad hR
  have HPL := hide (mrun_at (Nat.zero_le _ : m0.p ≤ b.length) hR).2
  have HBL := hide hbl
  obtain ⟨⟨aB, cB, hvB, _, _⟩, _, _⟩ := hB
  subst hvB
  clear hT hW hBq hbl hR hb2 hs2 hd
  unfold zv zf at HF2 HS2 HFC
  go_enter Tryd.func9, Tryd.ntmps9
  go_wp2_with fail
  generalize (w.alloc (.cells #[.int .i64 0, .bool false, .bool false, .int .u64 0, .int .u64 0, .string ⟨#[]⟩, .slice none 0 0, .int .i64 0, .int .u64 0, .int .u64 0, .string ⟨#[]⟩, .slice none 0 0, .slice none 0 0] 40)).alloc (.cells #[.int .i64 0, .int .i64 0] 29) = w2 at *
  have HF2 : Hid (Fst8 w w2 zv zf) := HF2
  refine HFC.out.mono ?_
  rintro e w3 ⟨hb3, c, rfl, ht3⟩
  have HF3 := hide (HF2.out.next (hb3.mono (by have := HS2.out; omega)))
  have HW3 : Hid (w.heap.size + 2 ≤ w3.heap.size) := by show _ ≤ _; have := hb3.size; have := HS2.out; omega
  have HTR : Hid (Tis w3 (fun q => q < w.heap.size + 2) R.v c) := ht3.mono (fun q hq => by have := HS2.out; omega)
  clear hb3 ht3 HF2 HFC HS2
  obtain ⟨re, rp, rv⟩ := R
  simp only at HPL HTR HEB
  generalize hnu : (if re = 0 then rp else 0) = nu at *
  generalize hfa : (if re = 0 then 0 else rp) = fa at *
  have HNU := hide hnu
  have HFA := hide hfa
  have hmk := two_mk8 w3 c (fcs re fa)
  have hF0 := two_new8 w3
  have HN5 := hide hF0.r
  have HN6 := hide (hF0.setR c).f
  have HI5 : Hid ((Tryd.prog.info? 40).map (·.size) = some c.size) := by show _ = _; rw [HTR.out.tin.size13]; exact infoV
  have HZ5 : Hid (zv.size = c.size) := by show _ = _; rw [HTR.out.tin.size13]; rfl
  have HC13 := hide HTR.out.tin.size13
  have HA5 := hide HTR.out.tin.all1
  have HIF : Hid ((Tryd.prog.info? 29).map (·.size) = some (fcs re fa).size) := infoF8
  have HAF := hide (fcs_all re fa)
  have HF5 := hide (HF3.out.next (hmk.1.mono (by have := HW3.out; omega)))
  have HV5 := hide hmk.2.1
  have HG5 := hide hmk.2.2
  have HT5 := hide (HTR.out.kp (Kp.of_below hmk.1))
  clear hmk hnu hfa HTR hF0
  simp only [fcs] at HF5 HV5 HG5 HT5 HIF HAF
  unfold zv zf at HF5 HV5 HG5 HT5
  go_upto_region 2 with (first
    | (refine wpList_storeRow rfl rfl w3.heap.size zv c 40 rfl rfl HN5.out HI5.out HZ5.out HA5.out ?_)
    | (refine wpList_storeRow rfl rfl (w3.heap.size + 1) zf #[.int .i64 (re : Nat), .int .i64 (fa : Nat)] 29 rfl rfl HN6.out HIF.out rfl HAF.out ?_))
  (try simp only [Act.put]); (try simp only [List.setIfInBounds_toArray, List.set_cons_zero, List.set_cons_succ])
  generalize (((w3.alloc (.cells #[.int .i64 0, .bool false, .bool false, .int .u64 0, .int .u64 0, .string ⟨#[]⟩, .slice none 0 0, .int .i64 0, .int .u64 0, .int .u64 0, .string ⟨#[]⟩, .slice none 0 0, .slice none 0 0] 40)).alloc (.cells #[.int .i64 0, .int .i64 0] 29)).setRow w3.heap.size c).setRow (w3.heap.size + 1) #[.int .i64 (re : Nat), .int .i64 (fa : Nat)] = w5 at *
  have HF5 : Hid (Fst8 w w5 zv zf) := HF5
  have HG5 : Hid (w5.heap[w3.heap.size + 1]? = some (.cells (fcs re fa) 29 (0, 0))) := HG5
  have HIF : Hid ((Tryd.prog.info? 29).map (·.size) = some (fcs re fa).size) := infoF8
  have HAF := hide (fcs_all re fa)
  have HIR : Hid ((Tryd.prog.info? 40).map (·.size) = some zv.size) := infoV
  have HZA := hide zv_all8
  have HR5 := hide HF5.out.r
  clear HN5 HN6 HF3
  have c0 : w5.cell? ⟨w3.heap.size + 1, 0, none⟩ = some (.int .i64 (re : Nat)) := blk_cell (j := 0) HG5.out rfl
  by_cases h5 : re = 0 ∧ rp < b.length
  · as_aux_lemma =>
    obtain ⟨h0, hl⟩ := h5
    have gk : ((re : Int) == 0) = true := beq_iff_eq.2 (by omega)
    have hnu : nu = rp := by rw [← HNU.out, if_pos h0]
    subst hnu
    have gl : decide (nu < b.length) = true := decide_eq_true hl
    have gl2 : (nu : Int) < (b.length : Int) := by omega
    have HDF : Hid (fcs 85 nu = fcs (dflt b ⟨re, nu, rv⟩).1 (dflt b ⟨re, nu, rv⟩).2) := by show _ = _; unfold dflt; rw [if_pos h0, if_pos hl]
    have HDV : Hid (tz8 0 = if (dflt b ⟨re, nu, rv⟩).1 = 0 then rv else tz8 0) := by show _ = _; unfold dflt; rw [if_pos h0, if_pos hl]; rfl
    have HFF := hide (HF5.out.setR zv).f
    have HI85 : Hid ((Tryd.prog.info? 29).map (·.size) = some (fcs 85 nu).size) := infoF8
    have HA85 := hide (fcs_all 85 nu)
    clear h0 hl
    go_wp2_with (first
      | (refine wpList_storeRow rfl rfl w.heap.size zv zv 40 rfl rfl HR5.out HIR.out rfl HZA.out ?_)
      | (refine wpList_storeRow rfl rfl (w.heap.size + 1) zf (fcs 85 nu) 29 rfl rfl HFF.out HI85.out rfl HA85.out ?_))
    have hFE := (HF5.out.setR zv).setF (fcs 85 nu)
    exact bodyPost_ret (end_decode rfl hFE.r rfl hFE.f rfl rfl) rfl (DecP.mk HDF.out HDV.out hFE.b (tz8_tis _ _))
  have HDF : Hid (fcs re fa = fcs (dflt b ⟨re, rp, rv⟩).1 (dflt b ⟨re, rp, rv⟩).2) := by
    show _ = _
    unfold dflt
    by_cases h0 : re = 0
    · rw [if_pos h0, if_neg (fun h => h5 ⟨h0, h⟩), h0, ← HFA.out, if_pos h0]
    · rw [if_neg h0, ← HFA.out, if_neg h0]
  have HDV : Hid (rv = if (dflt b ⟨re, rp, rv⟩).1 = 0 then rv else tz8 0) := by
    show _ = _
    unfold dflt
    by_cases h0 : re = 0
    · rw [if_pos h0, if_neg (fun h => h5 ⟨h0, h⟩)]; rfl
    · rw [if_neg h0, if_neg h0]
      exact HEB.out h0
  go_cut [24] from 9 to 25 (fun vv wx => vv = .bool false ∧ wx = w5)
  case first =>
    by_cases h0 : re = 0
    · as_aux_lemma =>
      have gk : ((re : Int) == 0) = true := beq_iff_eq.2 (by omega)
      have hnu : nu = rp := by rw [← HNU.out, if_pos h0]
      subst hnu
      have gl : decide (nu < b.length) = false := decide_eq_false (fun h => h5 ⟨h0, h⟩)
      have gl2 : ¬ (nu : Int) < (b.length : Int) := fun h => h5 ⟨h0, by omega⟩
      clear h0 h5
      go_wp2_with fail
      go_meet
      case rel => exact ⟨rfl, rfl⟩
    · as_aux_lemma =>
      have gk : ((re : Int) == 0) = false := beq_eq_false_iff_ne.2 (by omega)
      clear h0 h5
      go_wp2_with fail
      go_meet
      case rel => exact ⟨rfl, rfl⟩
  obtain ⟨rfl, hww⟩ := hcut
  have hww := hww.symm
  subst hww
  clear h5 c0
  have HFF := hide (HF5.out.setR c).f
  go_upto_region 4 with fail
  refine heldStart (S := fun wy => wy.heap[w3.heap.size]? = some (.cells c 40 (0, 0)) ∧ wy.heap[w3.heap.size + 1]? = some (.cells (fcs re fa) 29 (0, 0))) (by kernel_rfl) ?_
  have hS : w5.drew.heap[w3.heap.size]? = some (.cells c 40 (0, 0)) ∧ w5.drew.heap[w3.heap.size + 1]? = some (.cells (fcs re fa) 29 (0, 0)) := ⟨HV5.out, HG5.out⟩
  refine heldTake 0 (.agg c) rfl (by kernel_rfl) (by kernel_rfl) (by kernel_rfl) (fun _ _ _ h => h) rfl hS (fun wy hy => exec_valAt (g := w3.heap.size) (off := 0) (cs := c) rfl rfl HC13.out (fun j u hu => by rw [Nat.zero_add]; exact blk_cell hy.1 hu)) ?_
  (try simp only [Act.put]); (try simp only [List.setIfInBounds_toArray, List.set_cons_zero, List.set_cons_succ])
  refine heldTake 1 (.agg (fcs re fa)) rfl (by kernel_rfl) (by kernel_rfl) (by kernel_rfl) (fun _ _ _ h => h) rfl hS (fun wy hy => exec_fltAt (g := w3.heap.size + 1) rfl rfl rfl hy.2) ?_
  (try simp only [Act.put]); (try simp only [List.setIfInBounds_toArray, List.set_cons_zero, List.set_cons_succ])
  refine heldStep 2 rfl (by kernel_rfl) (fun K hK => ?_)
  refine step_storeRow rfl rfl w.heap.size zv c 40 rfl rfl HR5.out HI5.out HZ5.out HA5.out ?_
  have hrk := row_kp w5.drew w.heap.size c
  refine (Hid.out hK) _ _ ⟨(hrk.block _ (blk_lt hS.1) (by have := HW3.out; omega)).trans hS.1, (hrk.block _ (blk_lt hS.2) (by have := HW3.out; omega)).trans hS.2⟩ (fun hS4 => ?_)
  clear hK K hS
  (try simp only [Act.put]); (try simp only [List.setIfInBounds_toArray, List.set_cons_zero, List.set_cons_succ])
  refine heldStep 3 rfl (by kernel_rfl) (fun K hK => ?_)
  refine step_storeRow rfl rfl (w.heap.size + 1) zf (fcs re fa) 29 rfl rfl HFF.out HIF.out rfl HAF.out ?_
  have hrk2 := row_kp (w5.drew.setRow w.heap.size c) (w.heap.size + 1) (fcs re fa)
  refine (Hid.out hK) _ _ ⟨(hrk2.block _ (blk_lt hS4.1) (by have := HW3.out; omega)).trans hS4.1, (hrk2.block _ (blk_lt hS4.2) (by have := HW3.out; omega)).trans hS4.2⟩ (fun hS5 => ?_)
  clear hK K hS4
  (try simp only [Act.put]); (try simp only [List.setIfInBounds_toArray, List.set_cons_zero, List.set_cons_succ])
  refine heldDone (by kernel_rfl) ?_
  clear hS5
  go_wp2_with fail
  have hFD : Fst8 w w5.drew zv zf := HF5.out.next (by refine Below.drew ?_; exact Below.refl _ _)
  have hFE := (hFD.setR c).setF (fcs re fa)
  have hkk : Kp (fun q => q < w.heap.size + 2) w5 ((w5.drew.setRow w.heap.size c).setRow (w.heap.size + 1) (fcs re fa)) := ((Kp.refl (fun q => q < w.heap.size + 2) w5).drew.trans hrk (fun q _ e => by omega)).trans hrk2 (fun q _ e => by omega)
  exact bodyPost_ret (end_decode HC13.out hFE.r rfl hFE.f rfl rfl) rfl (DecP.mk HDF.out HDV.out hFE.b ((HT5.out.kp hkk).mono (fun q hq => by omega)))
/-- Check tells Decode's fault alone. -/
def ChkP8 (w : World) (e p : Nat) (x : Ending) (w' : World) : Prop := Below w.heap.size w w' ∧ x = .returned (.agg (fcs e p))
set_option maxRecDepth 1000000 in
set_option maxHeartbeats 4000000 in
theorem check8_any (W : World) (hT : Tabs W) (w : World) (hW : Below W.heap.size W w) (vB : Value) (b : List Nat) (hB : BSl w vB b) (hBq : ∀ q, vB.ownBlock = some q → q < w.heap.size) (hbl : b.length ≤ 8388608) (d : Nat) (hd : d ≤ 1024) (N : Nat) (R : Res) (hR : mrun b d N m0 = some R) :
    Calls Tryd.prog 6 #[vB, .int .i64 (d : Nat)] w (ChkP8 w (dflt b R).1 (dflt b R).2) := by
  have hb1 := below_alloc4 w (.cells zf 29)
  have HN1 := hide (heap_alloc_new w (.cells zf 29))
  have HB1 := hide hb1
  have HDC := hide (decode8_any W hT (w.alloc (.cells zf 29)) (hW.trans (hb1.mono hW.size)) vB b (hB.move (keep_below hb1)) (fun q hq => by have h1 := hBq q hq; have h2 := hb1.size; omega) hbl d hd N R hR)
  obtain ⟨⟨aB, cB, hvB, _, _⟩, _, _⟩ := hB
  subst hvB
  clear hT hW hBq hbl hR hd hb1
  unfold zf at HN1 HB1 HDC
  go_enter Tryd.func6, Tryd.ntmps6
  go_wp2_with fail
  generalize w.alloc (.cells #[.int .i64 0, .int .i64 0] 29) = w1 at *
  refine HDC.out.mono ?_
  rintro e w3 ⟨hb3, c, rfl, ht3⟩
  generalize (dflt b R).1 = fe at *
  generalize (dflt b R).2 = fp at *
  generalize (if fe = 0 then R.v else tz8 0) = tv at *
  have hF0 := two_new8 w3
  have HN5 := hide hF0.r
  have HN6 := hide (hF0.setR c).f
  have hmk := two_mk8 w3 c (fcs fe fp)
  have HI5 : Hid ((Tryd.prog.info? 40).map (·.size) = some c.size) := by show _ = _; rw [ht3.tin.size13]; exact infoV
  have HZ5 : Hid (zv.size = c.size) := by show _ = _; rw [ht3.tin.size13]; rfl
  have HA5 := hide ht3.tin.all1
  have HIF : Hid ((Tryd.prog.info? 29).map (·.size) = some (fcs fe fp).size) := infoF8
  have HAF := hide (fcs_all fe fp)
  have HN1 : Hid (w1.heap[w.heap.size]? = some (.cells zf 29 (0, 0))) := HN1
  have hb13 : Below w1.heap.size w1 ((((w3.alloc (.cells zv 40)).alloc (.cells zf 29)).setRow w3.heap.size c).setRow (w3.heap.size + 1) (fcs fe fp)) := hb3.trans (hmk.1.mono hb3.size)
  have HR5 := hide ((hb13.block _ (blk_lt HN1.out)).trans HN1.out)
  have HB5 : Hid (Below w.heap.size w ((((w3.alloc (.cells zv 40)).alloc (.cells zf 29)).setRow w3.heap.size c).setRow (w3.heap.size + 1) (fcs fe fp))) := HB1.out.trans (hb13.mono HB1.out.size)
  have HG5 := hide hmk.2.2
  clear hb3 ht3 hF0 hmk hb13 HDC
  go_wp2_with (first
    | (refine wpList_storeRow rfl rfl w3.heap.size zv c 40 rfl rfl HN5.out HI5.out HZ5.out HA5.out ?_)
    | (refine wpList_storeRow rfl rfl (w3.heap.size + 1) zf (fcs fe fp) 29 rfl rfl HN6.out HIF.out rfl HAF.out ?_)
    | (refine wpList_exec rfl (exec_fltAt (g := w3.heap.size + 1) (c := fcs fe fp) rfl rfl rfl HG5.out) ?_)
    | (refine wpList_storeRow rfl rfl w.heap.size zf (fcs fe fp) 29 rfl rfl HR5.out HIF.out rfl HAF.out ?_))
  have hkr := row_kp ((((w3.alloc (.cells zv 40)).alloc (.cells zf 29)).setRow w3.heap.size c).setRow (w3.heap.size + 1) (fcs fe fp)) w.heap.size (fcs fe fp)
  exact bodyPost_ret (end_check rfl (row_same HR5.out) rfl) rfl ⟨HB5.out.trans (hkr.below HB5.out.size (fun q e => by omega)), rfl⟩
end
section
open Go.RowKit Go
def rb4 : List Nat := [130, 1, 97, 97]
def rv4 : Tv := .mk 8 false false 0 0 ⟨#[]⟩ [] ⟨0, 0, 0, []⟩ [] [.mk 3 false false 1 0 ⟨#[]⟩ [] ⟨0, 0, 0, []⟩ [] [], .mk 5 false false 0 0 ⟨#[97]⟩ [] ⟨0, 0, 0, []⟩ [] []]
theorem reads_one : mrun rb4 1 20 m0 = some ⟨0, 4, rv4⟩ := by kernel_rfl
theorem reads_two : mrun rb4 0 20 m0 = some ⟨81, 0, tz8 0⟩ := by kernel_rfl
/-- Two faults held against each other. -/
theorem eqflt (w : World) (e p e' p' : Nat) : (Op.equalIn 10000 29 (.agg (fcs e p)) (.agg (fcs e' p'))).run Tryd.prog w = .ok (decide (e = e' ∧ p = p')) w := by
  have u3 := Tryd.underlying3
  have u27 := Tryd.underlying27
  have a3 := Tryd.isAgg3
  have a27 := Tryd.isAgg27
  have z3 := Tryd.sizeOf3
  have z27 := Tryd.sizeOf27
  have hS : Tryd.prog.underlying 29 = some (.struct (Tryd.prog.fieldsOf 29)) := by kernel_rfl
  have hp : Tryd.prog.stoodInHeld 29 = false := by kernel_rfl
  unfold fcs
  rw [show (10000 : Nat) = 9999 + 1 from rfl, run_equalIn_agg w 9999 29 _ _ hS hp]
  simp only [Program.fieldsOf, Tryd.underlying29]
  go_simp
  by_cases h1 : e = e' <;> by_cases h2 : p = p' <;> first | (simp [h1, h2]; done) | (simp [h1, h2]; omega)
theorem eqgF : Tryd.prog.eqGuardType Tryd.prog.depth 29 = false := by kernel_rfl
theorem exec_eqflt {o : Oper} {a : Act} {x y : Operand} {T2 : TypeId} {e p e' p' : Nat} {w : World} (ho : o.op = .binOp .eql 29 x y T2) (hx : a.eval x = .agg (fcs e p)) (hy : a.eval y = .agg (fcs e' p')) : (execOp a.eval o).run Tryd.prog w = .ok (.value (.bool (decide (e = e' ∧ p = p')))) w := by
  unfold execOp
  simp only [ho, Sem.run_bind, hx, hy, run_eqGuard_agg w _ 29 x y _ _ eqgF, run_eql_struct, eqflt, Result.andThen_ok]
  rfl
theorem exec_neflt {o : Oper} {a : Act} {x y : Operand} {T2 : TypeId} {e p e' p' : Nat} {w : World} (ho : o.op = .binOp .neq 29 x y T2) (hx : a.eval x = .agg (fcs e p)) (hy : a.eval y = .agg (fcs e' p')) : (execOp a.eval o).run Tryd.prog w = .ok (.value (.bool (!decide (e = e' ∧ p = p')))) w := by
  unfold execOp
  simp only [ho, Sem.run_bind, hx, hy, run_eqGuard_agg w _ 29 x y _ _ eqgF, run_neq_struct, eqflt, Result.andThen_ok]
  rfl
theorem wpList_execW {ops : Array Oper} {rest : List Oper} {o : Oper} {a : Act} {Q : Exit → Act → World → Prop} {w : World} {v : Value} (hgd : Region.wanted o (yielded ops a.tmps) = true) (he : (execOp a.eval o).run Tryd.prog w = .ok (.value v) w) (h : wpList Tryd.prog ops Q rest (a.put o.dst v) w) : wpList Tryd.prog ops Q (o :: rest) a w := by
  refine wpList_wanted hgd fun K hK => ?_
  unfold Oper.wp
  rw [he]
  exact hK _ _ h
theorem one_mk8 (w : World) (f : Array Value) : Below w.heap.size w ((w.alloc (.cells zf 29)).setRow w.heap.size f) ∧ ((w.alloc (.cells zf 29)).setRow w.heap.size f).heap[w.heap.size]? = some (.cells f 29 (0, 0)) := row_mk8 w zf f 29
theorem lit4_bsl (w : World) : Below w.heap.size w (w.alloc (.cells #[.int .u8 130, .int .u8 1, .int .u8 97, .int .u8 97] 5)) ∧ BSl (w.alloc (.cells #[.int .u8 130, .int .u8 1, .int .u8 97, .int .u8 97] 5)) (.slice (some ⟨w.heap.size, 0, none⟩) 4 4) rb4 :=
  ⟨below_alloc4 w _, bsl_block (xs := rb4) (heap_alloc_new w _) (by decide) (by decide)⟩
theorem rv4_cells {w : World} {c : Array Value} (h : Tin w rv4 c) : c.size = 13 ∧ c[0]? = some (.int .i64 8) ∧ ∃ b off cap, c[12]? = some (.slice (some ⟨b, off, none⟩) 2 cap) ∧ w.cell? ⟨b, off + 18, none⟩ = some (.string ⟨#[97]⟩) := by
  obtain ⟨vy, vk, vi, hc, -, -, hv, -⟩ := h.parts
  obtain ⟨⟨a, cap, hva, _, hx⟩, _⟩ := hv
  obtain ⟨b, off, ha, hx⟩ := hx.resolve_left (by decide)
  obtain ⟨cs, h1, h2⟩ := hx 1 (.mk 5 false false 0 0 ⟨#[97]⟩ [] ⟨0, 0, 0, []⟩ [] []) rfl
  obtain ⟨vy', vk', vi', hc', -⟩ := h1.parts
  subst hc
  subst hva
  subst ha
  refine ⟨rfl, rfl, b, off, cap, rfl, ?_⟩
  have h3 := h2 5 (.string ⟨#[97]⟩) (by rw [hc']; rfl)
  exact h3
set_option maxRecDepth 1000000 in
set_option maxHeartbeats 4000000 in
theorem reads8_any (W : World) (hT : Tabs W) (w : World) (hW : Below W.heap.size W w) : Calls Tryd.prog 4 #[] w fun e w' => e = .returned (.bool true) ∧ Below w.heap.size w w' := by
  have HT := hide hT
  have HWW := hide hW
  have HL1 := hide (lit4_bsl w)
  have HS1 : Hid ((w.alloc (.cells #[.int .u8 130, .int .u8 1, .int .u8 97, .int .u8 97] 5)).heap.size = w.heap.size + 1) := by show _ = _; simp
  clear hT hW
  go_enter Tryd.func4, Tryd.ntmps4
  go_wp2_with fail
  generalize w.alloc (.cells #[.int .u8 130, .int .u8 1, .int .u8 97, .int .u8 97] 5) = w1 at *
  refine (decode8_any W HT.out w1 (HWW.out.trans (HL1.out.1.mono HWW.out.size)) _ rb4 HL1.out.2 (fun q hq => by have e : w.heap.size = q := by simpa [Value.ownBlock] using hq
                                                                                                                have := HS1.out; omega) (by decide) 1 (by decide) 20 _ reads_one).mono ?_
  rintro e w2 ⟨hb2, c, rfl, ht2⟩
  have hin : Tin w2 rv4 c := ht2.tin
  have hF0 := two_new8 w2
  have HN5 := hide hF0.r
  have HN6 := hide (hF0.setR c).f
  have hmk := two_mk8 w2 c (fcs 0 0)
  have HI5 : Hid ((Tryd.prog.info? 40).map (·.size) = some c.size) := by show _ = _; rw [hin.size13]; exact infoV
  have HZ5 : Hid (zv.size = c.size) := by show _ = _; rw [hin.size13]; rfl
  have HA5 := hide hin.all1
  have HIF : Hid ((Tryd.prog.info? 29).map (·.size) = some (fcs 0 0).size) := infoF8
  have HAF := hide (fcs_all 0 0)
  have HV3 := hide hmk.2.1
  have HG3 := hide hmk.2.2
  have HC3 := hide (hin.move (keep_below hmk.1))
  have HB3 : Hid (Below w.heap.size w ((((w2.alloc (.cells zv 40)).alloc (.cells zf 29)).setRow w2.heap.size c).setRow (w2.heap.size + 1) (fcs 0 0))) := (HL1.out.1.trans (hb2.mono HL1.out.1.size)).trans (hmk.1.mono (Nat.le_trans HL1.out.1.size hb2.size))
  clear hb2 ht2 hin hF0 hmk HL1 HS1
  go_upto_region 2 with (first
    | (refine wpList_storeRow rfl rfl w2.heap.size zv c 40 rfl rfl HN5.out HI5.out HZ5.out HA5.out ?_)
    | (refine wpList_storeRow rfl rfl (w2.heap.size + 1) zf (fcs 0 0) 29 rfl rfl HN6.out HIF.out rfl HAF.out ?_))
  (try simp only [Act.put]); (try simp only [List.setIfInBounds_toArray, List.set_cons_zero, List.set_cons_succ])
  unfold zv zf at HV3 HG3 HC3 HB3
  generalize (((w2.alloc (.cells #[.int .i64 0, .bool false, .bool false, .int .u64 0, .int .u64 0, .string ⟨#[]⟩, .slice none 0 0, .int .i64 0, .int .u64 0, .int .u64 0, .string ⟨#[]⟩, .slice none 0 0, .slice none 0 0] 40)).alloc (.cells #[.int .i64 0, .int .i64 0] 29)).setRow w2.heap.size c).setRow (w2.heap.size + 1) (fcs 0 0) = w3 at *
  clear HN5 HN6
  have HL4 := hide (lit4_bsl w3)
  have HS4 : Hid ((w3.alloc (.cells #[.int .u8 130, .int .u8 1, .int .u8 97, .int .u8 97] 5)).heap.size = w3.heap.size + 1) := by show _ = _; simp
  go_wp2_with fail
  generalize w3.alloc (.cells #[.int .u8 130, .int .u8 1, .int .u8 97, .int .u8 97] 5) = w4 at *
  have hbw4 : Below w.heap.size w w4 := HB3.out.trans (HL4.out.1.mono HB3.out.size)
  refine (check8_any W HT.out w4 (HWW.out.trans (hbw4.mono HWW.out.size)) _ rb4 HL4.out.2 (fun q hq => by have e : w3.heap.size = q := by simpa [Value.ownBlock] using hq
                                                                                                          have := HS4.out; omega) (by decide) 0 (by decide) 20 _ reads_two).mono ?_
  rintro e w5 ⟨hb5, rfl⟩
  have hb35 : Below w3.heap.size w3 w5 := HL4.out.1.trans (hb5.mono HL4.out.1.size)
  have hmk := one_mk8 w5 (fcs 81 0)
  have hb36 : Below w3.heap.size w3 ((w5.alloc (.cells zf 29)).setRow w5.heap.size (fcs 81 0)) := hb35.trans (hmk.1.mono hb35.size)
  have HN7 := hide (heap_alloc_new w5 (.cells zf 29))
  have HI7 : Hid ((Tryd.prog.info? 29).map (·.size) = some (fcs 81 0).size) := infoF8
  have HA7 := hide (fcs_all 81 0)
  have HG6 := hide hmk.2
  have HV6 := hide ((hb36.block _ (blk_lt HV3.out)).trans HV3.out)
  have HF6 := hide ((hb36.block _ (blk_lt HG3.out)).trans HG3.out)
  have HC6 := hide (HC3.out.move (keep_below hb36))
  have HB6 : Hid (Below w.heap.size w ((w5.alloc (.cells zf 29)).setRow w5.heap.size (fcs 81 0))) := HB3.out.trans (hb36.mono HB3.out.size)
  clear hbw4 hb5 hb35 hmk hb36 HL4 HS4 HV3 HG3 HC3 HB3
  go_upto_region 3 with (refine wpList_storeRow rfl rfl w5.heap.size zf (fcs 81 0) 29 rfl rfl HN7.out HI7.out rfl HA7.out ?_)
  (try simp only [Act.put]); (try simp only [List.setIfInBounds_toArray, List.set_cons_zero, List.set_cons_succ])
  unfold zf at HG6 HV6 HF6 HC6 HB6
  generalize (w5.alloc (.cells #[.int .i64 0, .int .i64 0] 29)).setRow w5.heap.size (fcs 81 0) = w6 at *
  clear HN7
  obtain ⟨hc13, k0, gb, off, cap, k12, k18⟩ := rv4_cells HC6.out
  have c0 : w6.cell? ⟨w2.heap.size, 0, none⟩ = some (.int .i64 8) := blk_cell HV6.out k0
  have c12 : w6.cell? ⟨w2.heap.size, 12, none⟩ = some (.slice (some ⟨gb, off, none⟩) 2 cap) := blk_cell HV6.out k12
  clear hc13 k0 k12
  go_wp2_with (first
    | (refine wpList_execW rfl (exec_fltAt (g := w2.heap.size + 1) (c := fcs 0 0) rfl rfl rfl HF6.out) ?_)
    | (refine wpList_execW rfl (exec_fltAt (g := w5.heap.size) (c := fcs 81 0) rfl rfl rfl HG6.out) ?_)
    | (refine wpList_execW rfl (exec_eqflt (e := 0) (p := 0) (e' := 0) (p' := 0) rfl rfl rfl) ?_)
    | (refine wpList_execW rfl (exec_eqflt (e := 81) (p := 0) (e' := 81) (p' := 0) rfl rfl rfl) ?_))
  go_ret
  exact ⟨rfl, HB6.out⟩
end
section
open Go.RowKit Go
set_option maxRecDepth 1000000 in
theorem within8_any (m : Int) (n : Nat) (h0 : 0 < n) (h1 : n ≤ 1025) (w : World) : Calls Tryd.prog 5 #[.int .i64 m, .int .i64 (n : Nat)] w fun e w' => ∃ k : Nat, k < n ∧ e = .returned (.int .i64 (k : Nat)) ∧ w' = w := by
  obtain ⟨q, hq⟩ : ∃ q : Int, q = (n : Int) := ⟨_, rfl⟩
  have hq1 : 0 < q := by omega
  have hq2 : q ≤ 1025 := by omega
  rw [← hq]
  have h1 : -q < m.tmod q ∧ m.tmod q < q := by
    by_cases h : 0 ≤ m
    · rw [Int.tmod_eq_emod_of_nonneg h]; exact ⟨by have := Int.emod_nonneg m (show q ≠ 0 by omega); omega, Int.emod_lt_of_pos m hq1⟩
    · have e : m = -(-m) := by omega
      have h2 := Int.emod_nonneg (-m) (show q ≠ 0 by omega)
      have h3 := Int.emod_lt_of_pos (-m) hq1
      rw [e, Int.neg_tmod, Int.tmod_eq_emod_of_nonneg (by omega)]; omega
  have hz : (q == 0) = false := beq_eq_false_iff_ne.2 (by omega)
  have HQ := hide hq
  clear hq
  by_cases hneg : m.tmod q < 0
  · go_enter Tryd.func5, Tryd.ntmps5
    go_wp2
    go_ret
    refine ⟨(m.tmod q + q).toNat, by have := HQ.out; omega, ?_, rfl⟩
    rw [Int.toNat_of_nonneg (by omega)]
    rfl
  · go_enter Tryd.func5, Tryd.ntmps5
    go_wp2
    go_ret
    refine ⟨(m.tmod q).toNat, by have := HQ.out; omega, ?_, rfl⟩
    rw [Int.toNat_of_nonneg (by omega)]
    rfl
theorem num8_any (w : World) (e : Int) : Calls Tryd.prog 8 #[.int .i64 e] w fun x w' => x = .returned (.int .i64 e) ∧ w' = w := by
  go_enter Tryd.func8, Tryd.ntmps8
  go_wp2
  go_ret
  exact ⟨rfl, rfl⟩
end
end Go.Proofs.YtadilnmkjcmnnaaDoor

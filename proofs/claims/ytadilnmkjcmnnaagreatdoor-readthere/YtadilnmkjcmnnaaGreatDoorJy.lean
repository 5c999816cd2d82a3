import Derived.Test.YtadilnmkjcmnnaaGreatDoorJx
namespace Go.Proofs.YtadilnmkjcmnnaaGreatDoor
section
open Go.RowKit Go
theorem infoF8 : (Tryz.prog.info? 72).map (·.size) = some 2 := by kernel_rfl
theorem infoM8 : (Tryz.prog.info? 94).map (·.size) = some 4 := by kernel_rfl
/-- A fault's cells. -/
def fcs (e p : Nat) : Array Value := #[.int .i64 (e : Nat), .int .i64 (p : Nat)]
theorem fcs_all (e p : Nat) : (fcs e p).all (·.oneCell') = true := by
  rw [Array.all_eq_true']
  intro u hu
  simp only [fcs, List.mem_toArray, List.mem_cons, List.not_mem_nil, or_false] at hu
  rcases hu with rfl | rfl <;> rfl
theorem exec_fltAt {o : Oper} {a : Act} {p : Operand} {g : Nat} {c : Array Value} {w : World} (ho : o.op = .load 72 p) (hp : a.eval p = .pointer (some ⟨g, 0, none⟩)) (hn : c.size = 2) (hg : w.heap[g]? = some (.cells c 72 (0, 0))) : (execOp a.eval o).run Tryz.prog w = .ok (.value (.agg c)) w := by
  have h1 := run_loadVar_row (P := Tryz.prog) w g 72 72 c (0, 0) _ hg Tryz.underlying72 rfl (by rw [hn]; exact infoF8)
  unfold execOp
  simp only [ho, Sem.run_bind, hp, Instr.loadAt, Instr.sureAddr, Sem.run_pure, Result.andThen, h1]
theorem results_ctc {fn : Func} {p u q : Tmp} {ty ty' : TypeId} (h : fn.results = #[.cell p ty, .tmp u, .cell q ty']) (tmps : Array Value) (P : Program) (w : World) :
    (results fn tmps).run P w = ((asAddr (tmps.getD p undef)).run P w).andThen fun a w₁ => ((loadVar ty a).run P w₁).andThen fun v w₂ => ((asAddr (tmps.getD q undef)).run P w₂).andThen fun b w₃ => ((loadVar ty' b).run P w₃).andThen fun x w₄ => .ok (.tuple #[v, tmps.getD u undef, x]) w₄ := by
  simp only [results, h]
  simp [Sem.run_bind, Result.andThen]
theorem results_cc {fn : Func} {p q : Tmp} {ty ty' : TypeId} (h : fn.results = #[.cell p ty, .cell q ty']) (tmps : Array Value) (P : Program) (w : World) :
    (results fn tmps).run P w = ((asAddr (tmps.getD p undef)).run P w).andThen fun a w₁ => ((loadVar ty a).run P w₁).andThen fun v w₂ => ((asAddr (tmps.getD q undef)).run P w₂).andThen fun b w₃ => ((loadVar ty' b).run P w₃).andThen fun x w₄ => .ok (.tuple #[v, x]) w₄ := by
  simp only [results, h]
  simp [Sem.run_bind, Result.andThen]
theorem end_first {wx : World} {R F : Nat} {c f : Array Value} {n : Int} {tmps : Array Value} (hn : c.size = 13) (hr : wx.heap[R]? = some (.cells c 62 (0, 0))) (hf : f.size = 2) (hfr : wx.heap[F]? = some (.cells f 72 (0, 0))) (hp : tmps.getD 4 undef = .pointer (some ⟨R, 0, none⟩)) (hm : tmps.getD 5 undef = .int .i64 n) (hq : tmps.getD 6 undef = .pointer (some ⟨F, 0, none⟩)) : (results Tryz.f24 tmps).run Tryz.prog wx = .ok (.tuple #[.agg c, .int .i64 n, .agg f]) wx := by
  have h1 := run_loadVar_row (P := Tryz.prog) wx R 62 62 c (0, 0) _ hr Tryz.underlying62 rfl (by rw [hn]; exact infoV)
  have h2 := run_loadVar_row (P := Tryz.prog) wx F 72 72 f (0, 0) _ hfr Tryz.underlying72 rfl (by rw [hf]; exact infoF8)
  refine (results_ctc rfl _ _ _).trans ?_
  rw [hp, hm, hq]
  simp [asAddr, h1, h2, Result.andThen]
theorem end_decode {wx : World} {R F : Nat} {c f : Array Value} {tmps : Array Value} (hn : c.size = 13) (hr : wx.heap[R]? = some (.cells c 62 (0, 0))) (hf : f.size = 2) (hfr : wx.heap[F]? = some (.cells f 72 (0, 0))) (hp : tmps.getD 4 undef = .pointer (some ⟨R, 0, none⟩)) (hq : tmps.getD 5 undef = .pointer (some ⟨F, 0, none⟩)) : (results Tryz.f20 tmps).run Tryz.prog wx = .ok (.tuple #[.agg c, .agg f]) wx := by
  have h1 := run_loadVar_row (P := Tryz.prog) wx R 62 62 c (0, 0) _ hr Tryz.underlying62 rfl (by rw [hn]; exact infoV)
  have h2 := run_loadVar_row (P := Tryz.prog) wx F 72 72 f (0, 0) _ hfr Tryz.underlying72 rfl (by rw [hf]; exact infoF8)
  refine (results_cc rfl _ _ _).trans ?_
  rw [hp, hq]
  simp [asAddr, h1, h2, Result.andThen]
theorem end_check {wx : World} {F : Nat} {f : Array Value} {tmps : Array Value} (hf : f.size = 2) (hfr : wx.heap[F]? = some (.cells f 72 (0, 0))) (hq : tmps.getD 4 undef = .pointer (some ⟨F, 0, none⟩)) : (results Tryz.f25 tmps).run Tryz.prog wx = .ok (.agg f) wx := by
  have h2 := run_loadVar_row (P := Tryz.prog) wx F 72 72 f (0, 0) _ hfr Tryz.underlying72 rfl (by rw [hf]; exact infoF8)
  refine (results_one (p := 4) (ty := 72) rfl _ _ _).trans ?_
  rw [hq]
  simp [asAddr, h2, Result.andThen]
/-- A fault has no tree. -/
theorem mrun_bad {b : List Nat} {d : Nat} : ∀ {n : Nat} {s : Mst} {r : Res}, mrun b d n s = some r → r.e ≠ 0 → r.v = tz8 0
  | 0, _, _, h, _ => by cases h
  | n + 1, s, r, h, he => by
    cases hs : mstep b d s with
    | inl s' =>
      rw [mrun_next hs] at h
      exact mrun_bad h he
    | inr r' =>
      rw [mrun_end hs] at h
      injection h with h
      subst h
      obtain ⟨lab, p, st⟩ := s
      revert hs
      cases lab with
      | plain =>
        unfold mstep
        dsimp only
        repeat' split
        all_goals (intro h; first | (cases h; done) | (injection h with h; rw [← h]))
      | name =>
        unfold mstep
        dsimp only
        repeat' split
        all_goals (intro h; first | (cases h; done) | (injection h with h; rw [← h]))
      | done v =>
        cases st with
        | nil =>
          intro h
          injection h with h
          rw [← h] at he
          exact absurd rfl he
        | cons x q => intro h; cases h
      | inside =>
        cases st with
        | nil =>
          intro h
          injection h with h
          rw [← h]
        | cons x q =>
          unfold mstep
          dsimp only
          repeat' split
          all_goals (intro h; first | (cases h; done) | (injection h with h; rw [← h]))
def zf : Array Value := #[.int .i64 0, .int .i64 0]
def zm8 : Array Value := #[.slice none 0 0, .int .i64 0, .int .i64 0, .slice none 0 0]
theorem mac_all (aB : Option Addr) (n cB : Nat) (d : Int) : (#[.slice aB n cB, .int .i64 0, .int .i64 d, .slice none 0 0] : Array Value).all (·.oneCell') = true := by
  rw [Array.all_eq_true']
  intro u hu
  simp only [List.mem_toArray, List.mem_cons, List.not_mem_nil, or_false] at hu
  rcases hu with rfl | rfl | rfl | rfl <;> rfl
theorem row_mk8 (w : World) (z c : Array Value) (t : TypeId) : Below w.heap.size w ((w.alloc (.cells z t)).setRow w.heap.size c) ∧ ((w.alloc (.cells z t)).setRow w.heap.size c).heap[w.heap.size]? = some (.cells c t (0, 0)) :=
  ⟨(below_alloc4 w _).trans ((row_kp _ _ _).below (below_alloc4 w _).size (fun q e => by omega)), row_same (heap_alloc_new w _)⟩
/-- What First tells. -/
def FirstP (w : World) (r : Res) (e : Ending) (w' : World) : Prop := Below w.heap.size w w' ∧ ∃ c, e = .returned (.tuple #[.agg c, .int .i64 ((if r.e = 0 then r.p else 0 : Nat) : Int), .agg (fcs r.e (if r.e = 0 then 0 else r.p))]) ∧ Tis w' (fun q => q < w.heap.size) r.v c
theorem FirstP.mk {w w' : World} {r : Res} {c f : Array Value} {n : Nat} (hn : n = if r.e = 0 then r.p else 0) (hf : f = fcs r.e (if r.e = 0 then 0 else r.p)) (hb : Below w.heap.size w w') (ht : Tis w' (fun q => q < w.heap.size) r.v c) : FirstP w r (.returned (.tuple #[.agg c, .int .i64 (n : Nat), .agg f])) w' := by
  subst hn
  subst hf
  exact ⟨hb, c, rfl, ht⟩
/-- Where First stands: its answers' blocks. -/
structure Fst8 (w wx : World) (c f : Array Value) : Prop where
  b : Below w.heap.size w wx
  r : wx.heap[w.heap.size]? = some (.cells c 62 (0, 0))
  f : wx.heap[w.heap.size + 1]? = some (.cells f 72 (0, 0))
theorem Fst8.next {w wx wy : World} {c f : Array Value} (h : Fst8 w wx c f) (hb : Below (w.heap.size + 2) wx wy) : Fst8 w wy c f :=
  ⟨h.b.trans (hb.mono (by omega)), (hb.block _ (by omega)).trans h.r, (hb.block _ (by omega)).trans h.f⟩
theorem Fst8.setR {w wx : World} {c f : Array Value} (h : Fst8 w wx c f) (c' : Array Value) : Fst8 w (wx.setRow w.heap.size c') c' f := by
  have hk := row_kp wx w.heap.size c'
  exact ⟨h.b.trans (hk.below h.b.size (fun q e => by omega)), row_same h.r, (hk.block _ (blk_lt h.f) (by omega)).trans h.f⟩
theorem Fst8.setF {w wx : World} {c f : Array Value} (h : Fst8 w wx c f) (f' : Array Value) : Fst8 w (wx.setRow (w.heap.size + 1) f') c f' := by
  have hk := row_kp wx (w.heap.size + 1) f'
  exact ⟨h.b.trans (hk.below h.b.size (fun q e => by omega)), (hk.block _ (blk_lt h.r) (by omega)).trans h.r, row_same h.f⟩
set_option maxRecDepth 1000000 in
set_option maxHeartbeats 4000000 in
theorem first8_any (W : World) (hT : Tabs W) (w : World) (hW : Below W.heap.size W w) (vB : Value) (b : List Nat) (hB : BSl w vB b) (hBq : ∀ q, vB.ownBlock = some q → q < w.heap.size) (hbl : b.length ≤ 8388608) (d : Nat) (hd : d ≤ 1024) (N : Nat) (R : Res) (hR : mrun b d N m0 = some R) :
    Calls Tryz.prog 24 #[vB, .int .i64 (d : Nat)] w (FirstP w R) := by
  have HT := hide hT
  have HWW := hide hW
  have HB := hide hB
  have HBq := hide hBq
  have HBL := hide hbl
  have HRR := hide hR
  obtain ⟨⟨aB, cB, hvB, _⟩, _⟩ := hB
  subst hvB
  have hb0 := below_alloc4 w (.cells zv 62)
  have hb1 := below_alloc4 (w.alloc (.cells zv 62)) (.cells zf 72)
  have hs1 : (w.alloc (.cells zv 62)).heap.size = w.heap.size + 1 := by simp
  have hs2 : ((w.alloc (.cells zv 62)).alloc (.cells zf 72)).heap.size = w.heap.size + 2 := by simp
  have HF2 : Hid (Fst8 w ((w.alloc (.cells zv 62)).alloc (.cells zf 72)) zv zf) := by
    refine ⟨hb0.trans (hb1.mono hb0.size), ?_, ?_⟩
    · have h := heap_alloc_new w (.cells zv 62)
      exact (hb1.block _ (blk_lt h)).trans h
    · have h := heap_alloc_new (w.alloc (.cells zv 62)) (.cells zf 72)
      rw [hs1] at h
      exact h
  have HS2 := hide hs2
  have g1 : ¬ (d : Int) < 0 := by omega
  have g2 : ¬ (1024 : Int) < (d : Int) := by omega
  have HD := hide hd
  clear hT hW hBq hbl hR hb0 hb1 hs1 hs2 hd
  unfold zv zf at HF2 HS2
  go_enter Tryz.func24, Tryz.ntmps24
  go_upto_region 3 with fail
  clear g1 g2
  generalize (w.alloc (.cells #[.int .i64 0, .bool false, .bool false, .int .u64 0, .int .u64 0, .string ⟨#[]⟩, .slice none 0 0, .int .i64 0, .int .u64 0, .int .u64 0, .string ⟨#[]⟩, .slice none 0 0, .slice none 0 0] 62)).alloc (.cells #[.int .i64 0, .int .i64 0] 72) = w2 at *
  have HF2 : Hid (Fst8 w w2 zv zf) := HF2
  have hmk := row_mk8 w2 zm8 #[.slice aB b.length cB, .int .i64 0, .int .i64 (d : Nat), .slice none 0 0] 94
  have HN3 := hide (heap_alloc_new w2 (.cells zm8 94))
  have HI3 : Hid ((Tryz.prog.info? 94).map (·.size) = some (#[.slice aB b.length cB, .int .i64 0, .int .i64 (d : Nat), .slice none 0 0] : Array Value).size) := infoM8
  have HA3 := hide (mac_all aB b.length cB (d : Nat))
  have HB3 := hide hmk.1
  have HG3 := hide hmk.2
  clear hmk
  go_wp2_with (refine wpList_storeRow rfl rfl w2.heap.size zm8 #[.slice aB b.length cB, .int .i64 0, .int .i64 (d : Nat), .slice none 0 0] 94 rfl rfl HN3.out HI3.out rfl HA3.out ?_)
  unfold zm8 at HB3 HG3
  generalize (w2.alloc (.cells #[.slice none 0 0, .int .i64 0, .int .i64 0, .slice none 0 0] 94)).setRow w2.heap.size #[.slice aB b.length cB, .int .i64 0, .int .i64 (d : Nat), .slice none 0 0] = w3 at *
  have hbw3 : Below w.heap.size w w3 := HF2.out.b.trans (HB3.out.mono HF2.out.b.size)
  have HM3 : Hid (w2.heap.size < w3.heap.size) := blk_lt HG3.out
  refine (run8_any W HT.out w3 (HWW.out.trans (hbw3.mono HWW.out.size)) w2.heap.size (Nat.le_trans HWW.out.size HF2.out.b.size) HM3.out _ b (HB.out.move (keep_below hbw3)) (fun q hq => by have h1 := HBq.out q hq; have h2 := HS2.out; have h3 := HM3.out; omega) HBL.out d (by have := HD.out; omega) HG3.out N R HRR.out).mono ?_
  rintro e w4 ⟨hk4, c, vo, rfl, hm4, ht4⟩
  have hb4 : Below (w.heap.size + 2) w2 w4 := (HB3.out.mono (by have := HS2.out; omega)).trans (hk4.below (by have := HM3.out; have := HS2.out; omega) (fun q e => by have := HS2.out; omega))
  have HF4 := hide (HF2.out.next hb4)
  have HM4 := hide hm4
  have HT4 := hide ht4
  have HZ4 : Hid (w2.heap.size < w4.heap.size) := blk_lt hm4
  have hmk := itm_mk8 w4 c
  have HN5 := hide (heap_alloc_new w4 (.cells zv 62))
  have HI5 : Hid ((Tryz.prog.info? 62).map (·.size) = some c.size) := by show _ = _; rw [ht4.tin.size13]; exact infoV
  have HZ5 : Hid (zv.size = c.size) := by show _ = _; rw [ht4.tin.size13]; rfl
  have HC13 := hide ht4.tin.size13
  have HA5 := hide ht4.tin.all1
  have HF5 := hide (HF4.out.next (hmk.1.mono (by have := HZ4.out; have := HS2.out; omega)))
  have HM5 : Hid (((w4.alloc (.cells zv 62)).setRow w4.heap.size c).heap[w2.heap.size]? = _) := (hmk.1.block _ (blk_lt hm4)).trans hm4
  have HT5 : Hid (Tis ((w4.alloc (.cells zv 62)).setRow w4.heap.size c) (fun q => q < w3.heap.size) R.v c) := ht4.kp (Kp.of_below hmk.1)
  have HV5 := hide hmk.2
  have HW5 : Hid (w.heap.size + 2 ≤ w3.heap.size) := by show _ ≤ _; have := HM3.out; have := HS2.out; omega
  have HEB : Hid (R.e ≠ 0 → R.v = tz8 0) := mrun_bad HRR.out
  have HWS : Hid (w2.heap.size = w.heap.size + 2) := HS2.out
  clear hbw3 hk4 hm4 ht4 hb4 hmk HF2 HB3 HG3 HN3 HM3 HM4 HT4 HF4 HS2
  go_upto_region 5 with (refine wpList_storeRow rfl rfl w4.heap.size zv c 62 rfl rfl HN5.out HI5.out HZ5.out HA5.out ?_)
  unfold zv at HF5 HM5 HT5 HV5
  generalize (w4.alloc (.cells #[.int .i64 0, .bool false, .bool false, .int .u64 0, .int .u64 0, .string ⟨#[]⟩, .slice none 0 0, .int .i64 0, .int .u64 0, .int .u64 0, .string ⟨#[]⟩, .slice none 0 0, .slice none 0 0] 62)).setRow w4.heap.size c = w5 at *
  have HF5 : Hid (Fst8 w w5 zv zf) := HF5
  have HIR : Hid ((Tryz.prog.info? 62).map (·.size) = some zv.size) := infoV
  have HZA := hide zv_all8
  obtain ⟨re, rp, rv⟩ := R
  simp only at HM5 HT5 HEB
  by_cases h0 : re = 0
  case neg => as_aux_lemma =>
    have gk : ((re : Int) != 0) = true := by rw [bne_iff_ne]; omega
    have HRV := hide (HEB.out h0)
    have HR5 := hide HF5.out.r
    have HFF := hide (HF5.out.setR zv).f
    have HIF : Hid ((Tryz.prog.info? 72).map (·.size) = some (fcs re rp).size) := infoF8
    have HAF := hide (fcs_all re rp)
    have HE1 : Hid (0 = if re = 0 then rp else 0) := by show _ = _; rw [if_neg h0]
    have HE2 : Hid (fcs re rp = fcs re (if re = 0 then 0 else rp)) := by show _ = _; rw [if_neg h0]
    clear h0
    go_upto_region 6 with fail
    refine heldStart (S := fun wy => wy.heap[w2.heap.size]? = some (.cells #[.slice aB b.length cB, .int .i64 (rp : Nat), .int .i64 (d : Nat), vo] 94 (0, 0))) (by kernel_rfl) ?_
    have hS : w5.drew.heap[w2.heap.size]? = some (.cells #[.slice aB b.length cB, .int .i64 (rp : Nat), .int .i64 (d : Nat), vo] 94 (0, 0)) := HM5.out
    refine heldTake 0 _ rfl (by kernel_rfl) (by kernel_rfl) (by kernel_rfl) (fun _ _ _ h => h) rfl hS (fun wy hy => by first | (go_simp; done) | (go_simp; rfl) | rfl) ?_
    (try simp only [Act.put]); (try simp only [List.setIfInBounds_toArray, List.set_cons_zero, List.set_cons_succ])
    refine heldTake 1 _ rfl (by kernel_rfl) (by kernel_rfl) (by kernel_rfl) (fun _ _ _ h => h) rfl hS (fun wy hy => by first | (go_simp; done) | (go_simp; rfl) | rfl) ?_
    (try simp only [Act.put]); (try simp only [List.setIfInBounds_toArray, List.set_cons_zero, List.set_cons_succ])
    refine heldTake 2 _ rfl (by kernel_rfl) (by kernel_rfl) (by kernel_rfl) (fun _ _ _ h => h) rfl hS (fun wy hy => by first | (go_simp; done) | (go_simp; rfl) | rfl) ?_
    (try simp only [Act.put]); (try simp only [List.setIfInBounds_toArray, List.set_cons_zero, List.set_cons_succ])
    refine heldTake 3 _ rfl (by kernel_rfl) (by kernel_rfl) (by kernel_rfl) (fun _ _ _ h => h) rfl hS (fun wy hy => by have h0 := blk_cell (j := 1) (v := .int .i64 (rp : Nat)) hy rfl; first | (go_simp; done) | (go_simp; rfl) | rfl) ?_
    (try simp only [Act.put]); (try simp only [List.setIfInBounds_toArray, List.set_cons_zero, List.set_cons_succ])
    refine heldTake 4 _ rfl (by kernel_rfl) (by kernel_rfl) (by kernel_rfl) (fun _ _ _ h => h) rfl hS (fun wy hy => by first | (go_simp; done) | (go_simp; rfl) | rfl) ?_
    (try simp only [Act.put]); (try simp only [List.setIfInBounds_toArray, List.set_cons_zero, List.set_cons_succ])
    refine heldStep 5 rfl (by kernel_rfl) (fun K hK => ?_)
    refine step_storeRow rfl rfl w.heap.size zv zv 62 rfl rfl HR5.out HIR.out rfl HZA.out ?_
    have hrk := row_kp w5.drew w.heap.size zv
    refine (Hid.out hK) _ _ ((hrk.block _ (blk_lt hS) (by have := HWS.out; omega)).trans hS) (fun hS4 => ?_)
    clear hK K hS
    (try simp only [Act.put]); (try simp only [List.setIfInBounds_toArray, List.set_cons_zero, List.set_cons_succ])
    refine heldTake 6 _ rfl (by kernel_rfl) (by kernel_rfl) (by kernel_rfl) (fun _ _ _ h => h) rfl hS4 (fun wy hy => by first | (go_simp; done) | (go_simp; rfl) | rfl) ?_
    (try simp only [Act.put]); (try simp only [List.setIfInBounds_toArray, List.set_cons_zero, List.set_cons_succ])
    refine heldStep 7 rfl (by kernel_rfl) (fun K hK => ?_)
    refine step_storeRow rfl rfl (w.heap.size + 1) zf (fcs re rp) 72 rfl rfl HFF.out HIF.out rfl HAF.out ?_
    have hrk2 := row_kp (w5.drew.setRow w.heap.size zv) (w.heap.size + 1) (fcs re rp)
    refine (Hid.out hK) _ _ ((hrk2.block _ (blk_lt hS4) (by have := HWS.out; omega)).trans hS4) (fun hS5 => ?_)
    clear hK K hS4
    (try simp only [Act.put]); (try simp only [List.setIfInBounds_toArray, List.set_cons_zero, List.set_cons_succ])
    refine heldDone (by kernel_rfl) ?_
    clear hS5
    go_wp2_with fail
    have hFD : Fst8 w w5.drew zv zf := HF5.out.next (by refine Below.drew ?_; exact Below.refl _ _)
    have hFE := (hFD.setR zv).setF (fcs re rp)
    exact bodyPost_ret (end_first rfl hFE.r rfl hFE.f rfl rfl rfl) rfl (FirstP.mk (r := ⟨re, rp, rv⟩) HE1.out HE2.out hFE.b (by rw [show (Res.mk re rp rv).v = tz8 0 from HRV.out]; exact tz8_tis _ _))
  as_aux_lemma =>
    have gk : ((re : Int) != 0) = false := by rw [bne_eq_false_iff_eq]; omega
    have HR5 := hide HF5.out.r
    have HFF := hide (HF5.out.setR c).f
    have HIF : Hid ((Tryz.prog.info? 72).map (·.size) = some zf.size) := infoF8
    have HAF : Hid (zf.all (·.oneCell') = true) := fcs_all 0 0
    have HE1 : Hid (rp = if re = 0 then rp else 0) := by show _ = _; rw [if_pos h0]
    have HE2 : Hid (zf = fcs re (if re = 0 then 0 else rp)) := by show _ = _; rw [if_pos h0, h0]; rfl
    clear h0
    go_upto_region 7 with fail
    refine heldStart (S := fun wy => wy.heap[w2.heap.size]? = some (.cells #[.slice aB b.length cB, .int .i64 (rp : Nat), .int .i64 (d : Nat), vo] 94 (0, 0)) ∧ wy.heap[w4.heap.size]? = some (.cells c 62 (0, 0))) (by kernel_rfl) ?_
    have hS : w5.drew.heap[w2.heap.size]? = some (.cells #[.slice aB b.length cB, .int .i64 (rp : Nat), .int .i64 (d : Nat), vo] 94 (0, 0)) ∧ w5.drew.heap[w4.heap.size]? = some (.cells c 62 (0, 0)) := ⟨HM5.out, HV5.out⟩
    refine heldTake 0 (.agg c) rfl (by kernel_rfl) (by kernel_rfl) (by kernel_rfl) (fun _ _ _ h => h) rfl hS (fun wy hy => exec_valAt (g := w4.heap.size) (off := 0) (cs := c) rfl rfl HC13.out (fun j u hu => by rw [Nat.zero_add]; exact blk_cell hy.2 hu)) ?_
    (try simp only [Act.put]); (try simp only [List.setIfInBounds_toArray, List.set_cons_zero, List.set_cons_succ])
    refine heldTake 1 _ rfl (by kernel_rfl) (by kernel_rfl) (by kernel_rfl) (fun _ _ _ h => h) rfl hS (fun wy hy => by first | (go_simp; done) | (go_simp; rfl) | rfl) ?_
    (try simp only [Act.put]); (try simp only [List.setIfInBounds_toArray, List.set_cons_zero, List.set_cons_succ])
    refine heldTake 2 _ rfl (by kernel_rfl) (by kernel_rfl) (by kernel_rfl) (fun _ _ _ h => h) rfl hS (fun wy hy => by have h0 := blk_cell (j := 1) (v := .int .i64 (rp : Nat)) hy.1 rfl; first | (go_simp; done) | (go_simp; rfl) | rfl) ?_
    (try simp only [Act.put]); (try simp only [List.setIfInBounds_toArray, List.set_cons_zero, List.set_cons_succ])
    refine heldTake 3 _ rfl (by kernel_rfl) (by kernel_rfl) (by kernel_rfl) (fun _ _ _ h => h) rfl hS (fun wy hy => by first | (go_simp; done) | (go_simp; rfl) | rfl) ?_
    (try simp only [Act.put]); (try simp only [List.setIfInBounds_toArray, List.set_cons_zero, List.set_cons_succ])
    refine heldStep 4 rfl (by kernel_rfl) (fun K hK => ?_)
    refine step_storeRow rfl rfl w.heap.size zv c 62 rfl rfl HR5.out HI5.out HZ5.out HA5.out ?_
    have hrk := row_kp w5.drew w.heap.size c
    refine (Hid.out hK) _ _ ⟨(hrk.block _ (blk_lt hS.1) (by have := HWS.out; omega)).trans hS.1, (hrk.block _ (blk_lt hS.2) (by have := HWS.out; have := HZ4.out; omega)).trans hS.2⟩ (fun hS4 => ?_)
    clear hK K hS
    (try simp only [Act.put]); (try simp only [List.setIfInBounds_toArray, List.set_cons_zero, List.set_cons_succ])
    refine heldTake 5 _ rfl (by kernel_rfl) (by kernel_rfl) (by kernel_rfl) (fun _ _ _ h => h) rfl hS4 (fun wy hy => by first | (go_simp; done) | (go_simp; rfl) | rfl) ?_
    (try simp only [Act.put]); (try simp only [List.setIfInBounds_toArray, List.set_cons_zero, List.set_cons_succ])
    refine heldStep 6 rfl (by kernel_rfl) (fun K hK => ?_)
    refine step_storeRow rfl rfl (w.heap.size + 1) zf zf 72 rfl rfl HFF.out HIF.out rfl HAF.out ?_
    have hrk2 := row_kp (w5.drew.setRow w.heap.size c) (w.heap.size + 1) zf
    refine (Hid.out hK) _ _ ⟨(hrk2.block _ (blk_lt hS4.1) (by have := HWS.out; omega)).trans hS4.1, (hrk2.block _ (blk_lt hS4.2) (by have := HWS.out; have := HZ4.out; omega)).trans hS4.2⟩ (fun hS5 => ?_)
    clear hK K hS4
    (try simp only [Act.put]); (try simp only [List.setIfInBounds_toArray, List.set_cons_zero, List.set_cons_succ])
    refine heldDone (by kernel_rfl) ?_
    clear hS5
    go_wp2_with fail
    have hFD : Fst8 w w5.drew zv zf := HF5.out.next (by refine Below.drew ?_; exact Below.refl _ _)
    have hFE := (hFD.setR c).setF zf
    have hkk : Kp (fun q => q < w3.heap.size) w5 ((w5.drew.setRow w.heap.size c).setRow (w.heap.size + 1) zf) := ((Kp.refl (fun q => q < w3.heap.size) w5).drew.trans hrk (fun q _ e => by have := HW5.out; omega)).trans hrk2 (fun q _ e => by have := HW5.out; omega)
    exact bodyPost_ret (end_first HC13.out hFE.r rfl hFE.f rfl rfl rfl) rfl (FirstP.mk (r := ⟨re, rp, rv⟩) HE1.out HE2.out hFE.b ((HT5.out.kp hkk).mono (fun q hq => by have := HW5.out; omega)))
end
end Go.Proofs.YtadilnmkjcmnnaaGreatDoor

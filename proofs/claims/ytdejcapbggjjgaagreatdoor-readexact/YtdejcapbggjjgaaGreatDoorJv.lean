import Derived.Test.YtdejcapbggjjgaaGreatDoorJu
import Derived.Test.YtdejcapbggjjgaaGreatDoorJb
import Derived.Test.YtdejcapbggjjgaaGreatDoorJd
import Derived.Test.YtdejcapbggjjgaaGreatDoorJf
import Derived.Test.YtdejcapbggjjgaaGreatDoorJe
import Derived.Test.YtdejcapbggjjgaaGreatDoorJi
import Derived.Test.YtdejcapbggjjgaaGreatDoorJa
namespace Go.Proofs.YtdejcapbggjjgaaGreatDoor
section
open Go.RowKit Go
theorem infoF8 : (Tryz.prog.info? 64).map (·.size) = some 2 := by kernel_rfl
theorem infoM8 : (Tryz.prog.info? 74).map (·.size) = some 4 := by kernel_rfl
/-- A fault's cells. -/
def fcs (e p : Nat) : Array Value := #[.int .i64 (e : Nat), .int .i64 (p : Nat)]
theorem fcs_all (e p : Nat) : (fcs e p).all (·.oneCell') = true := by
  rw [Array.all_eq_true']
  intro u hu
  simp only [fcs, List.mem_toArray, List.mem_cons, List.not_mem_nil, or_false] at hu
  rcases hu with rfl | rfl <;> rfl
theorem exec_fltAt {o : Oper} {a : Act} {p : Operand} {g : Nat} {c : Array Value} {w : World} (ho : o.op = .load 64 p) (hp : a.eval p = .pointer (some ⟨g, 0, none⟩)) (hn : c.size = 2) (hg : w.heap[g]? = some (.cells c 64 (0, 0))) : (execOp a.eval o).run Tryz.prog w = .ok (.value (.agg c)) w := by
  have h1 := run_loadVar_row (P := Tryz.prog) w g 64 64 c (0, 0) _ hg Tryz.underlying64 rfl (by rw [hn]; exact infoF8)
  unfold execOp
  simp only [ho, Sem.run_bind, hp, Instr.loadAt, Instr.sureAddr, Sem.run_pure, Result.andThen, h1]
theorem results_ctc {fn : Func} {p u q : Tmp} {ty ty' : TypeId} (h : fn.results = #[.cell p ty, .tmp u, .cell q ty']) (tmps : Array Value) (P : Program) (w : World) :
    (results fn tmps).run P w = ((asAddr (tmps.getD p undef)).run P w).andThen fun a w₁ => ((loadVar ty a).run P w₁).andThen fun v w₂ => ((asAddr (tmps.getD q undef)).run P w₂).andThen fun b w₃ => ((loadVar ty' b).run P w₃).andThen fun x w₄ => .ok (.tuple #[v, tmps.getD u undef, x]) w₄ := by
  simp only [results, h]
  simp [Sem.run_bind, Result.andThen]
theorem results_cc {fn : Func} {p q : Tmp} {ty ty' : TypeId} (h : fn.results = #[.cell p ty, .cell q ty']) (tmps : Array Value) (P : Program) (w : World) :
    (results fn tmps).run P w = ((asAddr (tmps.getD p undef)).run P w).andThen fun a w₁ => ((loadVar ty a).run P w₁).andThen fun v w₂ => ((asAddr (tmps.getD q undef)).run P w₂).andThen fun b w₃ => ((loadVar ty' b).run P w₃).andThen fun x w₄ => .ok (.tuple #[v, x]) w₄ := by
  simp only [results, h]
  simp [Sem.run_bind, Result.andThen]
theorem end_first {wx : World} {R F : Nat} {c f : Array Value} {n : Int} {tmps : Array Value} (hn : c.size = 13) (hr : wx.heap[R]? = some (.cells c 61 (0, 0))) (hf : f.size = 2) (hfr : wx.heap[F]? = some (.cells f 64 (0, 0))) (hp : tmps.getD 4 undef = .pointer (some ⟨R, 0, none⟩)) (hm : tmps.getD 5 undef = .int .i64 n) (hq : tmps.getD 6 undef = .pointer (some ⟨F, 0, none⟩)) : (results Tryz.f15 tmps).run Tryz.prog wx = .ok (.tuple #[.agg c, .int .i64 n, .agg f]) wx := by
  have h1 := run_loadVar_row (P := Tryz.prog) wx R 61 61 c (0, 0) _ hr Tryz.underlying61 rfl (by rw [hn]; exact infoV)
  have h2 := run_loadVar_row (P := Tryz.prog) wx F 64 64 f (0, 0) _ hfr Tryz.underlying64 rfl (by rw [hf]; exact infoF8)
  refine (results_ctc rfl _ _ _).trans ?_
  rw [hp, hm, hq]
  simp [asAddr, h1, h2, Result.andThen]
theorem end_decode {wx : World} {R F : Nat} {c f : Array Value} {tmps : Array Value} (hn : c.size = 13) (hr : wx.heap[R]? = some (.cells c 61 (0, 0))) (hf : f.size = 2) (hfr : wx.heap[F]? = some (.cells f 64 (0, 0))) (hp : tmps.getD 4 undef = .pointer (some ⟨R, 0, none⟩)) (hq : tmps.getD 5 undef = .pointer (some ⟨F, 0, none⟩)) : (results Tryz.f13 tmps).run Tryz.prog wx = .ok (.tuple #[.agg c, .agg f]) wx := by
  have h1 := run_loadVar_row (P := Tryz.prog) wx R 61 61 c (0, 0) _ hr Tryz.underlying61 rfl (by rw [hn]; exact infoV)
  have h2 := run_loadVar_row (P := Tryz.prog) wx F 64 64 f (0, 0) _ hfr Tryz.underlying64 rfl (by rw [hf]; exact infoF8)
  refine (results_cc rfl _ _ _).trans ?_
  rw [hp, hq]
  simp [asAddr, h1, h2, Result.andThen]
theorem end_check {wx : World} {F : Nat} {f : Array Value} {tmps : Array Value} (hf : f.size = 2) (hfr : wx.heap[F]? = some (.cells f 64 (0, 0))) (hq : tmps.getD 4 undef = .pointer (some ⟨F, 0, none⟩)) : (results Tryz.f18 tmps).run Tryz.prog wx = .ok (.agg f) wx := by
  have h2 := run_loadVar_row (P := Tryz.prog) wx F 64 64 f (0, 0) _ hfr Tryz.underlying64 rfl (by rw [hf]; exact infoF8)
  refine (results_one (p := 4) (ty := 64) rfl _ _ _).trans ?_
  rw [hq]
  simp [asAddr, h2, Result.andThen]
/-- A fault has no tree. -/
theorem mrun_bad {b : List Nat} {d : Nat} : ∀ {n : Nat} {s : Mst} {r : Res}, mrun b d n s = some r → r.e ≠ 0 → r.v = tz8 0
  | 0, _, _, h, _ => by cases h
  | n + 1, s, r, h, he => by
    cases hs : mstep b d s with
    | inl s' =>
      rw [mrun_next hs] at h
      exact mrun_bad h he
    | inr r' =>
      rw [mrun_end hs] at h
      injection h with h
      subst h
      obtain ⟨lab, p, st⟩ := s
      revert hs
      cases lab with
      | plain =>
        unfold mstep
        dsimp only
        repeat' split
        all_goals (intro h; first | (cases h; done) | (injection h with h; rw [← h]))
      | name =>
        unfold mstep
        dsimp only
        repeat' split
        all_goals (intro h; first | (cases h; done) | (injection h with h; rw [← h]))
      | done v =>
        cases st with
        | nil =>
          intro h
          injection h with h
          rw [← h] at he
          exact absurd rfl he
        | cons x q => intro h; cases h
      | inside =>
        cases st with
        | nil =>
          intro h
          injection h with h
          rw [← h]
        | cons x q =>
          unfold mstep
          dsimp only
          repeat' split
          all_goals (intro h; first | (cases h; done) | (injection h with h; rw [← h]))
def zf : Array Value := #[.int .i64 0, .int .i64 0]
def zm8 : Array Value := #[.slice none 0 0, .int .i64 0, .int .i64 0, .slice none 0 0]
theorem mac_all (aB : Option Addr) (n cB : Nat) (d : Int) : (#[.slice aB n cB, .int .i64 0, .int .i64 d, .slice none 0 0] : Array Value).all (·.oneCell') = true := by
  rw [Array.all_eq_true']
  intro u hu
  simp only [List.mem_toArray, List.mem_cons, List.not_mem_nil, or_false] at hu
  rcases hu with rfl | rfl | rfl | rfl <;> rfl
theorem row_mk8 (w : World) (z c : Array Value) (t : TypeId) : Below w.heap.size w ((w.alloc (.cells z t)).setRow w.heap.size c) ∧ ((w.alloc (.cells z t)).setRow w.heap.size c).heap[w.heap.size]? = some (.cells c t (0, 0)) :=
  ⟨(below_alloc4 w _).trans ((row_kp _ _ _).below (below_alloc4 w _).size (fun q e => by omega)), row_same (heap_alloc_new w _)⟩
/-- What First tells. -/
def FirstP (w : World) (r : Res) (e : Ending) (w' : World) : Prop := Below w.heap.size w w' ∧ ∃ c, e = .returned (.tuple #[.agg c, .int .i64 ((if r.e = 0 then r.p else 0 : Nat) : Int), .agg (fcs r.e (if r.e = 0 then 0 else r.p))]) ∧ Tis w' (fun q => q < w.heap.size) r.v c ∧ Nor w' w.heap.size w'.heap.size r.v c
theorem FirstP.mk {w w' : World} {r : Res} {c f : Array Value} {n : Nat} (hn : n = if r.e = 0 then r.p else 0) (hf : f = fcs r.e (if r.e = 0 then 0 else r.p)) (hb : Below w.heap.size w w') (ht : Tis w' (fun q => q < w.heap.size) r.v c) (hn9 : Nor w' w.heap.size w'.heap.size r.v c) : FirstP w r (.returned (.tuple #[.agg c, .int .i64 (n : Nat), .agg f])) w' := by
  subst hn
  subst hf
  exact ⟨hb, c, rfl, ht, hn9⟩
/-- Where First stands: its answers' blocks. -/
structure Fst8 (w wx : World) (c f : Array Value) : Prop where
  b : Below w.heap.size w wx
  r : wx.heap[w.heap.size]? = some (.cells c 61 (0, 0))
  f : wx.heap[w.heap.size + 1]? = some (.cells f 64 (0, 0))
theorem Fst8.next {w wx wy : World} {c f : Array Value} (h : Fst8 w wx c f) (hb : Below (w.heap.size + 2) wx wy) : Fst8 w wy c f :=
  ⟨h.b.trans (hb.mono (by omega)), (hb.block _ (by omega)).trans h.r, (hb.block _ (by omega)).trans h.f⟩
theorem Fst8.setR {w wx : World} {c f : Array Value} (h : Fst8 w wx c f) (c' : Array Value) : Fst8 w (wx.setRow w.heap.size c') c' f := by
  have hk := row_kp wx w.heap.size c'
  exact ⟨h.b.trans (hk.below h.b.size (fun q e => by omega)), row_same h.r, (hk.block _ (blk_lt h.f) (by omega)).trans h.f⟩
theorem Fst8.setF {w wx : World} {c f : Array Value} (h : Fst8 w wx c f) (f' : Array Value) : Fst8 w (wx.setRow (w.heap.size + 1) f') c f' := by
  have hk := row_kp wx (w.heap.size + 1) f'
  exact ⟨h.b.trans (hk.below h.b.size (fun q e => by omega)), (hk.block _ (blk_lt h.r) (by omega)).trans h.r, row_same h.f⟩
set_option maxRecDepth 1000000 in
set_option maxHeartbeats 4000000 in
theorem first8_any (W : World) (hT : Tabs W) (w : World) (hW : Below W.heap.size W w) (vB : Value) (b : List Nat) (hB : BSl w vB b) (hBq : ∀ q, vB.ownBlock = some q → q < w.heap.size) (hbl : b.length ≤ 8388608) (d : Nat) (hd : d ≤ 1024) (N : Nat) (R : Res) (hR : mrun b d N m0 = some R) :
    Calls Tryz.prog 15 #[vB, .int .i64 (d : Nat)] w (FirstP w R) := by
  have HT := hide hT
  have HWW := hide hW
  have HB := hide hB
  have HBq := hide hBq
  have HBL := hide hbl
  have HRR := hide hR
  obtain ⟨⟨aB, cB, hvB, _⟩, _⟩ := hB
  subst hvB
  have hb0 := below_alloc4 w (.cells zv 61)
  have hb1 := below_alloc4 (w.alloc (.cells zv 61)) (.cells zf 64)
  have hs1 : (w.alloc (.cells zv 61)).heap.size = w.heap.size + 1 := by simp
  have hs2 : ((w.alloc (.cells zv 61)).alloc (.cells zf 64)).heap.size = w.heap.size + 2 := by simp
  have HF2 : Hid (Fst8 w ((w.alloc (.cells zv 61)).alloc (.cells zf 64)) zv zf) := by
    refine ⟨hb0.trans (hb1.mono hb0.size), ?_, ?_⟩
    · have h := heap_alloc_new w (.cells zv 61)
      exact (hb1.block _ (blk_lt h)).trans h
    · have h := heap_alloc_new (w.alloc (.cells zv 61)) (.cells zf 64)
      rw [hs1] at h
      exact h
  have HS2 := hide hs2
  have g1 : ¬ (d : Int) < 0 := by omega
  have g2 : ¬ (1024 : Int) < (d : Int) := by omega
  have HD := hide hd
  clear hT hW hBq hbl hR hb0 hb1 hs1 hs2 hd
  unfold zv zf at HF2 HS2
  go_enter Tryz.func15, Tryz.ntmps15
  go_upto_region 3 with fail
  clear g1 g2
  generalize (w.alloc (.cells #[.int .i64 0, .bool false, .bool false, .int .u64 0, .int .u64 0, .string ⟨#[]⟩, .slice none 0 0, .int .i64 0, .int .u64 0, .int .u64 0, .string ⟨#[]⟩, .slice none 0 0, .slice none 0 0] 61)).alloc (.cells #[.int .i64 0, .int .i64 0] 64) = w2 at *
  have HF2 : Hid (Fst8 w w2 zv zf) := HF2
  have hmk := row_mk8 w2 zm8 #[.slice aB b.length cB, .int .i64 0, .int .i64 (d : Nat), .slice none 0 0] 74
  have HN3 := hide (heap_alloc_new w2 (.cells zm8 74))
  have HI3 : Hid ((Tryz.prog.info? 74).map (·.size) = some (#[.slice aB b.length cB, .int .i64 0, .int .i64 (d : Nat), .slice none 0 0] : Array Value).size) := infoM8
  have HA3 := hide (mac_all aB b.length cB (d : Nat))
  have HB3 := hide hmk.1
  have HG3 := hide hmk.2
  clear hmk
  go_wp2_with (refine wpList_storeRow rfl rfl w2.heap.size zm8 #[.slice aB b.length cB, .int .i64 0, .int .i64 (d : Nat), .slice none 0 0] 74 rfl rfl HN3.out HI3.out rfl HA3.out ?_)
  unfold zm8 at HB3 HG3
  generalize (w2.alloc (.cells #[.slice none 0 0, .int .i64 0, .int .i64 0, .slice none 0 0] 74)).setRow w2.heap.size #[.slice aB b.length cB, .int .i64 0, .int .i64 (d : Nat), .slice none 0 0] = w3 at *
  have hbw3 : Below w.heap.size w w3 := HF2.out.b.trans (HB3.out.mono HF2.out.b.size)
  have HM3 : Hid (w2.heap.size < w3.heap.size) := blk_lt HG3.out
  refine (run8_any W HT.out w3 (HWW.out.trans (hbw3.mono HWW.out.size)) w2.heap.size (Nat.le_trans HWW.out.size HF2.out.b.size) HM3.out _ b (HB.out.move (keep_below hbw3)) (fun q hq => by have h1 := HBq.out q hq; have h2 := HS2.out; have h3 := HM3.out; omega) HBL.out d (by have := HD.out; omega) HG3.out N R HRR.out).mono ?_
  rintro e w4 ⟨hk4, c, vo, rfl, hm4, ht4, hn4⟩
  replace hn4 : Nor w4 w3.heap.size w4.heap.size R.v c := hn4
  have hb4 : Below (w.heap.size + 2) w2 w4 := (HB3.out.mono (by have := HS2.out; omega)).trans (hk4.below (by have := HM3.out; have := HS2.out; omega) (fun q e => by have := HS2.out; omega))
  have HF4 := hide (HF2.out.next hb4)
  have HM4 := hide hm4
  have HT4 := hide ht4
  have HZ4 : Hid (w2.heap.size < w4.heap.size) := blk_lt hm4
  have hmk := itm_mk8 w4 c
  have HN5 := hide (heap_alloc_new w4 (.cells zv 61))
  have HI5 : Hid ((Tryz.prog.info? 61).map (·.size) = some c.size) := by show _ = _; rw [ht4.tin.size13]; exact infoV
  have HZ5 : Hid (zv.size = c.size) := by show _ = _; rw [ht4.tin.size13]; rfl
  have HC13 := hide ht4.tin.size13
  have HA5 := hide ht4.tin.all1
  have HF5 := hide (HF4.out.next (hmk.1.mono (by have := HZ4.out; have := HS2.out; omega)))
  have HM5 : Hid (((w4.alloc (.cells zv 61)).setRow w4.heap.size c).heap[w2.heap.size]? = _) := (hmk.1.block _ (blk_lt hm4)).trans hm4
  have HT5 : Hid (Tis ((w4.alloc (.cells zv 61)).setRow w4.heap.size c) (fun q => q < w3.heap.size) R.v c) := ht4.kp (Kp.of_below hmk.1)
  have HNO := hide ((hn4.kept hmk.1).mono (Nat.le_refl _) hmk.1.size)
  have HV5 := hide hmk.2
  have HW5 : Hid (w.heap.size + 2 ≤ w3.heap.size) := by show _ ≤ _; have := HM3.out; have := HS2.out; omega
  have HEB : Hid (R.e ≠ 0 → R.v = tz8 0) := mrun_bad HRR.out
  have HWS : Hid (w2.heap.size = w.heap.size + 2) := HS2.out
  clear hbw3 hk4 hm4 ht4 hn4 hb4 hmk HF2 HB3 HG3 HN3 HM3 HM4 HT4 HF4 HS2
  go_upto_region 5 with (refine wpList_storeRow rfl rfl w4.heap.size zv c 61 rfl rfl HN5.out HI5.out HZ5.out HA5.out ?_)
  unfold zv at HF5 HM5 HT5 HV5 HNO
  generalize (w4.alloc (.cells #[.int .i64 0, .bool false, .bool false, .int .u64 0, .int .u64 0, .string ⟨#[]⟩, .slice none 0 0, .int .i64 0, .int .u64 0, .int .u64 0, .string ⟨#[]⟩, .slice none 0 0, .slice none 0 0] 61)).setRow w4.heap.size c = w5 at *
  have HF5 : Hid (Fst8 w w5 zv zf) := HF5
  have HIR : Hid ((Tryz.prog.info? 61).map (·.size) = some zv.size) := infoV
  have HZA := hide zv_all8
  obtain ⟨re, rp, rv⟩ := R
  simp only at HM5 HT5 HEB HNO
  by_cases h0 : re = 0
  case neg => as_aux_lemma =>
    have gk : ((re : Int) != 0) = true := by rw [bne_iff_ne]; omega
    have HRV := hide (HEB.out h0)
    have HR5 := hide HF5.out.r
    have HFF := hide (HF5.out.setR zv).f
    have HIF : Hid ((Tryz.prog.info? 64).map (·.size) = some (fcs re rp).size) := infoF8
    have HAF := hide (fcs_all re rp)
    have HE1 : Hid (0 = if re = 0 then rp else 0) := by show _ = _; rw [if_neg h0]
    have HE2 : Hid (fcs re rp = fcs re (if re = 0 then 0 else rp)) := by show _ = _; rw [if_neg h0]
    clear h0
    go_upto_region 6 with fail
    refine heldStart (S := fun wy => wy.heap[w2.heap.size]? = some (.cells #[.slice aB b.length cB, .int .i64 (rp : Nat), .int .i64 (d : Nat), vo] 74 (0, 0))) (by kernel_rfl) ?_
    have hS : w5.drew.heap[w2.heap.size]? = some (.cells #[.slice aB b.length cB, .int .i64 (rp : Nat), .int .i64 (d : Nat), vo] 74 (0, 0)) := HM5.out
    refine heldTake 0 _ rfl (by kernel_rfl) (by kernel_rfl) (by kernel_rfl) (fun _ _ _ h => h) rfl hS (fun wy hy => by first | (go_simp; done) | (go_simp; rfl) | rfl) ?_
    (try simp only [Act.put]); (try simp only [List.setIfInBounds_toArray, List.set_cons_zero, List.set_cons_succ])
    refine heldTake 1 _ rfl (by kernel_rfl) (by kernel_rfl) (by kernel_rfl) (fun _ _ _ h => h) rfl hS (fun wy hy => by first | (go_simp; done) | (go_simp; rfl) | rfl) ?_
    (try simp only [Act.put]); (try simp only [List.setIfInBounds_toArray, List.set_cons_zero, List.set_cons_succ])
    refine heldTake 2 _ rfl (by kernel_rfl) (by kernel_rfl) (by kernel_rfl) (fun _ _ _ h => h) rfl hS (fun wy hy => by first | (go_simp; done) | (go_simp; rfl) | rfl) ?_
    (try simp only [Act.put]); (try simp only [List.setIfInBounds_toArray, List.set_cons_zero, List.set_cons_succ])
    refine heldTake 3 _ rfl (by kernel_rfl) (by kernel_rfl) (by kernel_rfl) (fun _ _ _ h => h) rfl hS (fun wy hy => by have h0 := blk_cell (j := 1) (v := .int .i64 (rp : Nat)) hy rfl; first | (go_simp; done) | (go_simp; rfl) | rfl) ?_
    (try simp only [Act.put]); (try simp only [List.setIfInBounds_toArray, List.set_cons_zero, List.set_cons_succ])
    refine heldTake 4 _ rfl (by kernel_rfl) (by kernel_rfl) (by kernel_rfl) (fun _ _ _ h => h) rfl hS (fun wy hy => by first | (go_simp; done) | (go_simp; rfl) | rfl) ?_
    (try simp only [Act.put]); (try simp only [List.setIfInBounds_toArray, List.set_cons_zero, List.set_cons_succ])
    refine heldStep 5 rfl (by kernel_rfl) (fun K hK => ?_)
    refine step_storeRow rfl rfl w.heap.size zv zv 61 rfl rfl HR5.out HIR.out rfl HZA.out ?_
    have hrk := row_kp w5.drew w.heap.size zv
    refine (Hid.out hK) _ _ ((hrk.block _ (blk_lt hS) (by have := HWS.out; omega)).trans hS) (fun hS4 => ?_)
    clear hK K hS
    (try simp only [Act.put]); (try simp only [List.setIfInBounds_toArray, List.set_cons_zero, List.set_cons_succ])
    refine heldTake 6 _ rfl (by kernel_rfl) (by kernel_rfl) (by kernel_rfl) (fun _ _ _ h => h) rfl hS4 (fun wy hy => by first | (go_simp; done) | (go_simp; rfl) | rfl) ?_
    (try simp only [Act.put]); (try simp only [List.setIfInBounds_toArray, List.set_cons_zero, List.set_cons_succ])
    refine heldStep 7 rfl (by kernel_rfl) (fun K hK => ?_)
    refine step_storeRow rfl rfl (w.heap.size + 1) zf (fcs re rp) 64 rfl rfl HFF.out HIF.out rfl HAF.out ?_
    have hrk2 := row_kp (w5.drew.setRow w.heap.size zv) (w.heap.size + 1) (fcs re rp)
    refine (Hid.out hK) _ _ ((hrk2.block _ (blk_lt hS4) (by have := HWS.out; omega)).trans hS4) (fun hS5 => ?_)
    clear hK K hS4
    (try simp only [Act.put]); (try simp only [List.setIfInBounds_toArray, List.set_cons_zero, List.set_cons_succ])
    refine heldDone (by kernel_rfl) ?_
    clear hS5
    go_wp2_with fail
    have hFD : Fst8 w w5.drew zv zf := HF5.out.next (by refine Below.drew ?_; exact Below.refl _ _)
    have hFE := (hFD.setR zv).setF (fcs re rp)
    exact bodyPost_ret (end_first rfl hFE.r rfl hFE.f rfl rfl rfl) rfl (FirstP.mk (r := ⟨re, rp, rv⟩) HE1.out HE2.out hFE.b (by rw [show (Res.mk re rp rv).v = tz8 0 from HRV.out]; exact tz8_tis _ _) (by rw [show (Res.mk re rp rv).v = tz8 0 from HRV.out]; exact plain_nos _ _ _ (tis_tbd (tz8_tis w (fun _ => False))) rfl rfl rfl))
  as_aux_lemma =>
    have gk : ((re : Int) != 0) = false := by rw [bne_eq_false_iff_eq]; omega
    have HR5 := hide HF5.out.r
    have HFF := hide (HF5.out.setR c).f
    have HIF : Hid ((Tryz.prog.info? 64).map (·.size) = some zf.size) := infoF8
    have HAF : Hid (zf.all (·.oneCell') = true) := fcs_all 0 0
    have HE1 : Hid (rp = if re = 0 then rp else 0) := by show _ = _; rw [if_pos h0]
    have HE2 : Hid (zf = fcs re (if re = 0 then 0 else rp)) := by show _ = _; rw [if_pos h0, h0]; rfl
    clear h0
    go_upto_region 7 with fail
    refine heldStart (S := fun wy => wy.heap[w2.heap.size]? = some (.cells #[.slice aB b.length cB, .int .i64 (rp : Nat), .int .i64 (d : Nat), vo] 74 (0, 0)) ∧ wy.heap[w4.heap.size]? = some (.cells c 61 (0, 0))) (by kernel_rfl) ?_
    have hS : w5.drew.heap[w2.heap.size]? = some (.cells #[.slice aB b.length cB, .int .i64 (rp : Nat), .int .i64 (d : Nat), vo] 74 (0, 0)) ∧ w5.drew.heap[w4.heap.size]? = some (.cells c 61 (0, 0)) := ⟨HM5.out, HV5.out⟩
    refine heldTake 0 (.agg c) rfl (by kernel_rfl) (by kernel_rfl) (by kernel_rfl) (fun _ _ _ h => h) rfl hS (fun wy hy => exec_valAt (g := w4.heap.size) (off := 0) (cs := c) rfl rfl HC13.out (fun j u hu => by rw [Nat.zero_add]; exact blk_cell hy.2 hu)) ?_
    (try simp only [Act.put]); (try simp only [List.setIfInBounds_toArray, List.set_cons_zero, List.set_cons_succ])
    refine heldTake 1 _ rfl (by kernel_rfl) (by kernel_rfl) (by kernel_rfl) (fun _ _ _ h => h) rfl hS (fun wy hy => by first | (go_simp; done) | (go_simp; rfl) | rfl) ?_
    (try simp only [Act.put]); (try simp only [List.setIfInBounds_toArray, List.set_cons_zero, List.set_cons_succ])
    refine heldTake 2 _ rfl (by kernel_rfl) (by kernel_rfl) (by kernel_rfl) (fun _ _ _ h => h) rfl hS (fun wy hy => by have h0 := blk_cell (j := 1) (v := .int .i64 (rp : Nat)) hy.1 rfl; first | (go_simp; done) | (go_simp; rfl) | rfl) ?_
    (try simp only [Act.put]); (try simp only [List.setIfInBounds_toArray, List.set_cons_zero, List.set_cons_succ])
    refine heldTake 3 _ rfl (by kernel_rfl) (by kernel_rfl) (by kernel_rfl) (fun _ _ _ h => h) rfl hS (fun wy hy => by first | (go_simp; done) | (go_simp; rfl) | rfl) ?_
    (try simp only [Act.put]); (try simp only [List.setIfInBounds_toArray, List.set_cons_zero, List.set_cons_succ])
    refine heldStep 4 rfl (by kernel_rfl) (fun K hK => ?_)
    refine step_storeRow rfl rfl w.heap.size zv c 61 rfl rfl HR5.out HI5.out HZ5.out HA5.out ?_
    have hrk := row_kp w5.drew w.heap.size c
    refine (Hid.out hK) _ _ ⟨(hrk.block _ (blk_lt hS.1) (by have := HWS.out; omega)).trans hS.1, (hrk.block _ (blk_lt hS.2) (by have := HWS.out; have := HZ4.out; omega)).trans hS.2⟩ (fun hS4 => ?_)
    clear hK K hS
    (try simp only [Act.put]); (try simp only [List.setIfInBounds_toArray, List.set_cons_zero, List.set_cons_succ])
    refine heldTake 5 _ rfl (by kernel_rfl) (by kernel_rfl) (by kernel_rfl) (fun _ _ _ h => h) rfl hS4 (fun wy hy => by first | (go_simp; done) | (go_simp; rfl) | rfl) ?_
    (try simp only [Act.put]); (try simp only [List.setIfInBounds_toArray, List.set_cons_zero, List.set_cons_succ])
    refine heldStep 6 rfl (by kernel_rfl) (fun K hK => ?_)
    refine step_storeRow rfl rfl (w.heap.size + 1) zf zf 64 rfl rfl HFF.out HIF.out rfl HAF.out ?_
    have hrk2 := row_kp (w5.drew.setRow w.heap.size c) (w.heap.size + 1) zf
    refine (Hid.out hK) _ _ ⟨(hrk2.block _ (blk_lt hS4.1) (by have := HWS.out; omega)).trans hS4.1, (hrk2.block _ (blk_lt hS4.2) (by have := HWS.out; have := HZ4.out; omega)).trans hS4.2⟩ (fun hS5 => ?_)
    clear hK K hS4
    (try simp only [Act.put]); (try simp only [List.setIfInBounds_toArray, List.set_cons_zero, List.set_cons_succ])
    refine heldDone (by kernel_rfl) ?_
    clear hS5
    go_wp2_with fail
    have hFD : Fst8 w w5.drew zv zf := HF5.out.next (by refine Below.drew ?_; exact Below.refl _ _)
    have hFE := (hFD.setR c).setF zf
    have hkk : Kp (fun q => q < w3.heap.size) w5 ((w5.drew.setRow w.heap.size c).setRow (w.heap.size + 1) zf) := ((Kp.refl (fun q => q < w3.heap.size) w5).drew.trans hrk (fun q _ e => by have := HW5.out; omega)).trans hrk2 (fun q _ e => by have := HW5.out; omega)
    exact bodyPost_ret (end_first HC13.out hFE.r rfl hFE.f rfl rfl rfl) rfl (FirstP.mk (r := ⟨re, rp, rv⟩) HE1.out HE2.out hFE.b ((HT5.out.kp hkk).mono (fun q hq => by have := HW5.out; omega)) ((HNO.out.kp hkk (fun q h1 _ h3 => by omega)).mono (by have := HW5.out; omega) hkk.size))
end
section
open Go.RowKit Go
/-- What Decode tells. -/
def DecP (w : World) (b : List Nat) (r : Res) (e : Ending) (w' : World) : Prop := Below w.heap.size w w' ∧ ∃ c, e = .returned (.tuple #[.agg c, .agg (fcs (dflt b r).1 (dflt b r).2)]) ∧ Tis w' (fun q => q < w.heap.size) (if (dflt b r).1 = 0 then r.v else tz8 0) c ∧ Nor w' w.heap.size w'.heap.size (if (dflt b r).1 = 0 then r.v else tz8 0) c
theorem DecP.mk {w w' : World} {b : List Nat} {r : Res} {c f : Array Value} {v : Tv} (hf : f = fcs (dflt b r).1 (dflt b r).2) (hv : v = if (dflt b r).1 = 0 then r.v else tz8 0) (hb : Below w.heap.size w w') (ht : Tis w' (fun q => q < w.heap.size) v c) (hn9 : Nor w' w.heap.size w'.heap.size v c) : DecP w b r (.returned (.tuple #[.agg c, .agg f])) w' := by
  subst hf
  subst hv
  exact ⟨hb, c, rfl, ht, hn9⟩
/-- Two new blocks, written. -/
theorem two_mk8 (w : World) (c f : Array Value) : Below w.heap.size w ((((w.alloc (.cells zv 61)).alloc (.cells zf 64)).setRow w.heap.size c).setRow (w.heap.size + 1) f) ∧ ((((w.alloc (.cells zv 61)).alloc (.cells zf 64)).setRow w.heap.size c).setRow (w.heap.size + 1) f).heap[w.heap.size]? = some (.cells c 61 (0, 0)) ∧ ((((w.alloc (.cells zv 61)).alloc (.cells zf 64)).setRow w.heap.size c).setRow (w.heap.size + 1) f).heap[w.heap.size + 1]? = some (.cells f 64 (0, 0)) := by
  have hb0 := below_alloc4 w (.cells zv 61)
  have hb1 := below_alloc4 (w.alloc (.cells zv 61)) (.cells zf 64)
  have hs1 : (w.alloc (.cells zv 61)).heap.size = w.heap.size + 1 := by simp
  have hF : Fst8 w ((w.alloc (.cells zv 61)).alloc (.cells zf 64)) zv zf := by
    refine ⟨hb0.trans (hb1.mono hb0.size), ?_, ?_⟩
    · have h := heap_alloc_new w (.cells zv 61)
      exact (hb1.block _ (blk_lt h)).trans h
    · have h := heap_alloc_new (w.alloc (.cells zv 61)) (.cells zf 64)
      rw [hs1] at h
      exact h
  have h2 := (hF.setR c).setF f
  exact ⟨h2.b, h2.r, h2.f⟩
theorem two_new8 (w : World) : Fst8 w ((w.alloc (.cells zv 61)).alloc (.cells zf 64)) zv zf := by
  have hb0 := below_alloc4 w (.cells zv 61)
  have hb1 := below_alloc4 (w.alloc (.cells zv 61)) (.cells zf 64)
  have hs1 : (w.alloc (.cells zv 61)).heap.size = w.heap.size + 1 := by simp
  refine ⟨hb0.trans (hb1.mono hb0.size), ?_, ?_⟩
  · have h := heap_alloc_new w (.cells zv 61)
    exact (hb1.block _ (blk_lt h)).trans h
  · have h := heap_alloc_new (w.alloc (.cells zv 61)) (.cells zf 64)
    rw [hs1] at h
    exact h
set_option maxRecDepth 1000000 in
set_option maxHeartbeats 4000000 in
/-- Decode, as First tells. -/
theorem decode8_from (w : World) (vB : Value) (b : List Nat) (hB : BSl w vB b) (hbl : b.length ≤ 8388608) (D : Int) (R : Res) (hE : R.e ≠ 0 → R.v = tz8 0) (hP : R.p ≤ b.length)
    (hF : Calls Tryz.prog 15 #[vB, .int .i64 D] ((w.alloc (.cells zv 61)).alloc (.cells zf 64)) (FirstP ((w.alloc (.cells zv 61)).alloc (.cells zf 64)) R)) :
    Calls Tryz.prog 13 #[vB, .int .i64 D] w (DecP w b R) := by
  have HF2 := hide (two_new8 w)
  have hs2 : ((w.alloc (.cells zv 61)).alloc (.cells zf 64)).heap.size = w.heap.size + 2 := by simp
  have HFC := hide hF
  have HS2 := hide hs2
  have HEB : Hid (R.e ≠ 0 → R.v = tz8 0) := hE
  have HPL := hide hP
  have HBL := hide hbl
  obtain ⟨⟨aB, cB, hvB, _, _⟩, _, _⟩ := hB
  subst hvB
  clear hbl hs2 hE hP hF
  unfold zv zf at HF2 HS2 HFC
  go_enter Tryz.func13, Tryz.ntmps13
  go_wp2_with fail
  generalize (w.alloc (.cells #[.int .i64 0, .bool false, .bool false, .int .u64 0, .int .u64 0, .string ⟨#[]⟩, .slice none 0 0, .int .i64 0, .int .u64 0, .int .u64 0, .string ⟨#[]⟩, .slice none 0 0, .slice none 0 0] 61)).alloc (.cells #[.int .i64 0, .int .i64 0] 64) = w2 at *
  have HF2 : Hid (Fst8 w w2 zv zf) := HF2
  refine HFC.out.mono ?_
  rintro e w3 ⟨hb3, c, rfl, ht3, hn3⟩
  have HF3 := hide (HF2.out.next (hb3.mono (by have := HS2.out; omega)))
  have HW3 : Hid (w.heap.size + 2 ≤ w3.heap.size) := by show _ ≤ _; have := hb3.size; have := HS2.out; omega
  have HTR : Hid (Tis w3 (fun q => q < w.heap.size + 2) R.v c) := ht3.mono (fun q hq => by have := HS2.out; omega)
  have HNR : Hid (Nor w3 (w.heap.size + 2) w3.heap.size R.v c) := hn3.mono (by have := HS2.out; omega) (Nat.le_refl _)
  clear hb3 ht3 hn3 HF2 HFC HS2
  obtain ⟨re, rp, rv⟩ := R
  simp only at HPL HTR HEB HNR
  generalize hnu : (if re = 0 then rp else 0) = nu at *
  generalize hfa : (if re = 0 then 0 else rp) = fa at *
  have HNU := hide hnu
  have HFA := hide hfa
  have hmk := two_mk8 w3 c (fcs re fa)
  have hF0 := two_new8 w3
  have HN5 := hide hF0.r
  have HN6 := hide (hF0.setR c).f
  have HI5 : Hid ((Tryz.prog.info? 61).map (·.size) = some c.size) := by show _ = _; rw [HTR.out.tin.size13]; exact infoV
  have HZ5 : Hid (zv.size = c.size) := by show _ = _; rw [HTR.out.tin.size13]; rfl
  have HC13 := hide HTR.out.tin.size13
  have HA5 := hide HTR.out.tin.all1
  have HIF : Hid ((Tryz.prog.info? 64).map (·.size) = some (fcs re fa).size) := infoF8
  have HAF := hide (fcs_all re fa)
  have HF5 := hide (HF3.out.next (hmk.1.mono (by have := HW3.out; omega)))
  have HV5 := hide hmk.2.1
  have HG5 := hide hmk.2.2
  have HT5 := hide (HTR.out.kp (Kp.of_below hmk.1))
  have HNO := hide ((HNR.out.kept hmk.1).mono (Nat.le_refl _) hmk.1.size)
  clear hmk hnu hfa HTR HNR hF0
  simp only [fcs] at HF5 HV5 HG5 HT5 HNO HIF HAF
  unfold zv zf at HF5 HV5 HG5 HT5 HNO
  go_upto_region 2 with (first
    | (refine wpList_storeRow rfl rfl w3.heap.size zv c 61 rfl rfl HN5.out HI5.out HZ5.out HA5.out ?_)
    | (refine wpList_storeRow rfl rfl (w3.heap.size + 1) zf #[.int .i64 (re : Nat), .int .i64 (fa : Nat)] 64 rfl rfl HN6.out HIF.out rfl HAF.out ?_))
  (try simp only [Act.put]); (try simp only [List.setIfInBounds_toArray, List.set_cons_zero, List.set_cons_succ])
  generalize (((w3.alloc (.cells #[.int .i64 0, .bool false, .bool false, .int .u64 0, .int .u64 0, .string ⟨#[]⟩, .slice none 0 0, .int .i64 0, .int .u64 0, .int .u64 0, .string ⟨#[]⟩, .slice none 0 0, .slice none 0 0] 61)).alloc (.cells #[.int .i64 0, .int .i64 0] 64)).setRow w3.heap.size c).setRow (w3.heap.size + 1) #[.int .i64 (re : Nat), .int .i64 (fa : Nat)] = w5 at *
  have HF5 : Hid (Fst8 w w5 zv zf) := HF5
  have HG5 : Hid (w5.heap[w3.heap.size + 1]? = some (.cells (fcs re fa) 64 (0, 0))) := HG5
  have HIF : Hid ((Tryz.prog.info? 64).map (·.size) = some (fcs re fa).size) := infoF8
  have HAF := hide (fcs_all re fa)
  have HIR : Hid ((Tryz.prog.info? 61).map (·.size) = some zv.size) := infoV
  have HZA := hide zv_all8
  have HR5 := hide HF5.out.r
  clear HN5 HN6 HF3
  have c0 : w5.cell? ⟨w3.heap.size + 1, 0, none⟩ = some (.int .i64 (re : Nat)) := blk_cell (j := 0) HG5.out rfl
  by_cases h5 : re = 0 ∧ rp < b.length
  · as_aux_lemma =>
    obtain ⟨h0, hl⟩ := h5
    have gk : ((re : Int) == 0) = true := beq_iff_eq.2 (by omega)
    have hnu : nu = rp := by rw [← HNU.out, if_pos h0]
    subst hnu
    have gl : decide (nu < b.length) = true := decide_eq_true hl
    have gl2 : (nu : Int) < (b.length : Int) := by omega
    have HDF : Hid (fcs 85 nu = fcs (dflt b ⟨re, nu, rv⟩).1 (dflt b ⟨re, nu, rv⟩).2) := by show _ = _; unfold dflt; rw [if_pos h0, if_pos hl]
    have HDV : Hid (tz8 0 = if (dflt b ⟨re, nu, rv⟩).1 = 0 then rv else tz8 0) := by show _ = _; unfold dflt; rw [if_pos h0, if_pos hl]; rfl
    have HFF := hide (HF5.out.setR zv).f
    have HI85 : Hid ((Tryz.prog.info? 64).map (·.size) = some (fcs 85 nu).size) := infoF8
    have HA85 := hide (fcs_all 85 nu)
    clear h0 hl
    go_wp2_with (first
      | (refine wpList_storeRow rfl rfl w.heap.size zv zv 61 rfl rfl HR5.out HIR.out rfl HZA.out ?_)
      | (refine wpList_storeRow rfl rfl (w.heap.size + 1) zf (fcs 85 nu) 64 rfl rfl HFF.out HI85.out rfl HA85.out ?_))
    have hFE := (HF5.out.setR zv).setF (fcs 85 nu)
    exact bodyPost_ret (end_decode rfl hFE.r rfl hFE.f rfl rfl) rfl (DecP.mk HDF.out HDV.out hFE.b (tz8_tis _ _) (plain_nos _ _ _ (tis_tbd (tz8_tis w (fun _ => False))) rfl rfl rfl))
  have HDF : Hid (fcs re fa = fcs (dflt b ⟨re, rp, rv⟩).1 (dflt b ⟨re, rp, rv⟩).2) := by
    show _ = _
    unfold dflt
    by_cases h0 : re = 0
    · rw [if_pos h0, if_neg (fun h => h5 ⟨h0, h⟩), h0, ← HFA.out, if_pos h0]
    · rw [if_neg h0, ← HFA.out, if_neg h0]
  have HDV : Hid (rv = if (dflt b ⟨re, rp, rv⟩).1 = 0 then rv else tz8 0) := by
    show _ = _
    unfold dflt
    by_cases h0 : re = 0
    · rw [if_pos h0, if_neg (fun h => h5 ⟨h0, h⟩)]; rfl
    · rw [if_neg h0, if_neg h0]
      exact HEB.out h0
  go_cut [24] from 9 to 25 (fun vv wx => vv = .bool false ∧ wx = w5)
  case first =>
    by_cases h0 : re = 0
    · as_aux_lemma =>
      have gk : ((re : Int) == 0) = true := beq_iff_eq.2 (by omega)
      have hnu : nu = rp := by rw [← HNU.out, if_pos h0]
      subst hnu
      have gl : decide (nu < b.length) = false := decide_eq_false (fun h => h5 ⟨h0, h⟩)
      have gl2 : ¬ (nu : Int) < (b.length : Int) := fun h => h5 ⟨h0, by omega⟩
      clear h0 h5
      go_wp2_with fail
      go_meet
      case rel => exact ⟨rfl, rfl⟩
    · as_aux_lemma =>
      have gk : ((re : Int) == 0) = false := beq_eq_false_iff_ne.2 (by omega)
      clear h0 h5
      go_wp2_with fail
      go_meet
      case rel => exact ⟨rfl, rfl⟩
  obtain ⟨rfl, hww⟩ := hcut
  have hww := hww.symm
  subst hww
  clear h5 c0
  have HFF := hide (HF5.out.setR c).f
  go_upto_region 4 with fail
  refine heldStart (S := fun wy => wy.heap[w3.heap.size]? = some (.cells c 61 (0, 0)) ∧ wy.heap[w3.heap.size + 1]? = some (.cells (fcs re fa) 64 (0, 0))) (by kernel_rfl) ?_
  have hS : w5.drew.heap[w3.heap.size]? = some (.cells c 61 (0, 0)) ∧ w5.drew.heap[w3.heap.size + 1]? = some (.cells (fcs re fa) 64 (0, 0)) := ⟨HV5.out, HG5.out⟩
  refine heldTake 0 (.agg c) rfl (by kernel_rfl) (by kernel_rfl) (by kernel_rfl) (fun _ _ _ h => h) rfl hS (fun wy hy => exec_valAt (g := w3.heap.size) (off := 0) (cs := c) rfl rfl HC13.out (fun j u hu => by rw [Nat.zero_add]; exact blk_cell hy.1 hu)) ?_
  (try simp only [Act.put]); (try simp only [List.setIfInBounds_toArray, List.set_cons_zero, List.set_cons_succ])
  refine heldTake 1 (.agg (fcs re fa)) rfl (by kernel_rfl) (by kernel_rfl) (by kernel_rfl) (fun _ _ _ h => h) rfl hS (fun wy hy => exec_fltAt (g := w3.heap.size + 1) rfl rfl rfl hy.2) ?_
  (try simp only [Act.put]); (try simp only [List.setIfInBounds_toArray, List.set_cons_zero, List.set_cons_succ])
  refine heldStep 2 rfl (by kernel_rfl) (fun K hK => ?_)
  refine step_storeRow rfl rfl w.heap.size zv c 61 rfl rfl HR5.out HI5.out HZ5.out HA5.out ?_
  have hrk := row_kp w5.drew w.heap.size c
  refine (Hid.out hK) _ _ ⟨(hrk.block _ (blk_lt hS.1) (by have := HW3.out; omega)).trans hS.1, (hrk.block _ (blk_lt hS.2) (by have := HW3.out; omega)).trans hS.2⟩ (fun hS4 => ?_)
  clear hK K hS
  (try simp only [Act.put]); (try simp only [List.setIfInBounds_toArray, List.set_cons_zero, List.set_cons_succ])
  refine heldStep 3 rfl (by kernel_rfl) (fun K hK => ?_)
  refine step_storeRow rfl rfl (w.heap.size + 1) zf (fcs re fa) 64 rfl rfl HFF.out HIF.out rfl HAF.out ?_
  have hrk2 := row_kp (w5.drew.setRow w.heap.size c) (w.heap.size + 1) (fcs re fa)
  refine (Hid.out hK) _ _ ⟨(hrk2.block _ (blk_lt hS4.1) (by have := HW3.out; omega)).trans hS4.1, (hrk2.block _ (blk_lt hS4.2) (by have := HW3.out; omega)).trans hS4.2⟩ (fun hS5 => ?_)
  clear hK K hS4
  (try simp only [Act.put]); (try simp only [List.setIfInBounds_toArray, List.set_cons_zero, List.set_cons_succ])
  refine heldDone (by kernel_rfl) ?_
  clear hS5
  go_wp2_with fail
  have hFD : Fst8 w w5.drew zv zf := HF5.out.next (by refine Below.drew ?_; exact Below.refl _ _)
  have hFE := (hFD.setR c).setF (fcs re fa)
  have hkk : Kp (fun q => q < w.heap.size + 2) w5 ((w5.drew.setRow w.heap.size c).setRow (w.heap.size + 1) (fcs re fa)) := ((Kp.refl (fun q => q < w.heap.size + 2) w5).drew.trans hrk (fun q _ e => by omega)).trans hrk2 (fun q _ e => by omega)
  exact bodyPost_ret (end_decode HC13.out hFE.r rfl hFE.f rfl rfl) rfl (DecP.mk HDF.out HDV.out hFE.b ((HT5.out.kp hkk).mono (fun q hq => by omega)) ((HNO.out.kp hkk (fun q h1 _ h3 => by omega)).mono (by omega) hkk.size))
/-- Check tells Decode's fault alone. -/
def ChkP8 (w : World) (e p : Nat) (x : Ending) (w' : World) : Prop := Below w.heap.size w w' ∧ x = .returned (.agg (fcs e p))
theorem decode8_any (W : World) (hT : Tabs W) (w : World) (hW : Below W.heap.size W w) (vB : Value) (b : List Nat) (hB : BSl w vB b) (hBq : ∀ q, vB.ownBlock = some q → q < w.heap.size) (hbl : b.length ≤ 8388608) (d : Nat) (hd : d ≤ 1024) (N : Nat) (R : Res) (hR : mrun b d N m0 = some R) :
    Calls Tryz.prog 13 #[vB, .int .i64 (d : Nat)] w (DecP w b R) := by
  have hs2 : ((w.alloc (.cells zv 61)).alloc (.cells zf 64)).heap.size = w.heap.size + 2 := by simp
  have hb2 := (two_new8 w).b
  exact decode8_from w vB b hB hbl d R (mrun_bad hR) (mrun_at (Nat.zero_le _ : m0.p ≤ b.length) hR).2
    (first8_any W hT ((w.alloc (.cells zv 61)).alloc (.cells zf 64)) (hW.trans (hb2.mono hW.size)) vB b (hB.move (keep_below hb2)) (fun q hq => by have := hBq q hq; omega) hbl d hd N R hR)
set_option maxRecDepth 1000000 in
set_option maxHeartbeats 4000000 in
theorem check8_from (w : World) (vB : Value) (b : List Nat) (hB : BSl w vB b) (D : Int) (R : Res) (hDC : Calls Tryz.prog 13 #[vB, .int .i64 D] (w.alloc (.cells zf 64)) (DecP (w.alloc (.cells zf 64)) b R)) :
    Calls Tryz.prog 18 #[vB, .int .i64 D] w (ChkP8 w (dflt b R).1 (dflt b R).2) := by
  have hb1 := below_alloc4 w (.cells zf 64)
  have HN1 := hide (heap_alloc_new w (.cells zf 64))
  have HB1 := hide hb1
  have HDC := hide hDC
  obtain ⟨⟨aB, cB, hvB, _, _⟩, _, _⟩ := hB
  subst hvB
  clear hDC hb1
  unfold zf at HN1 HB1 HDC
  go_enter Tryz.func18, Tryz.ntmps18
  go_wp2_with fail
  generalize w.alloc (.cells #[.int .i64 0, .int .i64 0] 64) = w1 at *
  refine HDC.out.mono ?_
  rintro e w3 ⟨hb3, c, rfl, ht3, _⟩
  generalize (dflt b R).1 = fe at *
  generalize (dflt b R).2 = fp at *
  generalize (if fe = 0 then R.v else tz8 0) = tv at *
  have hF0 := two_new8 w3
  have HN5 := hide hF0.r
  have HN6 := hide (hF0.setR c).f
  have hmk := two_mk8 w3 c (fcs fe fp)
  have HI5 : Hid ((Tryz.prog.info? 61).map (·.size) = some c.size) := by show _ = _; rw [ht3.tin.size13]; exact infoV
  have HZ5 : Hid (zv.size = c.size) := by show _ = _; rw [ht3.tin.size13]; rfl
  have HA5 := hide ht3.tin.all1
  have HIF : Hid ((Tryz.prog.info? 64).map (·.size) = some (fcs fe fp).size) := infoF8
  have HAF := hide (fcs_all fe fp)
  have HN1 : Hid (w1.heap[w.heap.size]? = some (.cells zf 64 (0, 0))) := HN1
  have hb13 : Below w1.heap.size w1 ((((w3.alloc (.cells zv 61)).alloc (.cells zf 64)).setRow w3.heap.size c).setRow (w3.heap.size + 1) (fcs fe fp)) := hb3.trans (hmk.1.mono hb3.size)
  have HR5 := hide ((hb13.block _ (blk_lt HN1.out)).trans HN1.out)
  have HB5 : Hid (Below w.heap.size w ((((w3.alloc (.cells zv 61)).alloc (.cells zf 64)).setRow w3.heap.size c).setRow (w3.heap.size + 1) (fcs fe fp))) := HB1.out.trans (hb13.mono HB1.out.size)
  have HG5 := hide hmk.2.2
  clear hb3 ht3 hF0 hmk hb13 HDC
  go_wp2_with (first
    | (refine wpList_storeRow rfl rfl w3.heap.size zv c 61 rfl rfl HN5.out HI5.out HZ5.out HA5.out ?_)
    | (refine wpList_storeRow rfl rfl (w3.heap.size + 1) zf (fcs fe fp) 64 rfl rfl HN6.out HIF.out rfl HAF.out ?_)
    | (refine wpList_exec rfl (exec_fltAt (g := w3.heap.size + 1) (c := fcs fe fp) rfl rfl rfl HG5.out) ?_)
    | (refine wpList_storeRow rfl rfl w.heap.size zf (fcs fe fp) 64 rfl rfl HR5.out HIF.out rfl HAF.out ?_))
  have hkr := row_kp ((((w3.alloc (.cells zv 61)).alloc (.cells zf 64)).setRow w3.heap.size c).setRow (w3.heap.size + 1) (fcs fe fp)) w.heap.size (fcs fe fp)
  exact bodyPost_ret (end_check rfl (row_same HR5.out) rfl) rfl ⟨HB5.out.trans (hkr.below HB5.out.size (fun q e => by omega)), rfl⟩
theorem check8_any (W : World) (hT : Tabs W) (w : World) (hW : Below W.heap.size W w) (vB : Value) (b : List Nat) (hB : BSl w vB b) (hBq : ∀ q, vB.ownBlock = some q → q < w.heap.size) (hbl : b.length ≤ 8388608) (d : Nat) (hd : d ≤ 1024) (N : Nat) (R : Res) (hR : mrun b d N m0 = some R) :
    Calls Tryz.prog 18 #[vB, .int .i64 (d : Nat)] w (ChkP8 w (dflt b R).1 (dflt b R).2) := by
  have hb1 := below_alloc4 w (.cells zf 64)
  exact check8_from w vB b hB d R (decode8_any W hT (w.alloc (.cells zf 64)) (hW.trans (hb1.mono hW.size)) vB b (hB.move (keep_below hb1)) (fun q hq => by have h1 := hBq q hq; have h2 := hb1.size; omega) hbl d hd N R hR)
end
section
open Go.RowKit Go
set_option maxRecDepth 1000000 in
set_option maxHeartbeats 4000000 in
/-- First at a depth that is none. -/
theorem first8_none (w : World) (vB : Value) (D : Int) (hD : D < 0 ∨ 1024 < D) : Calls Tryz.prog 15 #[vB, .int .i64 D] w (FirstP w ⟨80, 0, tz8 0⟩) := by
  have HF := hide (two_new8 w)
  have HIR : Hid ((Tryz.prog.info? 61).map (·.size) = some zv.size) := infoV
  have HZA := hide zv_all8
  have HIF : Hid ((Tryz.prog.info? 64).map (·.size) = some (fcs 80 0).size) := infoF8
  have HAF := hide (fcs_all 80 0)
  have HFE := hide ((HF.out.setR zv).setF (fcs 80 0))
  have HR := hide HF.out.r
  have HFF := hide (HF.out.setR zv).f
  unfold zv zf at HF HFE HR HFF
  by_cases hD0 : D < 0
  · as_aux_lemma =>
    go_enter Tryz.func15, Tryz.ntmps15
    go_wp2_with (first
      | (refine wpList_storeRow rfl rfl w.heap.size zv #[.int .i64 0, .bool false, .bool false, .int .u64 0, .int .u64 0, .string ⟨#[]⟩, .slice none 0 0, .int .i64 0, .int .u64 0, .int .u64 0, .string ⟨#[]⟩, .slice none 0 0, .slice none 0 0] 61 rfl rfl HR.out HIR.out rfl HZA.out ?_)
      | (refine wpList_storeRow rfl rfl (w.heap.size + 1) zf (fcs 80 0) 64 rfl rfl HFF.out HIF.out rfl HAF.out ?_))
    exact bodyPost_ret (end_first rfl HFE.out.r rfl HFE.out.f rfl rfl rfl) rfl (FirstP.mk (r := ⟨80, 0, tz8 0⟩) (n := 0) rfl rfl HFE.out.b (tz8_tis _ _) (plain_nos _ _ _ (tis_tbd (tz8_tis w (fun _ => False))) rfl rfl rfl))
  · as_aux_lemma =>
    have g2 : (1024 : Int) < D := by omega
    clear hD
    go_enter Tryz.func15, Tryz.ntmps15
    go_wp2_with (first
      | (refine wpList_storeRow rfl rfl w.heap.size zv #[.int .i64 0, .bool false, .bool false, .int .u64 0, .int .u64 0, .string ⟨#[]⟩, .slice none 0 0, .int .i64 0, .int .u64 0, .int .u64 0, .string ⟨#[]⟩, .slice none 0 0, .slice none 0 0] 61 rfl rfl HR.out HIR.out rfl HZA.out ?_)
      | (refine wpList_storeRow rfl rfl (w.heap.size + 1) zf (fcs 80 0) 64 rfl rfl HFF.out HIF.out rfl HAF.out ?_))
    exact bodyPost_ret (end_first rfl HFE.out.r rfl HFE.out.f rfl rfl rfl) rfl (FirstP.mk (r := ⟨80, 0, tz8 0⟩) (n := 0) rfl rfl HFE.out.b (tz8_tis _ _) (plain_nos _ _ _ (tis_tbd (tz8_tis w (fun _ => False))) rfl rfl rfl))
theorem decode8_none (w : World) (vB : Value) (b : List Nat) (hB : BSl w vB b) (hbl : b.length ≤ 8388608) (D : Int) (hD : D < 0 ∨ 1024 < D) : Calls Tryz.prog 13 #[vB, .int .i64 D] w (DecP w b ⟨80, 0, tz8 0⟩) :=
  decode8_from w vB b hB hbl D ⟨80, 0, tz8 0⟩ (fun _ => rfl) (Nat.zero_le _) (first8_none _ vB D hD)
theorem check8_none (w : World) (vB : Value) (b : List Nat) (hB : BSl w vB b) (hbl : b.length ≤ 8388608) (D : Int) (hD : D < 0 ∨ 1024 < D) : Calls Tryz.prog 18 #[vB, .int .i64 D] w (ChkP8 w 80 0) :=
  check8_from w vB b hB D ⟨80, 0, tz8 0⟩ (decode8_none _ vB b (hB.move (keep_below (below_alloc4 w _))) hbl D hD)
end
section
open Go.RowKit Go
def rb4 : List Nat := [130, 1, 97, 97]
def rv4 : Tv := .mk 8 false false 0 0 ⟨#[]⟩ [] ⟨0, 0, 0, []⟩ [] [.mk 3 false false 1 0 ⟨#[]⟩ [] ⟨0, 0, 0, []⟩ [] [], .mk 5 false false 0 0 ⟨#[97]⟩ [] ⟨0, 0, 0, []⟩ [] []]
theorem reads_one : mrun rb4 1 20 m0 = some ⟨0, 4, rv4⟩ := by kernel_rfl
theorem reads_two : mrun rb4 0 20 m0 = some ⟨81, 0, tz8 0⟩ := by kernel_rfl
/-- Two faults held against each other. -/
theorem eqflt (w : World) (e p e' p' : Nat) : (Op.equalIn 10000 64 (.agg (fcs e p)) (.agg (fcs e' p'))).run Tryz.prog w = .ok (decide (e = e' ∧ p = p')) w := by
  have u3 := Tryz.underlying3
  have u27 := Tryz.underlying62
  have a3 := Tryz.isAgg3
  have a27 := Tryz.isAgg62
  have z3 := Tryz.sizeOf3
  have z27 := Tryz.sizeOf62
  have hS : Tryz.prog.underlying 64 = some (.struct (Tryz.prog.fieldsOf 64)) := by kernel_rfl
  have hp : Tryz.prog.stoodInHeld 64 = false := by kernel_rfl
  unfold fcs
  rw [show (10000 : Nat) = 9999 + 1 from rfl, run_equalIn_agg w 9999 64 _ _ hS hp]
  simp only [Program.fieldsOf, Tryz.underlying64]
  go_simp
  by_cases h1 : e = e' <;> by_cases h2 : p = p' <;> first | (simp [h1, h2]; done) | (simp [h1, h2]; omega)
theorem eqgF : Tryz.prog.eqGuardType Tryz.prog.depth 64 = false := by kernel_rfl
theorem exec_eqflt {o : Oper} {a : Act} {x y : Operand} {T2 : TypeId} {e p e' p' : Nat} {w : World} (ho : o.op = .binOp .eql 64 x y T2) (hx : a.eval x = .agg (fcs e p)) (hy : a.eval y = .agg (fcs e' p')) : (execOp a.eval o).run Tryz.prog w = .ok (.value (.bool (decide (e = e' ∧ p = p')))) w := by
  unfold execOp
  simp only [ho, Sem.run_bind, hx, hy, run_eqGuard_agg w _ 64 x y _ _ eqgF, run_eql_struct, eqflt, Result.andThen_ok]
  rfl
theorem wpList_execW {ops : Array Oper} {rest : List Oper} {o : Oper} {a : Act} {Q : Exit → Act → World → Prop} {w : World} {v : Value} (hgd : Region.wanted o (yielded ops a.tmps) = true) (he : (execOp a.eval o).run Tryz.prog w = .ok (.value v) w) (h : wpList Tryz.prog ops Q rest (a.put o.dst v) w) : wpList Tryz.prog ops Q (o :: rest) a w := by
  refine wpList_wanted hgd fun K hK => ?_
  unfold Oper.wp
  rw [he]
  exact hK _ _ h
theorem one_mk8 (w : World) (f : Array Value) : Below w.heap.size w ((w.alloc (.cells zf 64)).setRow w.heap.size f) ∧ ((w.alloc (.cells zf 64)).setRow w.heap.size f).heap[w.heap.size]? = some (.cells f 64 (0, 0)) := row_mk8 w zf f 64
theorem lit4_bsl (w : World) : Below w.heap.size w (w.alloc (.cells #[.int .u8 130, .int .u8 1, .int .u8 97, .int .u8 97] 5)) ∧ BSl (w.alloc (.cells #[.int .u8 130, .int .u8 1, .int .u8 97, .int .u8 97] 5)) (.slice (some ⟨w.heap.size, 0, none⟩) 4 4) rb4 :=
  ⟨below_alloc4 w _, bsl_block (xs := rb4) (heap_alloc_new w _) (by decide) (by decide)⟩
theorem rv4_cells {w : World} {c : Array Value} (h : Tin w rv4 c) : c.size = 13 ∧ c[0]? = some (.int .i64 8) ∧ ∃ b off cap, c[12]? = some (.slice (some ⟨b, off, none⟩) 2 cap) ∧ w.cell? ⟨b, off + 18, none⟩ = some (.string ⟨#[97]⟩) := by
  obtain ⟨vy, vk, vi, hc, -, -, hv, -⟩ := h.parts
  obtain ⟨⟨a, cap, hva, _, hx⟩, _⟩ := hv
  obtain ⟨b, off, ha, hx⟩ := hx.resolve_left (by decide)
  obtain ⟨cs, h1, h2⟩ := hx 1 (.mk 5 false false 0 0 ⟨#[97]⟩ [] ⟨0, 0, 0, []⟩ [] []) rfl
  obtain ⟨vy', vk', vi', hc', -⟩ := h1.parts
  subst hc
  subst hva
  subst ha
  refine ⟨rfl, rfl, b, off, cap, rfl, ?_⟩
  have h3 := h2 5 (.string ⟨#[97]⟩) (by rw [hc']; rfl)
  exact h3
set_option maxRecDepth 1000000 in
set_option maxHeartbeats 4000000 in
theorem reads8_any (W : World) (hT : Tabs W) (w : World) (hW : Below W.heap.size W w) : Calls Tryz.prog 11 #[] w fun e w' => e = .returned (.bool true) ∧ Below w.heap.size w w' := by
  have HT := hide hT
  have HWW := hide hW
  have HL1 := hide (lit4_bsl w)
  have HS1 : Hid ((w.alloc (.cells #[.int .u8 130, .int .u8 1, .int .u8 97, .int .u8 97] 5)).heap.size = w.heap.size + 1) := by show _ = _; simp
  clear hT hW
  go_enter Tryz.func11, Tryz.ntmps11
  go_wp2_with fail
  generalize w.alloc (.cells #[.int .u8 130, .int .u8 1, .int .u8 97, .int .u8 97] 5) = w1 at *
  refine (decode8_any W HT.out w1 (HWW.out.trans (HL1.out.1.mono HWW.out.size)) _ rb4 HL1.out.2 (fun q hq => by have e : w.heap.size = q := by simpa [Value.ownBlock] using hq
                                                                                                                have := HS1.out; omega) (by decide) 1 (by decide) 20 _ reads_one).mono ?_
  rintro e w2 ⟨hb2, c, rfl, ht2, _⟩
  have hin : Tin w2 rv4 c := ht2.tin
  have hF0 := two_new8 w2
  have HN5 := hide hF0.r
  have HN6 := hide (hF0.setR c).f
  have hmk := two_mk8 w2 c (fcs 0 0)
  have HI5 : Hid ((Tryz.prog.info? 61).map (·.size) = some c.size) := by show _ = _; rw [hin.size13]; exact infoV
  have HZ5 : Hid (zv.size = c.size) := by show _ = _; rw [hin.size13]; rfl
  have HA5 := hide hin.all1
  have HIF : Hid ((Tryz.prog.info? 64).map (·.size) = some (fcs 0 0).size) := infoF8
  have HAF := hide (fcs_all 0 0)
  have HV3 := hide hmk.2.1
  have HG3 := hide hmk.2.2
  have HC3 := hide (hin.move (keep_below hmk.1))
  have HB3 : Hid (Below w.heap.size w ((((w2.alloc (.cells zv 61)).alloc (.cells zf 64)).setRow w2.heap.size c).setRow (w2.heap.size + 1) (fcs 0 0))) := (HL1.out.1.trans (hb2.mono HL1.out.1.size)).trans (hmk.1.mono (Nat.le_trans HL1.out.1.size hb2.size))
  clear hb2 ht2 hin hF0 hmk HL1 HS1
  go_upto_region 2 with (first
    | (refine wpList_storeRow rfl rfl w2.heap.size zv c 61 rfl rfl HN5.out HI5.out HZ5.out HA5.out ?_)
    | (refine wpList_storeRow rfl rfl (w2.heap.size + 1) zf (fcs 0 0) 64 rfl rfl HN6.out HIF.out rfl HAF.out ?_))
  (try simp only [Act.put]); (try simp only [List.setIfInBounds_toArray, List.set_cons_zero, List.set_cons_succ])
  unfold zv zf at HV3 HG3 HC3 HB3
  generalize (((w2.alloc (.cells #[.int .i64 0, .bool false, .bool false, .int .u64 0, .int .u64 0, .string ⟨#[]⟩, .slice none 0 0, .int .i64 0, .int .u64 0, .int .u64 0, .string ⟨#[]⟩, .slice none 0 0, .slice none 0 0] 61)).alloc (.cells #[.int .i64 0, .int .i64 0] 64)).setRow w2.heap.size c).setRow (w2.heap.size + 1) (fcs 0 0) = w3 at *
  clear HN5 HN6
  have HL4 := hide (lit4_bsl w3)
  have HS4 : Hid ((w3.alloc (.cells #[.int .u8 130, .int .u8 1, .int .u8 97, .int .u8 97] 5)).heap.size = w3.heap.size + 1) := by show _ = _; simp
  go_wp2_with fail
  generalize w3.alloc (.cells #[.int .u8 130, .int .u8 1, .int .u8 97, .int .u8 97] 5) = w4 at *
  have hbw4 : Below w.heap.size w w4 := HB3.out.trans (HL4.out.1.mono HB3.out.size)
  refine (check8_any W HT.out w4 (HWW.out.trans (hbw4.mono HWW.out.size)) _ rb4 HL4.out.2 (fun q hq => by have e : w3.heap.size = q := by simpa [Value.ownBlock] using hq
                                                                                                          have := HS4.out; omega) (by decide) 0 (by decide) 20 _ reads_two).mono ?_
  rintro e w5 ⟨hb5, rfl⟩
  have hb35 : Below w3.heap.size w3 w5 := HL4.out.1.trans (hb5.mono HL4.out.1.size)
  have hmk := one_mk8 w5 (fcs 81 0)
  have hb36 : Below w3.heap.size w3 ((w5.alloc (.cells zf 64)).setRow w5.heap.size (fcs 81 0)) := hb35.trans (hmk.1.mono hb35.size)
  have HN7 := hide (heap_alloc_new w5 (.cells zf 64))
  have HI7 : Hid ((Tryz.prog.info? 64).map (·.size) = some (fcs 81 0).size) := infoF8
  have HA7 := hide (fcs_all 81 0)
  have HG6 := hide hmk.2
  have HV6 := hide ((hb36.block _ (blk_lt HV3.out)).trans HV3.out)
  have HF6 := hide ((hb36.block _ (blk_lt HG3.out)).trans HG3.out)
  have HC6 := hide (HC3.out.move (keep_below hb36))
  have HB6 : Hid (Below w.heap.size w ((w5.alloc (.cells zf 64)).setRow w5.heap.size (fcs 81 0))) := HB3.out.trans (hb36.mono HB3.out.size)
  clear hbw4 hb5 hb35 hmk hb36 HL4 HS4 HV3 HG3 HC3 HB3
  go_upto_region 3 with (refine wpList_storeRow rfl rfl w5.heap.size zf (fcs 81 0) 64 rfl rfl HN7.out HI7.out rfl HA7.out ?_)
  (try simp only [Act.put]); (try simp only [List.setIfInBounds_toArray, List.set_cons_zero, List.set_cons_succ])
  unfold zf at HG6 HV6 HF6 HC6 HB6
  generalize (w5.alloc (.cells #[.int .i64 0, .int .i64 0] 64)).setRow w5.heap.size (fcs 81 0) = w6 at *
  clear HN7
  obtain ⟨hc13, k0, gb, off, cap, k12, k18⟩ := rv4_cells HC6.out
  have c0 : w6.cell? ⟨w2.heap.size, 0, none⟩ = some (.int .i64 8) := blk_cell HV6.out k0
  have c12 : w6.cell? ⟨w2.heap.size, 12, none⟩ = some (.slice (some ⟨gb, off, none⟩) 2 cap) := blk_cell HV6.out k12
  clear hc13 k0 k12
  go_wp2_with (first
    | (refine wpList_execW rfl (exec_fltAt (g := w2.heap.size + 1) (c := fcs 0 0) rfl rfl rfl HF6.out) ?_)
    | (refine wpList_execW rfl (exec_fltAt (g := w5.heap.size) (c := fcs 81 0) rfl rfl rfl HG6.out) ?_)
    | (refine wpList_execW rfl (exec_eqflt (e := 0) (p := 0) (e' := 0) (p' := 0) rfl rfl rfl) ?_)
    | (refine wpList_execW rfl (exec_eqflt (e := 81) (p := 0) (e' := 81) (p' := 0) rfl rfl rfl) ?_))
  go_ret
  exact ⟨rfl, HB6.out⟩
end
section
open Go.RowKit Go
theorem qstep_valAt {C : World → Prop} {ops : Array Oper} {o : Oper} {a : Act} {K : Act → Prop} {p : Operand} (hgd : Region.wanted o (yielded ops a.tmps) = true) (ho : o.op = .load 61 p) (g off : Nat) (cs : Array Value) (hn : cs.size = 13)
    (hp : a.eval p = .pointer (some ⟨g, off, none⟩)) (hc : ∀ w, C w → ∀ j u, cs[j]? = some u → w.cell? ⟨g, off + j, none⟩ = some u)
    (h : K (a.put o.dst (.agg cs))) : if Region.wanted o (yielded ops a.tmps) = true then o.quiet Tryz.prog a C K else K (a.put o.dst undef) := by
  rw [if_pos hgd]
  refine ⟨.agg cs, fun w hC => ?_, h⟩
  unfold Oper.quietAt execOp
  simp only [ho, Sem.run_bind, hp, load_val g off cs hn (hc w hC), Result.andThen_ok]
  exact ⟨rfl, rfl⟩
/-- Two values' blocks. -/
structure Bw (w wx : World) (c0 c1 : Array Value) : Prop where
  a : wx.heap[w.heap.size]? = some (.cells c0 61 (0, 0))
  c : wx.heap[w.heap.size + 1]? = some (.cells c1 61 (0, 0))
  b : Below w.heap.size w wx
theorem Bw.start (w : World) (c0 c1 : Array Value) : Bw w ((w.alloc (.cells c0 61)).alloc (.cells c1 61)) c0 c1 := by
  have h1 := heap_alloc_new w (.cells c0 61)
  have e1 : (w.alloc (.cells c0 61)).heap.size = w.heap.size + 1 := by simp
  have h2 := heap_alloc_new (w.alloc (.cells c0 61)) (.cells c1 61)
  rw [e1] at h2
  have b1 := below_alloc4 w (.cells c0 61)
  have b2 := below_alloc4 (w.alloc (.cells c0 61)) (.cells c1 61)
  exact ⟨blk_alloc _ h1, h2, b1.trans (b2.mono b1.size)⟩
theorem Bw.next {w wx wy : World} {c0 c1 : Array Value} (h : Bw w wx c0 c1) (hb : Below wx.heap.size wx wy) : Bw w wy c0 c1 :=
  ⟨(hb.block _ (blk_lt h.a)).trans h.a, (hb.block _ (blk_lt h.c)).trans h.c, h.b.trans (hb.mono h.b.size)⟩
theorem lk_in {w : World} {g : Nat} {t : Tv} {vy vk vi : Value} (h : w.heap[g]? = some (.cells (vcs t vy vk vi) 61 (0, 0))) {j : Nat} {u : Value} (hu : (lcs t.l)[j]? = some u) : w.cell? ⟨g, 7 + j, none⟩ = some u := by
  refine blk_cell h ?_
  match j, hu with
  | 0, hu => exact hu
  | 1, hu => exact hu
  | 2, hu => exact hu
  | 3, hu => exact hu
  | j + 4, hu => simp [lcs] at hu
theorem Tin.size {w : World} {t : Tv} {c : Array Value} (h : Tin w t c) : c.size = 13 := by
  obtain ⟨_, _, _, e, _⟩ := h.parts
  rw [e]
  rfl
end
section
open Go.RowKit Go

end
section
open Go.RowKit Go

end
section
open Go.RowKit Go
theorem nstr_eq {xs : List Nat} {S : ByteArray} (h : ∀ x ∈ xs, x < 256) : ((nstr xs).toList == S.toList) = decide (xs = sl S) := by
  by_cases e : xs = sl S
  · rw [e, nstr_sl]
    simp
  · rw [decide_eq_false e]
    refine beq_eq_false_iff_ne.2 fun h2 => e (nstr_inj h (sl_byte S) ?_)
    rw [nstr_sl]
    exact h2
end
section
open Go.RowKit Go
theorem str_bne (s t : ByteArray) : (s.toList != t.toList) = !decide (s = t) := by
  have h := nstr_eq (S := t) (sl_byte s)
  rw [nstr_sl] at h
  unfold bne
  rw [h]
  congr 1
  by_cases e : s = t
  · rw [e]; simp
  · have e2 : sl s ≠ sl t := fun h2 => e (by rw [← nstr_sl s, h2, nstr_sl])
    simp [e, e2]
set_option maxRecDepth 1000000 in
set_option maxHeartbeats 400000 in
theorem eqStrings_any {w : World} {v u : Value} {ks ls : List ByteArray} (hv : SSl w v ks) (hu : SSl w u ls) :
    Calls Tryz.prog 25 #[v, u] w fun e w' => e = .returned (.bool (decide (ks = ls))) ∧ Below w.heap.size w w' := by
  generalize hR : decide (ks = ls) = R
  have HR := hide hR
  clear hR
  obtain ⟨⟨av, cv, rfl, _, hf⟩, hkm, _⟩ := hv
  obtain ⟨⟨au, cu, rfl, _, hg⟩, hlm, _⟩ := hu
  have HF := hide hf
  have HG := hide hg
  clear hf hg
  by_cases hl : ks.length = ls.length
  · have g0 : ((ks.length : Int) != (ls.length : Int)) = false := by rw [nat_ne]; simp [hl]
    have HL := hide hl
    clear hl
    go_enter Tryz.func25, Tryz.ntmps25
    go_wp2_with fail
    go_loopw [5] (fun ii wx => ∃ i : Nat, i ≤ ks.length ∧ ii = .int .i64 (i : Nat) ∧ Hid (∀ j, j < i → ks[j]? = ls[j]?) ∧ Hid (Below w.heap.size w wx)) (fun ii _ => ks.length - (intOf ii).toNat)
    case atStart => exact ⟨0, by omega, rfl, fun j hj => absurd hj (by omega), Below.refl _ _⟩
    case round =>
      obtain ⟨i, hi, rfl, HI, HBw⟩ := hrel
      by_cases hlt : i < ks.length
      · have g1 : (i : Int) < (ks.length : Int) := by omega
        have hlt2 : i < ls.length := by rw [← HL.out]; exact hlt
        have g2 : (i : Int) < (ls.length : Int) := by omega
        obtain ⟨s, hs⟩ : ∃ s, ks[i]? = some s := ⟨ks[i], List.getElem?_eq_getElem hlt⟩
        obtain ⟨t, ht⟩ : ∃ s, ls[i]? = some s := ⟨ls[i], List.getElem?_eq_getElem hlt2⟩
        obtain ⟨b, off, rfl, hcc⟩ := HF.out.resolve_left (fun h => by rw [h] at hlt; simp at hlt)
        obtain ⟨b2, off2, rfl, hcd⟩ := HG.out.resolve_left (fun h => by rw [h] at hlt2; simp at hlt2)
        have c1 := keep_below HBw.out _ _ (hcc i s hs)
        have c2 := keep_below HBw.out _ _ (hcd i t ht)
        clear hcc hcd HF HG
        by_cases he : s = t
        · as_aux_lemma =>
          have hne : (s.toList == t.toList) = true := by rw [he]; simp
          have HI2 : Hid (∀ j, j < i + 1 → ks[j]? = ls[j]?) := fun j hj => by
            by_cases hji : j = i
            · rw [hji, hs, ht, he]
            · exact HI.out j (by omega)
          clear he hs ht HI
          go_wp2_with fail
          go_region
          go_wp2_with fail
          have HB2 : Hid (Below w.heap.size w wr.drew) := HBw.out.drew
          go_roundw
          case rel => exact ⟨i + 1, by omega, by go_num, HI2, HB2⟩
          case measure => simp [intOf]; omega
        · as_aux_lemma =>
          have hne : (s.toList == t.toList) = false := by have h := str_bne s t; simp [he] at h; exact beq_eq_false_iff_ne.2 h
          have HN : Hid (ks ≠ ls) := fun h => by
            rw [h, ht] at hs
            exact he (Option.some.inj hs).symm
          clear he hs ht HI
          go_wp2_with fail
          go_region
          go_wp2_with fail
          go_ret
          exact ⟨by rw [← HR.out, decide_eq_false HN.out]; rfl, HBw.out.drew⟩
      · as_aux_lemma =>
        have g1 : ¬ (i : Int) < (ks.length : Int) := by omega
        have HN : Hid (ks = ls) := List.ext_getElem? fun j => by
          by_cases hj : j < i
          · exact HI.out j hj
          · rw [List.getElem?_eq_none (by omega), List.getElem?_eq_none (by rw [← HL.out]; omega)]
        go_wp2_with fail
        go_ret
        exact ⟨by rw [← HR.out, decide_eq_true HN.out]; rfl, HBw.out⟩
  · as_aux_lemma =>
    have g0 : ((ks.length : Int) != (ls.length : Int)) = true := by rw [nat_ne]; simp [hl]
    have HN : Hid (ks ≠ ls) := fun h => hl (by rw [h])
    clear hl HF HG
    go_enter Tryz.func25, Tryz.ntmps25
    go_wp2_with fail
    go_ret
    exact ⟨by rw [← HR.out, decide_eq_false HN.out]; rfl, Below.refl _ _⟩
end
section
open Go.RowKit Go
theorem r_yes {R : Bool} {p : Prop} (h : R = true ↔ p) (hp : p) : R = true := h.2 hp
theorem r_no {R : Bool} {p : Prop} (h : R = true ↔ p) (hp : ¬ p) : R = false := by
  cases R with
  | false => rfl
  | true => exact absurd (h.1 rfl) hp
def EqsV (N : Nat) : Prop := ∀ t : Tv, SizeOf.sizeOf t < N → ∀ (u : Tv) (r : Bool), (r = true ↔ t = u) → ∀ (w : World) (c cs : Array Value), Tin w t c → Tin w u cs → Calls Tryz.prog 17 #[.agg c, .agg cs] w fun e w' => e = .returned (.bool r) ∧ Below w.heap.size w w'
set_option maxRecDepth 1000000 in
set_option maxHeartbeats 1000000 in
theorem eqValues_any (N : Nat) (ih : EqsV N) (is ls : List Tv) (hN : ∀ u ∈ is, SizeOf.sizeOf u < N) (w : World) (v v2 : Value) (R : Bool) (hR : R = true ↔ is = ls) (hv : VSl w v is) (hv2 : VSl w v2 ls) :
    Calls Tryz.prog 26 #[v, v2] w fun e w' => e = .returned (.bool R) ∧ Below w.heap.size w w' := by
  have HR := hide hR
  clear hR
  have HIH := hide ih
  have HNN := hide hN
  obtain ⟨⟨a, ca, rfl, _, hf⟩, hm1⟩ := hv
  obtain ⟨⟨a2, ca2, rfl, _, hg⟩, hm2⟩ := hv2
  have HF := hide hf
  have HG := hide hg
  clear ih hN hf hg
  by_cases hl : is.length = ls.length
  · have g0 : ((is.length : Int) != (ls.length : Int)) = false := by rw [nat_ne]; simp [hl]
    have HL := hide hl
    clear hl
    go_enter Tryz.func26, Tryz.ntmps26
    go_wp2_with fail
    go_loopw [5] (fun ii wx => ∃ i : Nat, i ≤ is.length ∧ ii = .int .i64 (i : Nat) ∧ Hid (∀ j, j < i → is[j]? = ls[j]?) ∧ Hid (Below w.heap.size w wx)) (fun ii _ => is.length - (intOf ii).toNat)
    case atStart => exact ⟨0, by omega, rfl, fun j hj => absurd hj (by omega), Below.refl _ _⟩
    case round =>
      obtain ⟨i, hi, rfl, HI, HBw⟩ := hrel
      by_cases hlt : i < is.length
      · have g1 : (i : Int) < (is.length : Int) := by omega
        have hlt2 : i < ls.length := by rw [← HL.out]; exact hlt
        have g2 : (i : Int) < (ls.length : Int) := by omega
        obtain ⟨u, hu⟩ : ∃ u, is[i]? = some u := ⟨is[i], List.getElem?_eq_getElem hlt⟩
        obtain ⟨u2, hu2⟩ : ∃ u, ls[i]? = some u := ⟨ls[i], List.getElem?_eq_getElem hlt2⟩
        obtain ⟨b, off, rfl, hcells⟩ := HF.out.resolve_left (fun h => by rw [h] at hlt; simp at hlt)
        obtain ⟨b2, off2, rfl, hcells2⟩ := HG.out.resolve_left (fun h => by rw [h] at hlt2; simp at hlt2)
        obtain ⟨c, hc, hcc⟩ := hcells i u hu
        obtain ⟨c2, hc2, hcc2⟩ := hcells2 i u2 hu2
        have HSc := hide hc.size
        have HSu := hide hc2.size
        have HQ1 : Hid (∀ wx, (∃ t : Ext wr, wx = t.w') → ∀ j x, c[j]? = some x → wx.cell? ⟨b, off + i * 13 + j, none⟩ = some x) := by
          rintro _ ⟨t, rfl⟩ j x hx
          exact keep_below t.h _ _ (keep_below HBw.out _ _ (hcc j x hx))
        have HQ2 : Hid (∀ wx, (∃ t : Ext wr, wx = t.w') → ∀ j x, c2[j]? = some x → wx.cell? ⟨b2, off2 + i * 13 + j, none⟩ = some x) := by
          rintro _ ⟨t, rfl⟩ j x hx
          exact keep_below t.h _ _ (keep_below HBw.out _ _ (hcc2 j x hx))
        have HC0 : Hid (∀ r : Bool, (r = true ↔ u = u2) → ∀ t : Ext wr, Calls Tryz.prog 17 #[.agg c, .agg c2] t.w' fun e w'' => e = .returned (.bool r) ∧ ∃ t' : Ext wr, w'' = t'.w') := fun r hr t => Calls.ext_below (HIH.out u (HNN.out u (List.mem_of_getElem? hu)) u2 r hr t.w' c c2 ((hc.move (keep_below HBw.out)).move (keep_below t.h)) ((hc2.move (keep_below HBw.out)).move (keep_below t.h)))
        clear hcells hc hcc hcells2 hc2 hcc2 HF HG
        by_cases he : u = u2
        · as_aux_lemma =>
          have HC1 : Hid (∀ t : Ext wr, Calls Tryz.prog 17 #[.agg c, .agg c2] t.w' fun e w'' => e = .returned (.bool true) ∧ ∃ t' : Ext wr, w'' = t'.w') := HC0.out true (by simp [he])
          have HI2 : Hid (∀ j, j < i + 1 → is[j]? = ls[j]?) := fun j hj => by
            by_cases hji : j = i
            · rw [hji, hu, hu2, he]
            · exact HI.out j (by omega)
          clear he hu hu2 HI HC0
          go_wp2_with fail
          refine region_ext (by kernel_rfl) (by kernel_rfl) ?_
          repeat (
            refine wpQuiet_step (fun K hK => ?_)
            first
              | (refine qstep_valAt rfl rfl b (off + i * 13) c HSc.out rfl HQ1.out (hK _ ?_); clear hK K)
              | (refine qstep_valAt rfl rfl b2 (off2 + i * 13) c2 HSu.out rfl HQ2.out (hK _ ?_); clear hK K)
              | (go_simp
                 first
                   | (refine hK _ ?_; clear hK K)
                   | (apply Exists.intro
                      refine ⟨fun _ => ?_, hK _ ?_⟩
                      (go_at_call 17; exact HC1.out _)
                      clear hK K)))
          refine wpQuiet_nil ?_
          rintro _ ⟨tq, rfl⟩
          have HB2 : Hid (Below w.heap.size w tq.w') := HBw.out.trans (tq.h.mono HBw.out.size)
          go_wp2_with fail
          go_roundw
          case rel => exact ⟨i + 1, by omega, by go_num, HI2, HB2⟩
          case measure => simp [intOf]; omega
        · as_aux_lemma =>
          have HC1 : Hid (∀ t : Ext wr, Calls Tryz.prog 17 #[.agg c, .agg c2] t.w' fun e w'' => e = .returned (.bool false) ∧ ∃ t' : Ext wr, w'' = t'.w') := HC0.out false (by simp [he])
          have HN : Hid (is ≠ ls) := fun h => by
            rw [h, hu2] at hu
            exact he (Option.some.inj hu).symm
          clear he hu hu2 HI HC0
          go_wp2_with fail
          refine region_ext (by kernel_rfl) (by kernel_rfl) ?_
          repeat (
            refine wpQuiet_step (fun K hK => ?_)
            first
              | (refine qstep_valAt rfl rfl b (off + i * 13) c HSc.out rfl HQ1.out (hK _ ?_); clear hK K)
              | (refine qstep_valAt rfl rfl b2 (off2 + i * 13) c2 HSu.out rfl HQ2.out (hK _ ?_); clear hK K)
              | (go_simp
                 first
                   | (refine hK _ ?_; clear hK K)
                   | (apply Exists.intro
                      refine ⟨fun _ => ?_, hK _ ?_⟩
                      (go_at_call 17; exact HC1.out _)
                      clear hK K)))
          refine wpQuiet_nil ?_
          rintro _ ⟨tq, rfl⟩
          have HB2 : Hid (Below w.heap.size w tq.w') := HBw.out.trans (tq.h.mono HBw.out.size)
          go_wp2_with fail
          go_ret
          exact ⟨by rw [r_no HR.out HN.out]; rfl, HB2.out⟩
      · as_aux_lemma =>
        have g1 : ¬ (i : Int) < (is.length : Int) := by omega
        have HN : Hid (is = ls) := List.ext_getElem? fun j => by
          by_cases hj : j < i
          · exact HI.out j hj
          · rw [List.getElem?_eq_none (by omega), List.getElem?_eq_none (by rw [← HL.out]; omega)]
        go_wp2_with fail
        go_ret
        exact ⟨by rw [r_yes HR.out HN.out]; rfl, HBw.out⟩
  · as_aux_lemma =>
    have g0 : ((is.length : Int) != (ls.length : Int)) = true := by rw [nat_ne]; simp [hl]
    have HN : Hid (is ≠ ls) := fun h => hl (by rw [h])
    clear hl HF HG
    go_enter Tryz.func26, Tryz.ntmps26
    go_wp2_with fail
    go_ret
    exact ⟨by rw [r_no HR.out HN.out]; rfl, Below.refl _ _⟩
end
end Go.Proofs.YtdejcapbggjjgaaGreatDoor

import Derived.Test.YtidglddjinfncaaDoorJn
import Derived.Test.YtidglddjinfncaaDoorTie
import Derived.Test.YtidglddjinfncaaDoorCards
import Derived.ProofKit
namespace Go.Proofs.YtidglddjinfncaaDoor
section
open Go.RowKit Go
/-- What a walk over links has in hand. -/
structure Lks (w wx : World) (c : Array Value) : Prop where
  t : wx.heap[w.heap.size]? = some (.cells c 28 (0, 0))
  b : Below w.heap.size w wx
  c : Cb wx
theorem Lks.below {w wx wy : World} {c : Array Value} (h : Lks w wx c) (hb : Below wx.heap.size wx wy) : Lks w wy c := ⟨(hb.block _ (blk_lt h.t)).trans h.t, h.b.trans (hb.mono h.b.size), h.c.below hb⟩
theorem Lks.start {w : World} (c : Array Value) (hcb : Cb w) : Lks w (w.alloc (.cells c 28)) c := ⟨heap_alloc_new w _, below_alloc4 w _, hcb.below (below_alloc4 w _)⟩
/-- A link somewhere in a block. -/
theorem load_lk {w : World} (g o : Nat) (l : Lk) (hc : ∀ j u, (lcs l)[j]? = some u → w.cell? ⟨g, o + j, none⟩ = some u) : (Instr.loadAt 35 (.pointer (some ⟨g, o, none⟩))).run Tryd.prog w = .ok (.agg (lcs l)) w := by
  have hl := run_loadCells_list (P := Tryd.prog) (w := w) ⟨g, o, none⟩ (lcs l).toList (fun j v hv => by rw [addr_add]; exact hc j v (by simpa using hv))
  have hi := info61
  simp only [Instr.loadAt, Instr.sureAddr, Sem.run_bind, Sem.run_pure, Result.andThen]
  cases hq : Tryd.prog.info? 35 with
  | none => simp [hq] at hi
  | some i =>
    have hs : i.size = 4 := by simpa [hq] using hi
    have hn : (lcs l).toList.length = 4 := rfl
    rw [hn] at hl
    have ha : (isAgg 35).run Tryd.prog w = .ok true w := by
      unfold isAgg
      rw [Sem.run_bind, run_underlying Tryd.underlying35 w]
      simp
    simp [loadVar, ha, sizeOf, typeInfo, hq, hs, hl]
theorem qstep_lkAt {C : World → Prop} {ops : Array Oper} {o : Oper} {a : Act} {K : Act → Prop} {p : Operand} (hgd : Region.wanted o (yielded ops a.tmps) = true) (ho : o.op = .load 35 p) (g off : Nat) (l : Lk)
    (hp : a.eval p = .pointer (some ⟨g, off, none⟩)) (hc : ∀ w, C w → ∀ j u, (lcs l)[j]? = some u → w.cell? ⟨g, off + j, none⟩ = some u)
    (h : K (a.put o.dst (.agg (lcs l)))) : if Region.wanted o (yielded ops a.tmps) = true then o.quiet Tryd.prog a C K else K (a.put o.dst undef) := by
  rw [if_pos hgd]
  refine ⟨.agg (lcs l), fun w hC => ?_, h⟩
  unfold Oper.quietAt execOp
  simp only [ho, Sem.run_bind, hp, load_lk g off l (hc w hC), Result.andThen_ok]
  exact ⟨rfl, rfl⟩
theorem wpList_lkAt {ops : Array Oper} {rest : List Oper} {o : Oper} {a : Act} {Q : Exit → Act → World → Prop} {w : World} {p : Operand} (hgd : Region.wanted o (yielded ops a.tmps) = true) (ho : o.op = .load 35 p) (g off : Nat) (l : Lk)
    (hp : a.eval p = .pointer (some ⟨g, off, none⟩)) (hc : ∀ j u, (lcs l)[j]? = some u → w.cell? ⟨g, off + j, none⟩ = some u)
    (h : wpList Tryd.prog ops Q rest (a.put o.dst (.agg (lcs l))) w) : wpList Tryd.prog ops Q (o :: rest) a w := by
  refine wpList_wanted hgd fun K hK => ?_
  unfold Oper.wp execOp
  simp only [ho, Sem.run_bind, hp, load_lk g off l hc, Result.andThen_ok]
  exact hK _ _ h
/-- The reference's Less. -/
theorem refLess_any (w : World) (a b : Lk) (ha : Lkb a) (hb : Lkb b) : Calls Tryd.prog 24 #[lkv a, lkv b] w fun e w' => e = .returned (.bool (llt a b)) ∧ Below w.heap.size w w' := by
  have h := lLess_any w a.v a.c a.h (nstr a.d) b.v b.c b.h (nstr b.d) ha.h (by rw [ha.size]; exact ha.n) hb.h (by rw [hb.size]; exact hb.n)
  unfold lb at h
  rw [sl_nstr ha.d, sl_nstr hb.d] at h
  exact h
set_option maxRecDepth 1000000 in
set_option maxHeartbeats 2000000 in
theorem order_any (w : World) (aL : Option Addr) (nL cL : Nat) (v1 v2 v3 v4 : Value) (hcb : Cb w) (hL : LinksIn w (.slice aL nL cL) nL) :
    Calls Tryd.prog 5 #[.agg #[.slice aL nL cL, v1, v2, v3, v4]] w fun e w' => e = .returned (.bool true) ∧ Below w.heap.size w w' := by
  have HX0 := hide (Lks.start #[.slice aL nL cL, v1, v2, v3, v4] hcb)
  have HL := hide hL
  have hmx := hL.max
  clear hcb hL
  go_enter Tryd.func5, Tryd.ntmps5
  go_wp2_with fail
  generalize w.alloc (.cells #[.slice aL nL cL, v1, v2, v3, v4] 28) = w0 at *
  refine (begun4_any w0 HX0.out.c).mono ?_
  rintro e w1 ⟨rfl, hb1⟩
  have HX1 := hide (HX0.out.below hb1)
  clear hb1 HX0
  go_wp2_with fail
  go_loopw [3] (fun ii wx => ∃ i : Nat, i ≤ 60 ∧ ii = .int .i64 (i : Nat) ∧ Hid (Lks w wx #[.slice aL nL cL, v1, v2, v3, v4])) (fun ii _ => 60 - (intOf ii).toNat)
  case atStart => exact ⟨0, by omega, rfl, HX1⟩
  case round =>
    obtain ⟨i, hi, rfl, HX⟩ := hrel
    clear HX1
    have q0 : wr.cell? ⟨w.heap.size, 0, none⟩ = some (.slice aL nL cL) := blk_cell HX.out.t rfl
    by_cases hil : i < nL ∧ i < 60
    · obtain ⟨hil, hi60⟩ := hil
      have g1 : (i : Int) < (nL : Int) := by omega
      have g2 : (i : Int) < 60 := by omega
      obtain ⟨a', cap', hv, hform⟩ := HL.out.form
      injection hv with e1 e2 e3
      subst e1
      obtain ⟨b, off, rfl, hcells⟩ := hform.resolve_left (by omega)
      obtain ⟨li, hli, hci⟩ := hcells i hil
      have HLI := hide hli
      have HCI := hide hci
      have HCS := hide hcells
      clear hform hcells hli hci e2 e3
      go_wp2_with fail
      go_loopw [4] (fun kk wx => ∃ k : Nat, k ≤ 60 ∧ kk = .int .i64 (k : Nat) ∧ Hid (Lks w wx #[.slice (some ⟨b, off, none⟩) nL cL, v1, v2, v3, v4])) (fun kk _ => 60 - (intOf kk).toNat)
      case atStart => exact ⟨0, by omega, rfl, HX⟩
      case round => as_aux_lemma =>
        rename World => wz
        obtain ⟨k, hk, rfl, HY⟩ := hrel
        clear HX q0
        have q0 : wz.cell? ⟨w.heap.size, 0, none⟩ = some (.slice (some ⟨b, off, none⟩) nL cL) := blk_cell HY.out.t rfl
        by_cases hkl : k < nL ∧ k < 60
        · obtain ⟨hkl, hk60⟩ := hkl
          have g3 : (k : Int) < (nL : Int) := by omega
          have g4 : (k : Int) < 60 := by omega
          obtain ⟨lk, hlk, hck⟩ := HCS.out k hkl
          go_wp2_with fail
          have k0 : ∀ t : Ext wz, t.w'.cell? ⟨w.heap.size, 0, none⟩ = some (.slice (some ⟨b, off, none⟩) nL cL) := fun t => Ext.cell q0 t
          have HQI : Hid (∀ wx, (∃ t : Ext wz, wx = t.w') → ∀ j u, (lcs li)[j]? = some u → wx.cell? ⟨b, off + i * 4 + j, none⟩ = some u) := by
            rintro _ ⟨t, rfl⟩ j u hu
            exact keep_below t.h _ _ (keep_below HY.out.b _ _ (HCI.out j u hu))
          have HQK : Hid (∀ wx, (∃ t : Ext wz, wx = t.w') → ∀ j u, (lcs lk)[j]? = some u → wx.cell? ⟨b, off + k * 4 + j, none⟩ = some u) := by
            rintro _ ⟨t, rfl⟩ j u hu
            exact keep_below t.h _ _ (keep_below HY.out.b _ _ (hck j u hu))
          have HC1 : Hid (∀ t : Ext wz, Calls Tryd.prog 23 #[.agg (lcs li), .agg (lcs lk)] t.w' fun e w'' => e = .returned (.bool (llt li lk)) ∧ ∃ t' : Ext wz, w'' = t'.w') := fun t => Calls.ext_below (less4_any t.w' li lk HLI.out hlk)
          have HC2 : Hid (∀ t : Ext wz, Calls Tryd.prog 24 #[.agg (lcs li), .agg (lcs lk)] t.w' fun e w'' => e = .returned (.bool (llt li lk)) ∧ ∃ t' : Ext wz, w'' = t'.w') := fun t => Calls.ext_below (refLess_any t.w' li lk HLI.out hlk)
          generalize llt li lk = lt at *
          refine region_ext (by kernel_rfl) (by kernel_rfl) ?_
          repeat (
            refine wpQuiet_step (fun K hK => ?_)
            first
              | (refine qstep_lkAt rfl rfl b (off + i * 4) li rfl HQI.out (hK _ ?_); clear hK K)
              | (refine qstep_lkAt rfl rfl b (off + k * 4) lk rfl HQK.out (hK _ ?_); clear hK K)
              | (go_simp
                 first
                   | (refine hK _ ?_; clear hK K)
                   | (apply Exists.intro
                      refine ⟨fun _ => ?_, hK _ ?_⟩
                      (first
                        | (go_at_call 23; exact HC1.out _)
                        | (go_at_call 24; exact HC2.out _))
                      clear hK K)))
          refine wpQuiet_nil ?_
          rintro _ ⟨tq, rfl⟩
          have HZ := hide (HY.out.below tq.h)
          go_wp2_with fail
          go_roundw
          case rel => exact ⟨k + 1, by omega, by go_num, HZ⟩
          case measure => simp [intOf]; omega
        · by_cases h3 : k < nL
          · have g3 : (k : Int) < (nL : Int) := by omega
            have g4 : ¬ (k : Int) < 60 := by omega
            go_wp2_with fail
            go_roundw
            case rel => exact ⟨i + 1, by omega, by go_num, HY⟩
            case measure => simp [intOf]; omega
          · have g3 : ¬ (k : Int) < (nL : Int) := by omega
            go_wp2_with fail
            go_roundw
            case rel => exact ⟨i + 1, by omega, by go_num, HY⟩
            case measure => simp [intOf]; omega
    · by_cases h3 : i < nL
      · have g3 : (i : Int) < (nL : Int) := by omega
        have g4 : ¬ (i : Int) < 60 := by omega
        go_wp2_with fail
        refine (begun4_any wr HX.out.c).mono ?_
        rintro e w9 ⟨rfl, hb9⟩
        have HB9 := hide (HX.out.below hb9).b
        clear hb9
        go_wp2_with fail
        go_ret
        exact ⟨rfl, HB9.out⟩
      · have g3 : ¬ (i : Int) < (nL : Int) := by omega
        go_wp2_with fail
        refine (begun4_any wr HX.out.c).mono ?_
        rintro e w9 ⟨rfl, hb9⟩
        have HB9 := hide (HX.out.below hb9).b
        clear hb9
        go_wp2_with fail
        go_ret
        exact ⟨rfl, HB9.out⟩
end
section
open Go.ChangeShapes Go.WideShapes Go.ChangeAt Go.RowKit Go.Deep Go.Joins
set_option maxRecDepth 100000 in
theorem lorder_lifted (os : Os) (started : os.Started) (H : Type) (enc : TypeId × Value → H) :
    ReturnsInHanded {} Tryd.checked os 5 .any (fun w args => (Rows.linkOrderSpec.pre enc Tryd.prog Tryd.f5 Rows.linkOrderRow.domain false w args ∧ laidMet Tryd.prog Rows.linkOrderRow.laid w) ∧ sizedMet enc Tryd.prog Tryd.f5 (OpenSpec.ofChange Rows.linkOrderSpec) false w args)
      (Rows.linkOrderSpec.post enc Tryd.prog Tryd.f5 false true false false) := by
  refine returnsInHanded_of_change_and (C := Tryd.checked) (X := fun w _ => laidMet Tryd.prog Rows.linkOrderRow.laid w) (fun _ _ _ hh h => h.of_heap hh) Tryd.own started (by kernel_rfl) Tryd.func5
    (ChangeSpec.witness_at (enc := enc) (C := Tryd.checked) (os := os) (X := fun w _ => laidMet Tryd.prog Rows.linkOrderRow.laid w) false (laidWorld os) #[.agg #[.slice none 0 0, .slice none 0 0, .slice none 0 0, .slice none 0 0, .slice none 0 0]] 8 rfl (by kernel_rfl) (by kernel_rfl) (by kernel_rfl) (by kernel_rfl) (by kernel_rfl) (laid_met os _)) ?_
  intro W base args ds gs before hval0 hW _ hsz0 hLd _
  have hval : ∀ (j : Nat) t v, Tryd.f5.params[j]? = some t → args[j]? = some v → Value.okWide Tryd.prog W .any base t v := hval0
  have hsz : (DataW.weightsEach Tryd.prog (Tryd.f5.params.toList ++ Rows.linkOrderSpec.plain.varTypes Tryd.prog) (ds ++ gs)).all (· ≤ reachBytes) = true := hsz0
  have hW' := hW
  have hcb : Cb W := cb_of_laid hLd
  obtain ⟨p, q, hA0, hV, rfl, hfz, hnd⟩ := hW
  have hA : DataW.TrodAll enc Tryd.prog W 0 (fun _ => true) true Tryd.f5.params.toList args.toList ds p := hA0
  rw [Tryd.params5] at hA hval hsz
  obtain ⟨v0, d0, rfl, rfl, h0⟩ := trodAll_one hA
  obtain ⟨rfl, rfl⟩ := trodVars_none hV
  have k0 := h0
  have lt0 : ∀ x ∈ p, x.block < W.heap.size := by obtain ⟨m, hm⟩ := k0; exact DataW.trod_lt m _ _ _ hm
  have hwalk : Calls Tryd.prog 5 #[v0] W fun e w' => e = .returned (.bool true) ∧ Below W.heap.size W w' := by
    have hs1 : (d0.weights Tryd.prog 28).all (· ≤ reachBytes) = true := by
      have e : DataW.weightsEach Tryd.prog ([28] ++ Rows.linkOrderSpec.plain.varTypes Tryd.prog) ([d0] ++ []) = d0.weights Tryd.prog 28 ++ DataW.weightsEach Tryd.prog (Rows.linkOrderSpec.plain.varTypes Tryd.prog) [] := rfl
      rw [e, List.all_append, Bool.and_eq_true] at hsz
      exact hsz.1
    obtain ⟨aL, nL, cL, v1, aB, nB, cB, aS, nS, cS, v4, rfl, hL, hB, hS⟩ := links_arg (hval 0 28 v0 rfl rfl) h0 hs1
    exact order_any W aL nL cL v1 _ _ v4 hcb hL
  clear hA0 hval0
  refine hwalk.mono fun e W' ⟨he, bel⟩ => ?_
  subst he
  exact ⟨_, rfl, _, _, _, [], _, [], hW', trodAll_mk1 (shut_bool Tryd.underlying4 _), trodAll_mk1 (Below.trod Tryd.laidOut (by kernel_rfl) (of_decide_eq_true (by kernel_rfl)) k0 bel lt0), rfl, bel.frame _, fun h => by cases h⟩

theorem lorder_row : Rows.LinkOrderSaid :=
  OpenClaim.holds_of_wide 5 Tryd.f5 rfl rfl rfl rfl rfl rfl rfl ⟨rfl, rfl, rfl, rfl, rfl⟩ rfl rfl rfl rfl rfl (by kernel_rfl) Tryd.func5 (by kernel_rfl)
    (of_decide_eq_true (by kernel_rfl)) (by unfold Func.isWrapper; first | (rw [if_pos (by decide +kernel)]; kernel_rfl) | (rw [if_neg (by decide +kernel)]; exact ⟨rfl, rfl⟩))
    (fun os started H enc _ => lorder_lifted os started H enc)

theorem lorder_holds : Rows.LinkOrderCardSaid :=
  Claim7.holds_tied_plain_at .later [] [.data] true (true, "acb858d1d2edd2252cede6da87f18234aef21eb2925c22bf7a018d6de849c8c4") false
    lorder_row (fun _ h => by cases h) (by kernel_rfl) (fun _ h => by cases h) linkOrder_row_tie rfl ⟨rfl, rfl⟩ (by kernel_rfl) rfl
    (fun f fn hf hfn => by
      obtain rfl : f = 5 := Option.some.inj ((show Tryd.prog.funcNamed "trellis/trellislaw4.LinkOrder" = some 5 by kernel_rfl).symm.trans hf) |>.symm
      obtain rfl : fn = Tryd.f5 := (Option.some.inj (Tryd.func5.symm.trans hfn)).symm
      exact ⟨by kernel_rfl, fun j t ht => by
        rw [Tryd.params5] at ht
        have h3 : t = 28 := by
          rcases j with _ | j
          · simpa using ht.symm
          · simp at ht
        subst h3
        exact (show Tryd.prog.wantsStandIn 28 = false by kernel_rfl)⟩)
    (by kernel_rfl)
#print axioms lorder_holds
end
end Go.Proofs.YtidglddjinfncaaDoor

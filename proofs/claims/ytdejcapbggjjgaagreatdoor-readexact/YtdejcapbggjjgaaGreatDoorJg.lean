import Derived.Test.YtdejcapbggjjgaaGreatDoorJa
import Derived.Laws.IdiomStrings
import Derived.Deep.RegionLaw
import Derived.Test.YtdejcapbggjjgaaGreatDoorJf
import Derived.Test.YtdejcapbggjjgaaGreatDoorJb
import Derived.Test.YtdejcapbggjjgaaGreatDoorJd
import Derived.Test.YtdejcapbggjjgaaGreatDoorJc
import Derived.Test.YtdejcapbggjjgaaGreatDoorJe
namespace Go.Proofs.YtdejcapbggjjgaaGreatDoor
section
open Go.RowKit

end
section
open Go.RowKit

end
section
open Go.RowKit
section
variable {w0 : World} {base B : Nat} {vb0 vo0 : Value} {es0 : List Ent} {a t d u : Nat}

end
end
section
open Go.RowKit

end
section
open Go.RowKit
/-- A book at block B, all of whose memory lies within F; t lists have been handed to it. -/
def BookAt (w : World) (base B : Nat) (F : Nat → Prop) (t : Nat) : Prop := ∃ vb vo es a d u, BookOk w base B vb vo es a t d u ∧ ∀ k, Foot B vb vo es k → F k

theorem foot_lt {w : World} {base B : Nat} {vb vo : Value} {es : List Ent} {a t d u : Nat} (h : BookOk w base B vb vo es a t d u) : ∀ k, Foot B vb vo es k → base ≤ k ∧ k < w.heap.size := by
  intro k hk
  rcases hk with rfl | hk | hk | ⟨e, he, hk⟩
  · exact ⟨h.hbase, blk_lt h.blk⟩
  · exact own_back h.hb k hk
  · exact own_back h.ho k hk
  · exact own_back (h.he e he) k hk

theorem BookAt.mono {w : World} {base B : Nat} {F G : Nat → Prop} {t : Nat} (h : BookAt w base B F t) (hg : ∀ k, k < w.heap.size → F k → G k) : BookAt w base B G t := by
  obtain ⟨vb, vo, es, a, d, u, hok, hf⟩ := h
  exact ⟨vb, vo, es, a, d, u, hok, fun k hk => hg k (foot_lt hok k hk).2 (hf k hk)⟩
end
section
open Go.RowKit

end
section
open Go.RowKit

end
section
open Go.RowKit

end
section
open Go.RowKit
theorem builtBook : Tryz.prog.built 45 [] = some (bookCells (.slice none 0 0) (.slice none 0 0) 0 0 0 0) := by kernel_rfl

theorem run_buildBook (w : World) : (Instr.build 45 #[]).run Tryz.prog w = .ok (.agg (bookCells (.slice none 0 0) (.slice none 0 0) 0 0 0 0)) w := run_build w 45 #[] _ builtBook

theorem wpList_buildBook {ops : Array Oper} {rest : List Oper} {o : Oper} {a : Act} {Q : Exit → Act → World → Prop} {w : World} (hgd : o.guard = none) (ho : o.op = .build 45 #[])
    (h : wpList Tryz.prog ops Q rest (a.put o.dst (.agg (bookCells (.slice none 0 0) (.slice none 0 0) 0 0 0 0))) w) : wpList Tryz.prog ops Q (o :: rest) a w := by
  refine wpList_plain hgd fun K hK => ?_
  unfold Oper.wp execOp
  have hr := run_buildBook w
  simp only [ho, Sem.run_bind, List.map_toArray, List.map_nil, hr, Result.andThen_ok]
  exact hK _ _ h
end
section
open Go.RowKit Go
section
variable {wx wy : World} {A P Bk Lt t c : Nat} {FP X : Nat → Prop}
end
section
variable {wx wy : World} {A P Bk Lt t c : Nat} {FP X : Nat → Prop} {v : Value} {W : List Nat} {lo hi : Nat}
end
end
section
open Go.RowKit Go
theorem eqlk_self (w : World) (a : Lk) : (Op.equalIn 10000 57 (.agg (lcs a)) (.agg (lcs a))).run Tryz.prog w = .ok true w := by
  have u3 := Tryz.underlying3
  have u9 := Tryz.underlying9
  have u33 := Tryz.underlying55
  have a3 := Tryz.isAgg3
  have a9 := Tryz.isAgg9
  have a33 := Tryz.isAgg55
  have z3 := Tryz.sizeOf3
  have z9 := Tryz.sizeOf9
  have z33 := Tryz.sizeOf55
  have hS : Tryz.prog.underlying 57 = some (.struct (Tryz.prog.fieldsOf 57)) := by kernel_rfl
  have hp : Tryz.prog.stoodInHeld 57 = false := by kernel_rfl
  unfold lcs
  rw [show (10000 : Nat) = 9999 + 1 from rfl, run_equalIn_agg w 9999 57 _ _ hS hp]
  simp only [Program.fieldsOf, Tryz.underlying57]
  go_simp
end
section
open Go.RowKit Go
theorem exec_valAt {o : Oper} {a : Act} {p : Operand} {g off : Nat} {cs : Array Value} {w : World} (ho : o.op = .load 61 p) (hp : a.eval p = .pointer (some ⟨g, off, none⟩)) (hn : cs.size = 13) (hc : ∀ j u, cs[j]? = some u → w.cell? ⟨g, off + j, none⟩ = some u) : (execOp a.eval o).run Tryz.prog w = .ok (.value (.agg cs)) w := by
  unfold execOp
  have hr := load_val (w := w) g off cs hn hc
  simp only [ho, Sem.run_bind, hp, hr, Result.andThen_ok]
  rfl
theorem wp_storeRow {o : Oper} {a : Act} {K : Act → World → Prop} {Q : Exit → Act → World → Prop} {w : World} {T : TypeId} {p x : Operand} (ho : o.op = .store T p x) (g : Nat) (old cs : Array Value) (t : TypeId)
    (hp : a.eval p = .pointer (some ⟨g, 0, none⟩)) (hx : a.eval x = .agg cs) (hg : w.heap[g]? = some (.cells old t (0, 0))) (hi : (Tryz.prog.info? T).map (·.size) = some cs.size) (hn : old.size = cs.size) (h1 : cs.all (·.oneCell') = true)
    (h : K (a.put o.dst undef) (w.setRow g cs)) : Oper.wp Tryz.prog o a w K Q := by
  unfold Oper.wp execOp
  have hr : (Instr.storeAt T (.pointer (some ⟨g, 0, none⟩)) (.agg cs)).run Tryz.prog w = .ok () (w.setRow g cs) := by
    simp only [Instr.storeAt, Instr.sureAddr, Sem.run_bind, Sem.run_pure, Result.andThen]
    exact run_storeVar_row (P := Tryz.prog) w g t T old cs hg hi hn h1
  simp only [ho, Sem.run_bind, hp, hx, hr, Result.andThen_ok]
  exact h
theorem step_storeRow {ops : Array Oper} {o : Oper} {a : Act} {K : Act → World → Prop} {Q : Exit → Act → World → Prop} {w : World} {T : TypeId} {p x : Operand} (hw : Region.wanted o (yielded ops a.tmps) = true) (ho : o.op = .store T p x) (g : Nat) (old cs : Array Value) (t : TypeId)
    (hp : a.eval p = .pointer (some ⟨g, 0, none⟩)) (hx : a.eval x = .agg cs) (hg : w.heap[g]? = some (.cells old t (0, 0))) (hi : (Tryz.prog.info? T).map (·.size) = some cs.size) (hn : old.size = cs.size) (h1 : cs.all (·.oneCell') = true)
    (h : K (a.put o.dst undef) (w.setRow g cs)) : if Region.wanted o (yielded ops a.tmps) = true then Oper.wp Tryz.prog o a w K Q else K (a.put o.dst undef) w := by
  rw [if_pos hw]
  exact wp_storeRow ho g old cs t hp hx hg hi hn h1 h
end
section
open Go.RowKit Go

end
section
open Go.RowKit Go
theorem Knd.mkl_len {F : Knd} {m : Nat} (hs : ∀ k, (F.mc m k).length = F.s) : ∀ n, (F.mkl m n).length = n * F.s
  | 0 => by simp [Knd.mkl]
  | n + 1 => by rw [Knd.mkl_snoc, List.length_append, Knd.mkl_len hs n, hs, Nat.succ_mul]
theorem Knd.mkl_at {F : Knd} {m : Nat} (hs : ∀ k, (F.mc m k).length = F.s) : ∀ (n q r : Nat), q < n → r < F.s → (F.mkl m n)[q * F.s + r]? = (F.mc m q)[r]?
  | 0, _, _, h, _ => by omega
  | n + 1, q, r, h, hr => by
    rw [Knd.mkl_snoc]
    by_cases e : q = n
    · subst e
      rw [List.getElem?_append_right (by rw [Knd.mkl_len hs]; omega), Knd.mkl_len hs, Nat.add_sub_cancel_left]
    · have h1 : (q + 1) * F.s ≤ n * F.s := Nat.mul_le_mul_right F.s (by omega)
      rw [Nat.succ_mul] at h1
      rw [List.getElem?_append_left (by rw [Knd.mkl_len hs]; omega)]
      exact Knd.mkl_at hs n q r (by omega) hr
/-- A list of a kind in memory. -/
theorem Kc.at {F : Knd} {w : World} {base : Nat} {vb vo : Value} {es : List Ent} {t k : Nat} (h : Kc F w base vb vo es t) (hs : ∀ m k, (F.mc m k).length = F.s) (hk : k < es.length) : ∃ ab capb ao capo gb go av capv en em, vb = .slice ab es.length capb ∧ vo = .slice ao es.length capo ∧ ab = some ⟨gb, 0, none⟩ ∧ ao = some ⟨go, 0, none⟩ ∧ em ≤ t ∧ en < 68719477000 ∧ w.cell? ⟨gb, k, none⟩ = some (.slice av en capv) ∧ w.cell? ⟨go, k, none⟩ = some (.int .i64 ((em : Nat) : Int)) ∧
    ∀ q, q < en → ∃ gv, av = some ⟨gv, 0, none⟩ ∧ ∀ r u, r < F.s → (F.mc em q)[r]? = some u → w.cell? ⟨gv, q * F.s + r, none⟩ = some u := by
  obtain ⟨ab, capb, hvb, -, -, hcb⟩ := own_form h.hb
  obtain ⟨ao, capo, hvo, -, -, hco⟩ := own_form h.ho
  have hmem : es[k] ∈ es := List.getElem_mem hk
  obtain ⟨gb, hab, hb1⟩ := hcb k es[k].val (by simp [hk])
  obtain ⟨go, hao, ho1⟩ := hco k (.int .i64 ((es[k].m : Nat) : Int)) (by simp [hk])
  have hown := h.he _ hmem
  obtain ⟨av, capv, hval⟩ : ∃ av capv, es[k].val = .slice av es[k].n capv := by
    rcases hown.2 with ⟨e, h0⟩ | ⟨g, c, cur, e, _⟩
    · exact ⟨none, 0, by rw [e, h0]⟩
    · exact ⟨_, c, e⟩
  rw [hval] at hb1
  refine ⟨ab, capb, ao, capo, gb, go, av, capv, es[k].n, es[k].m, hvb, hvo, hab, hao, (h.hm _ hmem).1, (h.hm _ hmem).2, hb1, ho1, fun q hq => ?_⟩
  rcases id hown.2 with ⟨_, h0⟩ | ⟨g, c, cur, e, _⟩
  · omega
  · rw [hval] at e
    injection e with e _ _
    refine ⟨g, e, fun r u hr hu => ?_⟩
    have := hown.cells (g := g) (by rw [hval, e]; rfl) (q * F.s + r) u (by rw [Knd.mkl_at (hs _) _ _ _ hq hr]; exact hu)
    have hadd : (⟨g, 0, none⟩ : Addr).add (q * F.s + r) = ⟨g, q * F.s + r, none⟩ := by unfold Addr.add; split <;> simp_all
    rw [hadd] at this
    exact this
theorem lma_lcs (m : Nat) : lma m = lcs ⟨1000 + (m : Int), 0, 0, []⟩ := rfl
set_option maxRecDepth 1000000 in
set_option maxHeartbeats 1000000 in
theorem keptK_any {w : World} {base B : Nat} {C : Array Value} {vb vo : Value} {es : List Ent} {t : Nat} (hB : w.heap[B]? = some (.cells C 45 (0, 0))) (hJ0 : C[6]? = some vb) (hJ1 : C[7]? = some vo) (hz1 : C[9]? = some (.slice none 0 0)) (hz2 : C[12]? = some (.slice none 0 0)) (hz3 : C[15]? = some (.slice none 0 0)) (hK : Kc KT w base vb vo es t) (ht : t < 68719476736) :
    Calls Tryz.prog 31 #[.pointer (some ⟨B, 0, none⟩)] w fun e w' => e = .returned (.bool true) ∧ Below w.heap.size w w' := by
  obtain ⟨ab, capb, hvb, -, hxb, -⟩ := own_form hK.hb
  have HK := hide hK
  have HTT := hide ht
  have HC0 := hide (blk_cell hB hJ0)
  have HC1 := hide (blk_cell hB hJ1)
  have HZ1 := hide (blk_cell hB hz1)
  have HZ2 := hide (blk_cell hB hz2)
  have HZ3 := hide (blk_cell hB hz3)
  rw [hvb] at HC0
  clear hB hJ0 hJ1 hz1 hz2 hz3 hK ht
  go_enter Tryz.func31, Tryz.ntmps31
  go_wp2
  go_loopw [3] (fun i wr => ∃ k : Nat, k ≤ es.length ∧ i = .int .i64 k ∧ Hid (Below w.heap.size w wr)) (fun i _ => es.length - (intOf i).toNat)
  case atStart => exact ⟨0, Nat.zero_le _, rfl, Below.refl _ _⟩
  case round =>
    obtain ⟨k, hk, rfl, HBw⟩ := hrel
    have c0 : wr.cell? ⟨B, 6, none⟩ = some (.slice ab es.length capb) := keep_below HBw.out _ _ HC0.out
    by_cases hlt : k < es.length
    · have hlt' : (k : Int) < (es.length : Int) := by omega
      obtain ⟨ab', capb', ao, capo, gb, go, av, capv, en, em, hvb2, hvo, hab, hao, hem, hen, hb1, ho1, hcv⟩ := HK.out.at (fun _ _ => rfl) hlt
      rw [hvb] at hvb2
      injection hvb2 with e1 _ e3
      subst e1
      subst e3
      subst hab
      subst hao
      have HC1' : Hid (w.cell? ⟨B, 7, none⟩ = some (.slice (some ⟨go, 0, none⟩) es.length capo)) := by have := HC1.out; rw [hvo] at this; exact this
      have HB1 := hide hb1
      have HO1 := hide ho1
      have HCV := hide hcv
      have HEM : Hid (em < 68719476736) := by have := HTT.out; show _ < _; omega
      have cb1 := keep_below HBw.out _ _ hb1
      have hen' : (en : Int) < 68719477000 := by omega
      clear hcv hb1 ho1 hvo hem
      obtain ⟨wo, rfl⟩ : ∃ x, wr = x := ⟨wr, rfl⟩
      go_wp2
      go_loopw [4] (fun j wr' => ∃ q : Nat, q ≤ en ∧ j = .int .i64 q ∧ Hid (Below w.heap.size w wr')) (fun j _ => en - (intOf j).toNat)
      case atStart => exact ⟨0, Nat.zero_le _, rfl, HBw⟩
      case round =>
        obtain ⟨q, hq, rfl, HB2⟩ := hrel
        clear c0 cb1
        have c0 : wr.cell? ⟨B, 6, none⟩ = some (.slice (some ⟨gb, 0, none⟩) es.length capb) := keep_below HB2.out _ _ HC0.out
        have cb1 := keep_below HB2.out _ _ HB1.out
        by_cases hql : q < en
        · as_aux_lemma =>
          have hql' : (q : Int) < (en : Int) := by omega
          obtain ⟨gv, hav, hcq⟩ := HCV.out q hql
          subst hav
          have HCQ : Hid (w.cell? ⟨gv, q, none⟩ = some (.string (tmk em))) := by have h := hcq 0 (.string (tmk em)) (by decide) rfl; show _ = _; simpa [KT] using h
          have HMK := hide (fun W => textsMark_any (em : Int) W (by omega) (by have h1 := HEM.out; omega))
          clear hcq
          go_wp2_with fail
          refine heldStart (S := fun wy => Below w.heap.size w wy) (by kernel_rfl) ?_
          have hS : Below w.heap.size w wr.drew := by refine Below.drew ?_; exact HB2.out
          clear HB2 c0 cb1
          generalize wr.drew = w4 at *
          refine heldTake 0 _ rfl (by kernel_rfl) (by kernel_rfl) (by kernel_rfl) (fun _ _ _ h => h) rfl hS (fun wy hy => by first | (go_simp; done) | (go_simp; rfl) | rfl) ?_
          (try simp only [Act.put]); (try simp only [List.setIfInBounds_toArray, List.set_cons_zero, List.set_cons_succ])
          refine heldTake 1 _ rfl (by kernel_rfl) (by kernel_rfl) (by kernel_rfl) (fun _ _ _ h => h) rfl hS (fun wy hy => by first | (go_simp; done) | (go_simp; rfl) | rfl) ?_
          (try simp only [Act.put]); (try simp only [List.setIfInBounds_toArray, List.set_cons_zero, List.set_cons_succ])
          refine heldTake 2 _ rfl (by kernel_rfl) (by kernel_rfl) (by kernel_rfl) (fun _ _ _ h => h) rfl hS (fun wy hy => by first | (go_simp; done) | (go_simp; rfl) | rfl) ?_
          (try simp only [Act.put]); (try simp only [List.setIfInBounds_toArray, List.set_cons_zero, List.set_cons_succ])
          refine heldTake 3 _ rfl (by kernel_rfl) (by kernel_rfl) (by kernel_rfl) (fun _ _ _ h => h) rfl hS (fun wy hy => by have h0 := keep_below hy _ _ HC0.out; first | (go_simp; done) | (go_simp; rfl) | rfl) ?_
          (try simp only [Act.put]); (try simp only [List.setIfInBounds_toArray, List.set_cons_zero, List.set_cons_succ])
          refine heldTake 4 _ rfl (by kernel_rfl) (by kernel_rfl) (by kernel_rfl) (fun _ _ _ h => h) rfl hS (fun wy hy => by first | (go_simp; done) | (go_simp; rfl) | rfl) ?_
          (try simp only [Act.put]); (try simp only [List.setIfInBounds_toArray, List.set_cons_zero, List.set_cons_succ])
          refine heldTake 5 _ rfl (by kernel_rfl) (by kernel_rfl) (by kernel_rfl) (fun _ _ _ h => h) rfl hS (fun wy hy => by first | (go_simp; done) | (go_simp; rfl) | rfl) ?_
          (try simp only [Act.put]); (try simp only [List.setIfInBounds_toArray, List.set_cons_zero, List.set_cons_succ])
          refine heldTake 6 _ rfl (by kernel_rfl) (by kernel_rfl) (by kernel_rfl) (fun _ _ _ h => h) rfl hS (fun wy hy => by have h0 := keep_below hy _ _ HB1.out; first | (go_simp; done) | (go_simp; rfl) | rfl) ?_
          (try simp only [Act.put]); (try simp only [List.setIfInBounds_toArray, List.set_cons_zero, List.set_cons_succ])
          refine heldTake 7 _ rfl (by kernel_rfl) (by kernel_rfl) (by kernel_rfl) (fun _ _ _ h => h) rfl hS (fun wy hy => by first | (go_simp; done) | (go_simp; rfl) | rfl) ?_
          (try simp only [Act.put]); (try simp only [List.setIfInBounds_toArray, List.set_cons_zero, List.set_cons_succ])
          refine heldTake 8 _ rfl (by kernel_rfl) (by kernel_rfl) (by kernel_rfl) (fun _ _ _ h => h) rfl hS (fun wy hy => by first | (go_simp; done) | (go_simp; rfl) | rfl) ?_
          (try simp only [Act.put]); (try simp only [List.setIfInBounds_toArray, List.set_cons_zero, List.set_cons_succ])
          refine heldTake 9 _ rfl (by kernel_rfl) (by kernel_rfl) (by kernel_rfl) (fun _ _ _ h => h) rfl hS (fun wy hy => by have h0 := keep_below hy _ _ HCQ.out; first | (go_simp; done) | (go_simp; rfl) | rfl) ?_
          (try simp only [Act.put]); (try simp only [List.setIfInBounds_toArray, List.set_cons_zero, List.set_cons_succ])
          refine heldTake 10 _ rfl (by kernel_rfl) (by kernel_rfl) (by kernel_rfl) (fun _ _ _ h => h) rfl hS (fun wy hy => by first | (go_simp; done) | (go_simp; rfl) | rfl) ?_
          (try simp only [Act.put]); (try simp only [List.setIfInBounds_toArray, List.set_cons_zero, List.set_cons_succ])
          refine heldTake 11 _ rfl (by kernel_rfl) (by kernel_rfl) (by kernel_rfl) (fun _ _ _ h => h) rfl hS (fun wy hy => by first | (go_simp; done) | (go_simp; rfl) | rfl) ?_
          (try simp only [Act.put]); (try simp only [List.setIfInBounds_toArray, List.set_cons_zero, List.set_cons_succ])
          refine heldTake 12 _ rfl (by kernel_rfl) (by kernel_rfl) (by kernel_rfl) (fun _ _ _ h => h) rfl hS (fun wy hy => by first | (go_simp; done) | (go_simp; rfl) | rfl) ?_
          (try simp only [Act.put]); (try simp only [List.setIfInBounds_toArray, List.set_cons_zero, List.set_cons_succ])
          refine heldTake 13 _ rfl (by kernel_rfl) (by kernel_rfl) (by kernel_rfl) (fun _ _ _ h => h) rfl hS (fun wy hy => by have h0 := keep_below hy _ _ HC1'.out; first | (go_simp; done) | (go_simp; rfl) | rfl) ?_
          (try simp only [Act.put]); (try simp only [List.setIfInBounds_toArray, List.set_cons_zero, List.set_cons_succ])
          refine heldTake 14 _ rfl (by kernel_rfl) (by kernel_rfl) (by kernel_rfl) (fun _ _ _ h => h) rfl hS (fun wy hy => by first | (go_simp; done) | (go_simp; rfl) | rfl) ?_
          (try simp only [Act.put]); (try simp only [List.setIfInBounds_toArray, List.set_cons_zero, List.set_cons_succ])
          refine heldTake 15 _ rfl (by kernel_rfl) (by kernel_rfl) (by kernel_rfl) (fun _ _ _ h => h) rfl hS (fun wy hy => by first | (go_simp; done) | (go_simp; rfl) | rfl) ?_
          (try simp only [Act.put]); (try simp only [List.setIfInBounds_toArray, List.set_cons_zero, List.set_cons_succ])
          refine heldTake 16 _ rfl (by kernel_rfl) (by kernel_rfl) (by kernel_rfl) (fun _ _ _ h => h) rfl hS (fun wy hy => by have h0 := keep_below hy _ _ HO1.out; first | (go_simp; done) | (go_simp; rfl) | rfl) ?_
          (try simp only [Act.put]); (try simp only [List.setIfInBounds_toArray, List.set_cons_zero, List.set_cons_succ])
          refine heldStep 17 rfl (by kernel_rfl) (fun K hK => ?_)
          go_simp
          refine (HMK.out _).mono ?_
          rintro e w5 ⟨rfl, hb5⟩
          rw [Int.toNat_natCast]
          refine (Hid.out hK) _ _ (hS.trans (hb5.mono hS.size)) (fun hS2 => ?_)
          clear hK K hS
          have hS := hS2
          clear hS2
          (try simp only [Act.put]); (try simp only [List.setIfInBounds_toArray, List.set_cons_zero, List.set_cons_succ])
          refine heldTake 18 (.bool false) rfl (by kernel_rfl) (by kernel_rfl) (by kernel_rfl) (fun _ _ _ h => h) rfl hS (fun wy hy => by go_simp) ?_
          (try simp only [Act.put]); (try simp only [List.setIfInBounds_toArray, List.set_cons_zero, List.set_cons_succ])
          refine heldDone (by kernel_rfl) ?_
          have HB5 : Hid (Below w.heap.size w w5) := hS
          clear hS hb5
          go_wp2_with fail
          go_roundw
          case rel => exact ⟨q + 1, by omega, by go_num, HB5⟩
          case measure => simp [intOf]; omega
        · have hql' : ¬ (q : Int) < (en : Int) := by omega
          go_wp2
          go_roundw
          case rel => exact ⟨k + 1, by omega, by go_num, HB2⟩
          case measure => simp [intOf]; omega
    · have hlt' : ¬ (k : Int) < (es.length : Int) := by omega
      have z1 := keep_below HBw.out _ _ HZ1.out
      have z2 := keep_below HBw.out _ _ HZ2.out
      have z3 := keep_below HBw.out _ _ HZ3.out
      go_wp2
      iterate 3
        refine wp_loop_rounds 1 ?_
        rw [rounds_succ]
        go_wp2
      go_ret
      exact ⟨rfl, HBw.out⟩
theorem exec_lkAtQ {o : Oper} {a : Act} {p : Operand} {g off : Nat} {l : Lk} {w : World} (ho : o.op = .load 57 p) (hp : a.eval p = .pointer (some ⟨g, off, none⟩)) (hc : ∀ j u, (lcs l)[j]? = some u → w.cell? ⟨g, off + j, none⟩ = some u) : (execOp a.eval o).run Tryz.prog w = .ok (.value (.agg (lcs l))) w := by
  unfold execOp
  have hr := load_lk (w := w) g off l hc
  simp only [ho, Sem.run_bind, hp, hr, Result.andThen_ok]
  rfl
set_option maxRecDepth 1000000 in
set_option maxHeartbeats 1000000 in
theorem toldK_any {w : World} {base B : Nat} {C : Array Value} {vb vo : Value} {es : List Ent} {t : Nat} (hB : w.heap[B]? = some (.cells C 45 (0, 0))) (hJ0 : C[18]? = some vb) (hJ1 : C[19]? = some vo) (hz1 : C[21]? = some (.slice none 0 0)) (hz2 : C[24]? = some (.slice none 0 0)) (hz3 : C[27]? = some (.slice none 0 0)) (hK : Kc KL w base vb vo es t) (ht : t < 68719476736) :
    Calls Tryz.prog 32 #[.pointer (some ⟨B, 0, none⟩)] w fun e w' => e = .returned (.bool true) ∧ Below w.heap.size w w' := by
  obtain ⟨ab, capb, hvb, -, hxb, -⟩ := own_form hK.hb
  have HK := hide hK
  have HTT := hide ht
  have HC0 := hide (blk_cell hB hJ0)
  have HC1 := hide (blk_cell hB hJ1)
  have HZ1 := hide (blk_cell hB hz1)
  have HZ2 := hide (blk_cell hB hz2)
  have HZ3 := hide (blk_cell hB hz3)
  rw [hvb] at HC0
  clear hB hJ0 hJ1 hz1 hz2 hz3 hK ht
  go_enter Tryz.func32, Tryz.ntmps32
  go_wp2
  go_loopw [3] (fun i wr => ∃ k : Nat, k ≤ es.length ∧ i = .int .i64 k ∧ Hid (Below w.heap.size w wr)) (fun i _ => es.length - (intOf i).toNat)
  case atStart => exact ⟨0, Nat.zero_le _, rfl, Below.refl _ _⟩
  case round =>
    obtain ⟨k, hk, rfl, HBw⟩ := hrel
    have c0 : wr.cell? ⟨B, 18, none⟩ = some (.slice ab es.length capb) := keep_below HBw.out _ _ HC0.out
    by_cases hlt : k < es.length
    · have hlt' : (k : Int) < (es.length : Int) := by omega
      obtain ⟨ab', capb', ao, capo, gb, go, av, capv, en, em, hvb2, hvo, hab, hao, hem, hen, hb1, ho1, hcv⟩ := HK.out.at (fun _ _ => rfl) hlt
      rw [hvb] at hvb2
      injection hvb2 with e1 _ e3
      subst e1
      subst e3
      subst hab
      subst hao
      have HC1' : Hid (w.cell? ⟨B, 19, none⟩ = some (.slice (some ⟨go, 0, none⟩) es.length capo)) := by have := HC1.out; rw [hvo] at this; exact this
      have HB1 := hide hb1
      have HO1 := hide ho1
      have HCV := hide hcv
      have HEM : Hid (em < 68719476736) := by have := HTT.out; show _ < _; omega
      have cb1 := keep_below HBw.out _ _ hb1
      have hen' : (en : Int) < 68719477000 := by omega
      clear hcv hb1 ho1 hvo hem
      obtain ⟨wo, rfl⟩ : ∃ x, wr = x := ⟨wr, rfl⟩
      go_wp2
      go_loopw [4] (fun j wr' => ∃ q : Nat, q ≤ en ∧ j = .int .i64 q ∧ Hid (Below w.heap.size w wr')) (fun j _ => en - (intOf j).toNat)
      case atStart => exact ⟨0, Nat.zero_le _, rfl, HBw⟩
      case round =>
        obtain ⟨q, hq, rfl, HB2⟩ := hrel
        clear c0 cb1
        have c0 : wr.cell? ⟨B, 18, none⟩ = some (.slice (some ⟨gb, 0, none⟩) es.length capb) := keep_below HB2.out _ _ HC0.out
        have cb1 := keep_below HB2.out _ _ HB1.out
        by_cases hql : q < en
        · as_aux_lemma =>
          have hql' : (q : Int) < (en : Int) := by omega
          obtain ⟨gv, hav, hcq⟩ := HCV.out q hql
          subst hav
          have HCQ : Hid (∀ j u, (lcs ⟨1000 + (em : Int), 0, 0, []⟩)[j]? = some u → w.cell? ⟨gv, q * 4 + j, none⟩ = some u) := fun j u hu => hcq j u (get_lt hu) (by show (lma em).toList[j]? = some u; rw [lma_lcs]; simpa using hu)
          have HMK := hide (fun W => linksMark_any (em : Int) W (by omega) (by have h1 := HEM.out; omega))
          clear hcq
          go_wp2_with fail
          refine heldStart (S := fun wy => Below w.heap.size w wy) (by kernel_rfl) ?_
          have hS : Below w.heap.size w wr.drew := by refine Below.drew ?_; exact HB2.out
          clear HB2 c0 cb1
          generalize wr.drew = w4 at *
          refine heldTake 0 _ rfl (by kernel_rfl) (by kernel_rfl) (by kernel_rfl) (fun _ _ _ h => h) rfl hS (fun wy hy => by first | (go_simp; done) | (go_simp; rfl) | rfl) ?_
          (try simp only [Act.put]); (try simp only [List.setIfInBounds_toArray, List.set_cons_zero, List.set_cons_succ])
          refine heldTake 1 _ rfl (by kernel_rfl) (by kernel_rfl) (by kernel_rfl) (fun _ _ _ h => h) rfl hS (fun wy hy => by first | (go_simp; done) | (go_simp; rfl) | rfl) ?_
          (try simp only [Act.put]); (try simp only [List.setIfInBounds_toArray, List.set_cons_zero, List.set_cons_succ])
          refine heldTake 2 _ rfl (by kernel_rfl) (by kernel_rfl) (by kernel_rfl) (fun _ _ _ h => h) rfl hS (fun wy hy => by first | (go_simp; done) | (go_simp; rfl) | rfl) ?_
          (try simp only [Act.put]); (try simp only [List.setIfInBounds_toArray, List.set_cons_zero, List.set_cons_succ])
          refine heldTake 3 _ rfl (by kernel_rfl) (by kernel_rfl) (by kernel_rfl) (fun _ _ _ h => h) rfl hS (fun wy hy => by have h0 := keep_below hy _ _ HC0.out; first | (go_simp; done) | (go_simp; rfl) | rfl) ?_
          (try simp only [Act.put]); (try simp only [List.setIfInBounds_toArray, List.set_cons_zero, List.set_cons_succ])
          refine heldTake 4 _ rfl (by kernel_rfl) (by kernel_rfl) (by kernel_rfl) (fun _ _ _ h => h) rfl hS (fun wy hy => by first | (go_simp; done) | (go_simp; rfl) | rfl) ?_
          (try simp only [Act.put]); (try simp only [List.setIfInBounds_toArray, List.set_cons_zero, List.set_cons_succ])
          refine heldTake 5 _ rfl (by kernel_rfl) (by kernel_rfl) (by kernel_rfl) (fun _ _ _ h => h) rfl hS (fun wy hy => by first | (go_simp; done) | (go_simp; rfl) | rfl) ?_
          (try simp only [Act.put]); (try simp only [List.setIfInBounds_toArray, List.set_cons_zero, List.set_cons_succ])
          refine heldTake 6 _ rfl (by kernel_rfl) (by kernel_rfl) (by kernel_rfl) (fun _ _ _ h => h) rfl hS (fun wy hy => by have h0 := keep_below hy _ _ HB1.out; first | (go_simp; done) | (go_simp; rfl) | rfl) ?_
          (try simp only [Act.put]); (try simp only [List.setIfInBounds_toArray, List.set_cons_zero, List.set_cons_succ])
          refine heldTake 7 _ rfl (by kernel_rfl) (by kernel_rfl) (by kernel_rfl) (fun _ _ _ h => h) rfl hS (fun wy hy => by first | (go_simp; done) | (go_simp; rfl) | rfl) ?_
          (try simp only [Act.put]); (try simp only [List.setIfInBounds_toArray, List.set_cons_zero, List.set_cons_succ])
          refine heldTake 8 _ rfl (by kernel_rfl) (by kernel_rfl) (by kernel_rfl) (fun _ _ _ h => h) rfl hS (fun wy hy => by first | (go_simp; done) | (go_simp; rfl) | rfl) ?_
          (try simp only [Act.put]); (try simp only [List.setIfInBounds_toArray, List.set_cons_zero, List.set_cons_succ])
          refine heldTake 9 _ rfl (by kernel_rfl) (by kernel_rfl) (by kernel_rfl) (fun _ _ _ h => h) rfl hS (fun wy hy => exec_lkAtQ (g := gv) (off := q * 4) (l := ⟨1000 + (em : Int), 0, 0, []⟩) rfl rfl (fun j u hu => keep_below hy _ _ (HCQ.out j u hu))) ?_
          (try simp only [Act.put]); (try simp only [List.setIfInBounds_toArray, List.set_cons_zero, List.set_cons_succ])
          refine heldTake 10 _ rfl (by kernel_rfl) (by kernel_rfl) (by kernel_rfl) (fun _ _ _ h => h) rfl hS (fun wy hy => by first | (go_simp; done) | (go_simp; rfl) | rfl) ?_
          (try simp only [Act.put]); (try simp only [List.setIfInBounds_toArray, List.set_cons_zero, List.set_cons_succ])
          refine heldTake 11 _ rfl (by kernel_rfl) (by kernel_rfl) (by kernel_rfl) (fun _ _ _ h => h) rfl hS (fun wy hy => by first | (go_simp; done) | (go_simp; rfl) | rfl) ?_
          (try simp only [Act.put]); (try simp only [List.setIfInBounds_toArray, List.set_cons_zero, List.set_cons_succ])
          refine heldTake 12 _ rfl (by kernel_rfl) (by kernel_rfl) (by kernel_rfl) (fun _ _ _ h => h) rfl hS (fun wy hy => by first | (go_simp; done) | (go_simp; rfl) | rfl) ?_
          (try simp only [Act.put]); (try simp only [List.setIfInBounds_toArray, List.set_cons_zero, List.set_cons_succ])
          refine heldTake 13 _ rfl (by kernel_rfl) (by kernel_rfl) (by kernel_rfl) (fun _ _ _ h => h) rfl hS (fun wy hy => by have h0 := keep_below hy _ _ HC1'.out; first | (go_simp; done) | (go_simp; rfl) | rfl) ?_
          (try simp only [Act.put]); (try simp only [List.setIfInBounds_toArray, List.set_cons_zero, List.set_cons_succ])
          refine heldTake 14 _ rfl (by kernel_rfl) (by kernel_rfl) (by kernel_rfl) (fun _ _ _ h => h) rfl hS (fun wy hy => by first | (go_simp; done) | (go_simp; rfl) | rfl) ?_
          (try simp only [Act.put]); (try simp only [List.setIfInBounds_toArray, List.set_cons_zero, List.set_cons_succ])
          refine heldTake 15 _ rfl (by kernel_rfl) (by kernel_rfl) (by kernel_rfl) (fun _ _ _ h => h) rfl hS (fun wy hy => by first | (go_simp; done) | (go_simp; rfl) | rfl) ?_
          (try simp only [Act.put]); (try simp only [List.setIfInBounds_toArray, List.set_cons_zero, List.set_cons_succ])
          refine heldTake 16 _ rfl (by kernel_rfl) (by kernel_rfl) (by kernel_rfl) (fun _ _ _ h => h) rfl hS (fun wy hy => by have h0 := keep_below hy _ _ HO1.out; first | (go_simp; done) | (go_simp; rfl) | rfl) ?_
          (try simp only [Act.put]); (try simp only [List.setIfInBounds_toArray, List.set_cons_zero, List.set_cons_succ])
          refine heldStep 17 rfl (by kernel_rfl) (fun K hK => ?_)
          go_simp
          refine (HMK.out _).mono ?_
          rintro e w5 ⟨rfl, hb5⟩
          rw [Int.toNat_natCast]
          refine (Hid.out hK) _ _ (hS.trans (hb5.mono hS.size)) (fun hS2 => ?_)
          clear hK K hS
          have hS := hS2
          clear hS2
          (try simp only [Act.put]); (try simp only [List.setIfInBounds_toArray, List.set_cons_zero, List.set_cons_succ])
          refine heldTake 18 (.bool false) rfl (by kernel_rfl) (by kernel_rfl) (by kernel_rfl) (fun _ _ _ h => h) rfl hS (fun wy hy => exec_nelk (r := true) rfl rfl rfl (eqlk_self wy ⟨1000 + (em : Int), 0, 0, []⟩)) ?_
          (try simp only [Act.put]); (try simp only [List.setIfInBounds_toArray, List.set_cons_zero, List.set_cons_succ])
          refine heldDone (by kernel_rfl) ?_
          have HB5 : Hid (Below w.heap.size w w5) := hS
          clear hS hb5
          go_wp2_with fail
          go_roundw
          case rel => exact ⟨q + 1, by omega, by go_num, HB5⟩
          case measure => simp [intOf]; omega
        · have hql' : ¬ (q : Int) < (en : Int) := by omega
          go_wp2
          go_roundw
          case rel => exact ⟨k + 1, by omega, by go_num, HB2⟩
          case measure => simp [intOf]; omega
    · have hlt' : ¬ (k : Int) < (es.length : Int) := by omega
      have z1 := keep_below HBw.out _ _ HZ1.out
      have z2 := keep_below HBw.out _ _ HZ2.out
      have z3 := keep_below HBw.out _ _ HZ3.out
      go_wp2
      iterate 3
        refine wp_loop_rounds 1 ?_
        rw [rounds_succ]
        go_wp2
      go_ret
      exact ⟨rfl, HBw.out⟩
end
end Go.Proofs.YtdejcapbggjjgaaGreatDoor

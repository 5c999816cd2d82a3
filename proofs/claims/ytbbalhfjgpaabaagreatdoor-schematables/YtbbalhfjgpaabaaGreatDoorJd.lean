import Derived.Test.YtbbalhfjgpaabaaGreatDoorJc
import Derived.Test.YtbbalhfjgpaabaaGreatDoorJa
import Derived.Test.YtbbalhfjgpaabaaGreatDoorJb
namespace Go.Proofs.YtbbalhfjgpaabaaGreatDoor
section
open Go.RowKit

end
section
open Go.RowKit

end
section
open Go.RowKit
theorem builtBook : Tryz.prog.built 47 [] = some (bookCells (.slice none 0 0) (.slice none 0 0) 0 0 0 0) := by kernel_rfl

theorem run_buildBook (w : World) : (Instr.build 47 #[]).run Tryz.prog w = .ok (.agg (bookCells (.slice none 0 0) (.slice none 0 0) 0 0 0 0)) w := run_build w 47 #[] _ builtBook

theorem wpList_buildBook {ops : Array Oper} {rest : List Oper} {o : Oper} {a : Act} {Q : Exit → Act → World → Prop} {w : World} (hgd : o.guard = none) (ho : o.op = .build 47 #[])
    (h : wpList Tryz.prog ops Q rest (a.put o.dst (.agg (bookCells (.slice none 0 0) (.slice none 0 0) 0 0 0 0))) w) : wpList Tryz.prog ops Q (o :: rest) a w := by
  refine wpList_plain hgd fun K hK => ?_
  unfold Oper.wp execOp
  have hr := run_buildBook w
  simp only [ho, Sem.run_bind, List.map_toArray, List.map_nil, hr, Result.andThen_ok]
  exact hK _ _ h
end
section
open Go.RowKit Go
section
variable {wx wy : World} {A P Bk Lt t c : Nat} {FP X : Nat → Prop}
end
section
variable {wx wy : World} {A P Bk Lt t c : Nat} {FP X : Nat → Prop} {v : Value} {W : List Nat} {lo hi : Nat}
end
end
section
open Go.RowKit Go

end
section
open Go.RowKit Go

end
section
open Go.RowKit Go
theorem heldSkip {P : Program} {Q : Exit → Act → World → Prop} {S : World → Prop} {l : List Oper} {fuel : Nat} {listed : Array Bool} {a : Act} {w : World} (i : Nat) {oi : Oper} (hi : l[i]? = some oi) (hs : Region.noSelect l.toArray = true) (hf : Region.free .any l.toArray listed i = true) (hr : (Region.ready .any l.toArray listed).contains i = true)
    (hQ : ∀ c a w, Q (.panic c) (a.put oi.dst undef) w → Q (.panic c) a w) (hw : Region.wanted oi (yielded l.toArray a.tmps) = false) (hS : S w)
    (h : wpAnyH P .any l.toArray Q S fuel (listed.setIfInBounds i true) (a.put oi.dst undef) w) : wpAnyH P .any l.toArray Q S (fuel + 1) listed a w :=
  wpAnyH_take (by simpa using hi) hs hf hr hQ (.inr ⟨hw, rfl⟩) hS h
end
section
open Go.RowKit Go
theorem Knd.mkl_len {F : Knd} {m : Nat} (hs : ∀ k, (F.mc m k).length = F.s) : ∀ n, (F.mkl m n).length = n * F.s
  | 0 => by simp [Knd.mkl]
  | n + 1 => by rw [Knd.mkl_snoc, List.length_append, Knd.mkl_len hs n, hs, Nat.succ_mul]
theorem Knd.mkl_at {F : Knd} {m : Nat} (hs : ∀ k, (F.mc m k).length = F.s) : ∀ (n q r : Nat), q < n → r < F.s → (F.mkl m n)[q * F.s + r]? = (F.mc m q)[r]?
  | 0, _, _, h, _ => by omega
  | n + 1, q, r, h, hr => by
    rw [Knd.mkl_snoc]
    by_cases e : q = n
    · subst e
      rw [List.getElem?_append_right (by rw [Knd.mkl_len hs]; omega), Knd.mkl_len hs, Nat.add_sub_cancel_left]
    · have h1 : (q + 1) * F.s ≤ n * F.s := Nat.mul_le_mul_right F.s (by omega)
      rw [Nat.succ_mul] at h1
      rw [List.getElem?_append_left (by rw [Knd.mkl_len hs]; omega)]
      exact Knd.mkl_at hs n q r (by omega) hr
theorem Kc.at {F : Knd} {w : World} {base : Nat} {vb vo : Value} {es : List Ent} {t k : Nat} (h : Kc F w base vb vo es t) (hs : ∀ m k, (F.mc m k).length = F.s) (hk : k < es.length) : ∃ ab capb ao capo gb go av capv en em, vb = .slice ab es.length capb ∧ vo = .slice ao es.length capo ∧ ab = some ⟨gb, 0, none⟩ ∧ ao = some ⟨go, 0, none⟩ ∧ em ≤ t ∧ en < 68719477000 ∧ w.cell? ⟨gb, k, none⟩ = some (.slice av en capv) ∧ w.cell? ⟨go, k, none⟩ = some (.int .i64 ((em : Nat) : Int)) ∧
    ∀ q, q < en → ∃ gv, av = some ⟨gv, 0, none⟩ ∧ ∀ r u, r < F.s → (F.mc em q)[r]? = some u → w.cell? ⟨gv, q * F.s + r, none⟩ = some u := by
  obtain ⟨ab, capb, hvb, -, -, hcb⟩ := own_form h.hb
  obtain ⟨ao, capo, hvo, -, -, hco⟩ := own_form h.ho
  have hmem : es[k] ∈ es := List.getElem_mem hk
  obtain ⟨gb, hab, hb1⟩ := hcb k es[k].val (by simp [hk])
  obtain ⟨go, hao, ho1⟩ := hco k (.int .i64 ((es[k].m : Nat) : Int)) (by simp [hk])
  have hown := h.he _ hmem
  obtain ⟨av, capv, hval⟩ : ∃ av capv, es[k].val = .slice av es[k].n capv := by
    rcases hown.2 with ⟨e, h0⟩ | ⟨g, c, cur, e, _⟩
    · exact ⟨none, 0, by rw [e, h0]⟩
    · exact ⟨_, c, e⟩
  rw [hval] at hb1
  refine ⟨ab, capb, ao, capo, gb, go, av, capv, es[k].n, es[k].m, hvb, hvo, hab, hao, (h.hm _ hmem).1, (h.hm _ hmem).2, hb1, ho1, fun q hq => ?_⟩
  rcases id hown.2 with ⟨_, h0⟩ | ⟨g, c, cur, e, _⟩
  · omega
  · rw [hval] at e
    injection e with e _ _
    refine ⟨g, e, fun r u hr hu => ?_⟩
    have := hown.cells (g := g) (by rw [hval, e]; rfl) (q * F.s + r) u (by rw [Knd.mkl_at (hs _) _ _ _ hq hr]; exact hu)
    have hadd : (⟨g, 0, none⟩ : Addr).add (q * F.s + r) = ⟨g, q * F.s + r, none⟩ := by unfold Addr.add; split <;> simp_all
    rw [hadd] at this
    exact this
set_option maxRecDepth 1000000 in
set_option maxHeartbeats 1000000 in
theorem keptK_any {w : World} {base B : Nat} {C : Array Value} {vb vo : Value} {es : List Ent} {t : Nat} (hB : w.heap[B]? = some (.cells C 47 (0, 0))) (hJ0 : C[6]? = some vb) (hJ1 : C[7]? = some vo) (hz1 : C[9]? = some (.slice none 0 0)) (hz2 : C[12]? = some (.slice none 0 0)) (hz3 : C[15]? = some (.slice none 0 0)) (hK : Kc KT w base vb vo es t) (ht : t < 68719476736) :
    Calls Tryz.prog 72 #[.pointer (some ⟨B, 0, none⟩)] w fun e w' => e = .returned (.bool true) ∧ Below w.heap.size w w' := by
  obtain ⟨ab, capb, hvb, -, hxb, -⟩ := own_form hK.hb
  have HK := hide hK
  have HTT := hide ht
  have HC0 := hide (blk_cell hB hJ0)
  have HC1 := hide (blk_cell hB hJ1)
  have HZ1 := hide (blk_cell hB hz1)
  have HZ2 := hide (blk_cell hB hz2)
  have HZ3 := hide (blk_cell hB hz3)
  rw [hvb] at HC0
  clear hB hJ0 hJ1 hz1 hz2 hz3 hK ht
  go_enter Tryz.func72, Tryz.ntmps72
  go_wp2
  go_loopw [3] (fun i wr => ∃ k : Nat, k ≤ es.length ∧ i = .int .i64 k ∧ Hid (Below w.heap.size w wr)) (fun i _ => es.length - (intOf i).toNat)
  case atStart => exact ⟨0, Nat.zero_le _, rfl, Below.refl _ _⟩
  case round =>
    obtain ⟨k, hk, rfl, HBw⟩ := hrel
    have c0 : wr.cell? ⟨B, 6, none⟩ = some (.slice ab es.length capb) := keep_below HBw.out _ _ HC0.out
    by_cases hlt : k < es.length
    · have hlt' : (k : Int) < (es.length : Int) := by omega
      obtain ⟨ab', capb', ao, capo, gb, go, av, capv, en, em, hvb2, hvo, hab, hao, hem, hen, hb1, ho1, hcv⟩ := HK.out.at (fun _ _ => rfl) hlt
      rw [hvb] at hvb2
      injection hvb2 with e1 _ e3
      subst e1
      subst e3
      subst hab
      subst hao
      have HC1' : Hid (w.cell? ⟨B, 7, none⟩ = some (.slice (some ⟨go, 0, none⟩) es.length capo)) := by have := HC1.out; rw [hvo] at this; exact this
      have HB1 := hide hb1
      have HO1 := hide ho1
      have HCV := hide hcv
      have HEM : Hid (em < 68719476736) := by have := HTT.out; show _ < _; omega
      have cb1 := keep_below HBw.out _ _ hb1
      have hen' : (en : Int) < 68719477000 := by omega
      clear hcv hb1 ho1 hvo hem
      obtain ⟨wo, rfl⟩ : ∃ x, wr = x := ⟨wr, rfl⟩
      go_wp2
      go_loopw [4] (fun j wr' => ∃ q : Nat, q ≤ en ∧ j = .int .i64 q ∧ Hid (Below w.heap.size w wr')) (fun j _ => en - (intOf j).toNat)
      case atStart => exact ⟨0, Nat.zero_le _, rfl, HBw⟩
      case round =>
        obtain ⟨q, hq, rfl, HB2⟩ := hrel
        clear c0 cb1
        have c0 : wr.cell? ⟨B, 6, none⟩ = some (.slice (some ⟨gb, 0, none⟩) es.length capb) := keep_below HB2.out _ _ HC0.out
        have cb1 := keep_below HB2.out _ _ HB1.out
        by_cases hql : q < en
        · as_aux_lemma =>
          have hql' : (q : Int) < (en : Int) := by omega
          obtain ⟨gv, hav, hcq⟩ := HCV.out q hql
          subst hav
          have HCQ : Hid (w.cell? ⟨gv, q, none⟩ = some (.string (tmk em))) := by have h := hcq 0 (.string (tmk em)) (by decide) rfl; show _ = _; simpa [KT] using h
          have HMK := hide (fun W => textsMark_any (em : Int) W (by omega) (by have h1 := HEM.out; omega))
          clear hcq
          go_wp2_with fail
          refine heldStart (S := fun wy => Below w.heap.size w wy) (by kernel_rfl) ?_
          have hS : Below w.heap.size w wr.drew := by refine Below.drew ?_; exact HB2.out
          clear HB2 c0 cb1
          generalize wr.drew = w4 at *
          refine heldTake 0 _ rfl (by kernel_rfl) (by kernel_rfl) (by kernel_rfl) (fun _ _ _ h => h) rfl hS (fun wy hy => by first | (go_simp; done) | (go_simp; rfl) | rfl) ?_
          (try simp only [Act.put]); (try simp only [LsA, Ls0, LsS])
          refine heldTake 1 _ rfl (by kernel_rfl) (by kernel_rfl) (by kernel_rfl) (fun _ _ _ h => h) rfl hS (fun wy hy => by first | (go_simp; done) | (go_simp; rfl) | rfl) ?_
          (try simp only [Act.put]); (try simp only [LsA, Ls0, LsS])
          refine heldTake 2 _ rfl (by kernel_rfl) (by kernel_rfl) (by kernel_rfl) (fun _ _ _ h => h) rfl hS (fun wy hy => by first | (go_simp; done) | (go_simp; rfl) | rfl) ?_
          (try simp only [Act.put]); (try simp only [LsA, Ls0, LsS])
          refine heldTake 3 _ rfl (by kernel_rfl) (by kernel_rfl) (by kernel_rfl) (fun _ _ _ h => h) rfl hS (fun wy hy => by have h0 := keep_below hy _ _ HC0.out; first | (go_simp; done) | (go_simp; rfl) | rfl) ?_
          (try simp only [Act.put]); (try simp only [LsA, Ls0, LsS])
          refine heldTake 4 _ rfl (by kernel_rfl) (by kernel_rfl) (by kernel_rfl) (fun _ _ _ h => h) rfl hS (fun wy hy => by first | (go_simp; done) | (go_simp; rfl) | rfl) ?_
          (try simp only [Act.put]); (try simp only [LsA, Ls0, LsS])
          refine heldTake 5 _ rfl (by kernel_rfl) (by kernel_rfl) (by kernel_rfl) (fun _ _ _ h => h) rfl hS (fun wy hy => by first | (go_simp; done) | (go_simp; rfl) | rfl) ?_
          (try simp only [Act.put]); (try simp only [LsA, Ls0, LsS])
          refine heldTake 6 _ rfl (by kernel_rfl) (by kernel_rfl) (by kernel_rfl) (fun _ _ _ h => h) rfl hS (fun wy hy => by have h0 := keep_below hy _ _ HB1.out; first | (go_simp; done) | (go_simp; rfl) | rfl) ?_
          (try simp only [Act.put]); (try simp only [LsA, Ls0, LsS])
          refine heldTake 7 _ rfl (by kernel_rfl) (by kernel_rfl) (by kernel_rfl) (fun _ _ _ h => h) rfl hS (fun wy hy => by first | (go_simp; done) | (go_simp; rfl) | rfl) ?_
          (try simp only [Act.put]); (try simp only [LsA, Ls0, LsS])
          refine heldTake 8 _ rfl (by kernel_rfl) (by kernel_rfl) (by kernel_rfl) (fun _ _ _ h => h) rfl hS (fun wy hy => by first | (go_simp; done) | (go_simp; rfl) | rfl) ?_
          (try simp only [Act.put]); (try simp only [LsA, Ls0, LsS])
          refine heldTake 9 _ rfl (by kernel_rfl) (by kernel_rfl) (by kernel_rfl) (fun _ _ _ h => h) rfl hS (fun wy hy => by have h0 := keep_below hy _ _ HCQ.out; first | (go_simp; done) | (go_simp; rfl) | rfl) ?_
          (try simp only [Act.put]); (try simp only [LsA, Ls0, LsS])
          refine heldTake 10 _ rfl (by kernel_rfl) (by kernel_rfl) (by kernel_rfl) (fun _ _ _ h => h) rfl hS (fun wy hy => by first | (go_simp; done) | (go_simp; rfl) | rfl) ?_
          (try simp only [Act.put]); (try simp only [LsA, Ls0, LsS])
          refine heldTake 11 _ rfl (by kernel_rfl) (by kernel_rfl) (by kernel_rfl) (fun _ _ _ h => h) rfl hS (fun wy hy => by first | (go_simp; done) | (go_simp; rfl) | rfl) ?_
          (try simp only [Act.put]); (try simp only [LsA, Ls0, LsS])
          refine heldTake 12 _ rfl (by kernel_rfl) (by kernel_rfl) (by kernel_rfl) (fun _ _ _ h => h) rfl hS (fun wy hy => by first | (go_simp; done) | (go_simp; rfl) | rfl) ?_
          (try simp only [Act.put]); (try simp only [LsA, Ls0, LsS])
          refine heldTake 13 _ rfl (by kernel_rfl) (by kernel_rfl) (by kernel_rfl) (fun _ _ _ h => h) rfl hS (fun wy hy => by have h0 := keep_below hy _ _ HC1'.out; first | (go_simp; done) | (go_simp; rfl) | rfl) ?_
          (try simp only [Act.put]); (try simp only [LsA, Ls0, LsS])
          refine heldTake 14 _ rfl (by kernel_rfl) (by kernel_rfl) (by kernel_rfl) (fun _ _ _ h => h) rfl hS (fun wy hy => by first | (go_simp; done) | (go_simp; rfl) | rfl) ?_
          (try simp only [Act.put]); (try simp only [LsA, Ls0, LsS])
          refine heldTake 15 _ rfl (by kernel_rfl) (by kernel_rfl) (by kernel_rfl) (fun _ _ _ h => h) rfl hS (fun wy hy => by first | (go_simp; done) | (go_simp; rfl) | rfl) ?_
          (try simp only [Act.put]); (try simp only [LsA, Ls0, LsS])
          refine heldTake 16 _ rfl (by kernel_rfl) (by kernel_rfl) (by kernel_rfl) (fun _ _ _ h => h) rfl hS (fun wy hy => by have h0 := keep_below hy _ _ HO1.out; first | (go_simp; done) | (go_simp; rfl) | rfl) ?_
          (try simp only [Act.put]); (try simp only [LsA, Ls0, LsS])
          refine heldStep 17 rfl (by kernel_rfl) (fun K hK => ?_)
          go_simp
          refine (HMK.out _).mono ?_
          rintro e w5 ⟨rfl, hb5⟩
          rw [Int.toNat_natCast]
          refine (Hid.out hK) _ _ (hS.trans (hb5.mono hS.size)) (fun hS2 => ?_)
          clear hK K hS
          have hS := hS2
          clear hS2
          (try simp only [Act.put]); (try simp only [LsA, Ls0, LsS])
          refine heldTake 18 (.bool false) rfl (by kernel_rfl) (by kernel_rfl) (by kernel_rfl) (fun _ _ _ h => h) rfl hS (fun wy hy => by go_simp) ?_
          (try simp only [Act.put]); (try simp only [LsA, Ls0, LsS])
          refine heldDone (by kernel_rfl) ?_
          have HB5 : Hid (Below w.heap.size w w5) := hS
          clear hS hb5
          go_wp2_with fail
          go_roundw
          case rel => exact ⟨q + 1, by omega, by go_num, HB5⟩
          case measure => simp [intOf]; omega
        · have hql' : ¬ (q : Int) < (en : Int) := by omega
          go_wp2
          go_roundw
          case rel => exact ⟨k + 1, by omega, by go_num, HB2⟩
          case measure => simp [intOf]; omega
    · have hlt' : ¬ (k : Int) < (es.length : Int) := by omega
      have z1 := keep_below HBw.out _ _ HZ1.out
      have z2 := keep_below HBw.out _ _ HZ2.out
      have z3 := keep_below HBw.out _ _ HZ3.out
      go_wp2
      iterate 3
        refine wp_loop_rounds 1 ?_
        rw [rounds_succ]
        go_wp2
      go_ret
      exact ⟨rfl, HBw.out⟩
end
section
open Go.RowKit Go
set_option maxRecDepth 100000 in
set_option maxHeartbeats 400000 in
theorem growRowsZ_any {w : World} {B : Nat} {C : Array Value} (hB : w.heap[B]? = some (.cells C 47 (0, 0))) (h1 : C[3]? = some (.slice none 0 0)) (h2 : C[5]? = some (.int .i64 0)) :
    Calls Tryz.prog 77 #[.pointer (some ⟨B, 0, none⟩)] w fun e w' => e = .returned (.tuple #[]) ∧ w'.heap[B]? = some (.cells C 47 (0, 0)) ∧ Kp (fun k => k = B) w w' := by
  have c0 := blk_cell hB h1
  have c2 := blk_cell hB h2
  have f2 := blk_frozen 5 hB
  have HE : Hid ((w.setCell ⟨B, 5, none⟩ (.int .i64 0)).heap[B]? = some (.cells C 47 (0, 0))) := by
    show _ = _
    rw [blk_set 5 _ hB, set_id h2]
  clear hB h1 h2
  go_enter Tryz.func77, Tryz.ntmps77
  go_wp2
  refine wp_loop_rounds 1 ?_
  rw [rounds_succ]
  go_wp2
  go_end0
  exact ⟨rfl, HE.out, (Kp.refl _ _).setCell _ _ (fun _ => rfl)⟩
set_option maxRecDepth 100000 in
set_option maxHeartbeats 400000 in
theorem growIntsZ_any {w : World} {B : Nat} {C : Array Value} (hB : w.heap[B]? = some (.cells C 47 (0, 0))) (h1 : C[9]? = some (.slice none 0 0)) (h2 : C[11]? = some (.int .i64 0)) :
    Calls Tryz.prog 79 #[.pointer (some ⟨B, 0, none⟩)] w fun e w' => e = .returned (.tuple #[]) ∧ w'.heap[B]? = some (.cells C 47 (0, 0)) ∧ Kp (fun k => k = B) w w' := by
  have c0 := blk_cell hB h1
  have c2 := blk_cell hB h2
  have f2 := blk_frozen 11 hB
  have HE : Hid ((w.setCell ⟨B, 11, none⟩ (.int .i64 0)).heap[B]? = some (.cells C 47 (0, 0))) := by
    show _ = _
    rw [blk_set 11 _ hB, set_id h2]
  clear hB h1 h2
  go_enter Tryz.func79, Tryz.ntmps79
  go_wp2
  refine wp_loop_rounds 1 ?_
  rw [rounds_succ]
  go_wp2
  go_end0
  exact ⟨rfl, HE.out, (Kp.refl _ _).setCell _ _ (fun _ => rfl)⟩
set_option maxRecDepth 100000 in
set_option maxHeartbeats 400000 in
theorem growWordsZ_any {w : World} {B : Nat} {C : Array Value} (hB : w.heap[B]? = some (.cells C 47 (0, 0))) (h1 : C[12]? = some (.slice none 0 0)) (h2 : C[14]? = some (.int .i64 0)) :
    Calls Tryz.prog 80 #[.pointer (some ⟨B, 0, none⟩)] w fun e w' => e = .returned (.tuple #[]) ∧ w'.heap[B]? = some (.cells C 47 (0, 0)) ∧ Kp (fun k => k = B) w w' := by
  have c0 := blk_cell hB h1
  have c2 := blk_cell hB h2
  have f2 := blk_frozen 14 hB
  have HE : Hid ((w.setCell ⟨B, 14, none⟩ (.int .i64 0)).heap[B]? = some (.cells C 47 (0, 0))) := by
    show _ = _
    rw [blk_set 14 _ hB, set_id h2]
  clear hB h1 h2
  go_enter Tryz.func80, Tryz.ntmps80
  go_wp2
  refine wp_loop_rounds 1 ?_
  rw [rounds_succ]
  go_wp2
  go_end0
  exact ⟨rfl, HE.out, (Kp.refl _ _).setCell _ _ (fun _ => rfl)⟩
set_option maxRecDepth 100000 in
set_option maxHeartbeats 400000 in
theorem growFloatsZ_any {w : World} {B : Nat} {C : Array Value} (hB : w.heap[B]? = some (.cells C 47 (0, 0))) (h1 : C[15]? = some (.slice none 0 0)) (h2 : C[17]? = some (.int .i64 0)) :
    Calls Tryz.prog 81 #[.pointer (some ⟨B, 0, none⟩)] w fun e w' => e = .returned (.tuple #[]) ∧ w'.heap[B]? = some (.cells C 47 (0, 0)) ∧ Kp (fun k => k = B) w w' := by
  have c0 := blk_cell hB h1
  have c2 := blk_cell hB h2
  have f2 := blk_frozen 17 hB
  have HE : Hid ((w.setCell ⟨B, 17, none⟩ (.int .i64 0)).heap[B]? = some (.cells C 47 (0, 0))) := by
    show _ = _
    rw [blk_set 17 _ hB, set_id h2]
  clear hB h1 h2
  go_enter Tryz.func81, Tryz.ntmps81
  go_wp2
  refine wp_loop_rounds 1 ?_
  rw [rounds_succ]
  go_wp2
  go_end0
  exact ⟨rfl, HE.out, (Kp.refl _ _).setCell _ _ (fun _ => rfl)⟩
set_option maxRecDepth 100000 in
set_option maxHeartbeats 400000 in
theorem growNotesZ_any {w : World} {B : Nat} {C : Array Value} (hB : w.heap[B]? = some (.cells C 47 (0, 0))) (h1 : C[21]? = some (.slice none 0 0)) (h2 : C[23]? = some (.int .i64 0)) :
    Calls Tryz.prog 83 #[.pointer (some ⟨B, 0, none⟩)] w fun e w' => e = .returned (.tuple #[]) ∧ w'.heap[B]? = some (.cells C 47 (0, 0)) ∧ Kp (fun k => k = B) w w' := by
  have c0 := blk_cell hB h1
  have c2 := blk_cell hB h2
  have f2 := blk_frozen 23 hB
  have HE : Hid ((w.setCell ⟨B, 23, none⟩ (.int .i64 0)).heap[B]? = some (.cells C 47 (0, 0))) := by
    show _ = _
    rw [blk_set 23 _ hB, set_id h2]
  clear hB h1 h2
  go_enter Tryz.func83, Tryz.ntmps83
  go_wp2
  refine wp_loop_rounds 1 ?_
  rw [rounds_succ]
  go_wp2
  go_end0
  exact ⟨rfl, HE.out, (Kp.refl _ _).setCell _ _ (fun _ => rfl)⟩
set_option maxRecDepth 100000 in
set_option maxHeartbeats 400000 in
theorem growEntriesZ_any {w : World} {B : Nat} {C : Array Value} (hB : w.heap[B]? = some (.cells C 47 (0, 0))) (h1 : C[33]? = some (.slice none 0 0)) (h2 : C[35]? = some (.int .i64 0)) :
    Calls Tryz.prog 87 #[.pointer (some ⟨B, 0, none⟩)] w fun e w' => e = .returned (.tuple #[]) ∧ w'.heap[B]? = some (.cells C 47 (0, 0)) ∧ Kp (fun k => k = B) w w' := by
  have c0 := blk_cell hB h1
  have c2 := blk_cell hB h2
  have f2 := blk_frozen 35 hB
  have HE : Hid ((w.setCell ⟨B, 35, none⟩ (.int .i64 0)).heap[B]? = some (.cells C 47 (0, 0))) := by
    show _ = _
    rw [blk_set 35 _ hB, set_id h2]
  clear hB h1 h2
  go_enter Tryz.func87, Tryz.ntmps87
  go_wp2
  refine wp_loop_rounds 1 ?_
  rw [rounds_succ]
  go_wp2
  go_end0
  exact ⟨rfl, HE.out, (Kp.refl _ _).setCell _ _ (fun _ => rfl)⟩
set_option maxRecDepth 100000 in
set_option maxHeartbeats 400000 in
theorem growChangesZ_any {w : World} {B : Nat} {C : Array Value} (hB : w.heap[B]? = some (.cells C 47 (0, 0))) (h1 : C[36]? = some (.slice none 0 0)) (h2 : C[38]? = some (.int .i64 0)) :
    Calls Tryz.prog 88 #[.pointer (some ⟨B, 0, none⟩)] w fun e w' => e = .returned (.tuple #[]) ∧ w'.heap[B]? = some (.cells C 47 (0, 0)) ∧ Kp (fun k => k = B) w w' := by
  have c0 := blk_cell hB h1
  have c2 := blk_cell hB h2
  have f2 := blk_frozen 38 hB
  have HE : Hid ((w.setCell ⟨B, 38, none⟩ (.int .i64 0)).heap[B]? = some (.cells C 47 (0, 0))) := by
    show _ = _
    rw [blk_set 38 _ hB, set_id h2]
  clear hB h1 h2
  go_enter Tryz.func88, Tryz.ntmps88
  go_wp2
  refine wp_loop_rounds 1 ?_
  rw [rounds_succ]
  go_wp2
  go_end0
  exact ⟨rfl, HE.out, (Kp.refl _ _).setCell _ _ (fun _ => rfl)⟩
set_option maxRecDepth 100000 in
set_option maxHeartbeats 400000 in
theorem growBlocksZ_any {w : World} {B : Nat} {C : Array Value} (hB : w.heap[B]? = some (.cells C 47 (0, 0))) (h1 : C[39]? = some (.slice none 0 0)) (h2 : C[41]? = some (.int .i64 0)) :
    Calls Tryz.prog 89 #[.pointer (some ⟨B, 0, none⟩)] w fun e w' => e = .returned (.tuple #[]) ∧ w'.heap[B]? = some (.cells C 47 (0, 0)) ∧ Kp (fun k => k = B) w w' := by
  have c0 := blk_cell hB h1
  have c2 := blk_cell hB h2
  have f2 := blk_frozen 41 hB
  have HE : Hid ((w.setCell ⟨B, 41, none⟩ (.int .i64 0)).heap[B]? = some (.cells C 47 (0, 0))) := by
    show _ = _
    rw [blk_set 41 _ hB, set_id h2]
  clear hB h1 h2
  go_enter Tryz.func89, Tryz.ntmps89
  go_wp2
  refine wp_loop_rounds 1 ?_
  rw [rounds_succ]
  go_wp2
  go_end0
  exact ⟨rfl, HE.out, (Kp.refl _ _).setCell _ _ (fun _ => rfl)⟩
set_option maxRecDepth 100000 in
set_option maxHeartbeats 400000 in
theorem growCommitsZ_any {w : World} {B : Nat} {C : Array Value} (hB : w.heap[B]? = some (.cells C 47 (0, 0))) (h1 : C[42]? = some (.slice none 0 0)) (h2 : C[44]? = some (.int .i64 0)) :
    Calls Tryz.prog 90 #[.pointer (some ⟨B, 0, none⟩)] w fun e w' => e = .returned (.tuple #[]) ∧ w'.heap[B]? = some (.cells C 47 (0, 0)) ∧ Kp (fun k => k = B) w w' := by
  have c0 := blk_cell hB h1
  have c2 := blk_cell hB h2
  have f2 := blk_frozen 44 hB
  have HE : Hid ((w.setCell ⟨B, 44, none⟩ (.int .i64 0)).heap[B]? = some (.cells C 47 (0, 0))) := by
    show _ = _
    rw [blk_set 44 _ hB, set_id h2]
  clear hB h1 h2
  go_enter Tryz.func90, Tryz.ntmps90
  go_wp2
  refine wp_loop_rounds 1 ?_
  rw [rounds_succ]
  go_wp2
  go_end0
  exact ⟨rfl, HE.out, (Kp.refl _ _).setCell _ _ (fun _ => rfl)⟩
set_option maxRecDepth 100000 in
set_option maxHeartbeats 400000 in
theorem growTypedsZ_any {w : World} {B : Nat} {C : Array Value} (hB : w.heap[B]? = some (.cells C 47 (0, 0))) (h1 : C[48]? = some (.slice none 0 0)) (h2 : C[50]? = some (.int .i64 0)) :
    Calls Tryz.prog 92 #[.pointer (some ⟨B, 0, none⟩)] w fun e w' => e = .returned (.tuple #[]) ∧ w'.heap[B]? = some (.cells C 47 (0, 0)) ∧ Kp (fun k => k = B) w w' := by
  have c0 := blk_cell hB h1
  have c2 := blk_cell hB h2
  have f2 := blk_frozen 50 hB
  have HE : Hid ((w.setCell ⟨B, 50, none⟩ (.int .i64 0)).heap[B]? = some (.cells C 47 (0, 0))) := by
    show _ = _
    rw [blk_set 50 _ hB, set_id h2]
  clear hB h1 h2
  go_enter Tryz.func92, Tryz.ntmps92
  go_wp2
  refine wp_loop_rounds 1 ?_
  rw [rounds_succ]
  go_wp2
  go_end0
  exact ⟨rfl, HE.out, (Kp.refl _ _).setCell _ _ (fun _ => rfl)⟩
set_option maxRecDepth 100000 in
set_option maxHeartbeats 400000 in
theorem growStepsZ_any {w : World} {B : Nat} {C : Array Value} (hB : w.heap[B]? = some (.cells C 47 (0, 0))) (h1 : C[51]? = some (.slice none 0 0)) (h2 : C[53]? = some (.int .i64 0)) :
    Calls Tryz.prog 93 #[.pointer (some ⟨B, 0, none⟩)] w fun e w' => e = .returned (.tuple #[]) ∧ w'.heap[B]? = some (.cells C 47 (0, 0)) ∧ Kp (fun k => k = B) w w' := by
  have c0 := blk_cell hB h1
  have c2 := blk_cell hB h2
  have f2 := blk_frozen 53 hB
  have HE : Hid ((w.setCell ⟨B, 53, none⟩ (.int .i64 0)).heap[B]? = some (.cells C 47 (0, 0))) := by
    show _ = _
    rw [blk_set 53 _ hB, set_id h2]
  clear hB h1 h2
  go_enter Tryz.func93, Tryz.ntmps93
  go_wp2
  refine wp_loop_rounds 1 ?_
  rw [rounds_succ]
  go_wp2
  go_end0
  exact ⟨rfl, HE.out, (Kp.refl _ _).setCell _ _ (fun _ => rfl)⟩
end
section
open Go.RowKit Go
set_option maxRecDepth 1000000 in
set_option maxHeartbeats 1000000 in
theorem sentY_any {w : World} {base B : Nat} {C : Array Value} {vb vo : Value} {es : List Ent} {t : Nat} (hB : w.heap[B]? = some (.cells C 47 (0, 0))) (hJ0 : C[45]? = some vb) (hJ1 : C[46]? = some vo) (hz1 : C[42]? = some (.slice none 0 0)) (hz2 : C[48]? = some (.slice none 0 0)) (hz3 : C[51]? = some (.slice none 0 0)) (hK : Kc KY w base vb vo es t) (ht : t < 68719476736) :
    Calls Tryz.prog 75 #[.pointer (some ⟨B, 0, none⟩)] w fun e w' => e = .returned (.bool true) ∧ Below w.heap.size w w' := by
  obtain ⟨ab, capb, hvb, -, hxb, -⟩ := own_form hK.hb
  have HK := hide hK
  have HTT := hide ht
  have HC0 := hide (blk_cell hB hJ0)
  have HC1 := hide (blk_cell hB hJ1)
  have HZ1 := hide (blk_cell hB hz1)
  have HZ2 := hide (blk_cell hB hz2)
  have HZ3 := hide (blk_cell hB hz3)
  rw [hvb] at HC0
  clear hB hJ0 hJ1 hz1 hz2 hz3 hK ht
  go_enter Tryz.func75, Tryz.ntmps75
  have z1 := HZ1.out
  go_wp2
  refine wp_loop_rounds 1 ?_
  rw [rounds_succ]
  go_wp2
  clear z1
  go_loopw [7] (fun i wr => ∃ k : Nat, k ≤ es.length ∧ i = .int .i64 k ∧ Hid (Below w.heap.size w wr)) (fun i _ => es.length - (intOf i).toNat)
  case atStart => exact ⟨0, Nat.zero_le _, rfl, Below.refl _ _⟩
  case round =>
    obtain ⟨k, hk, rfl, HBw⟩ := hrel
    have c0 : wr.cell? ⟨B, 45, none⟩ = some (.slice ab es.length capb) := keep_below HBw.out _ _ HC0.out
    by_cases hlt : k < es.length
    · have hlt' : (k : Int) < (es.length : Int) := by omega
      obtain ⟨ab', capb', ao, capo, gb, go, av, capv, en, em, hvb2, hvo, hab, hao, hem, hen, hb1, ho1, hcv⟩ := HK.out.at (fun _ _ => rfl) hlt
      rw [hvb] at hvb2
      injection hvb2 with e1 _ e3
      subst e1
      subst e3
      subst hab
      subst hao
      have c1 : wr.cell? ⟨B, 46, none⟩ = some (.slice (some ⟨go, 0, none⟩) es.length capo) := by have := keep_below HBw.out _ _ HC1.out; rw [hvo] at this; exact this
      have co1 := keep_below HBw.out _ _ ho1
      have HB1 := hide hb1
      have HCV := hide hcv
      have hem' : (em : Int) < 68719476736 := by have := HTT.out; omega
      have cb1 := keep_below HBw.out _ _ hb1
      have hen' : (en : Int) < 68719477000 := by omega
      clear hcv hb1 ho1 hvo hem
      obtain ⟨wo, rfl⟩ : ∃ x, wr = x := ⟨wr, rfl⟩
      go_wp2
      clear c1 co1
      go_loopw [9] (fun j wr' => ∃ q : Nat, q ≤ en ∧ j = .int .i64 q ∧ Hid (Below w.heap.size w wr')) (fun j _ => en - (intOf j).toNat)
      case atStart => exact ⟨0, Nat.zero_le _, rfl, HBw⟩
      case round =>
        obtain ⟨q, hq, rfl, HB2⟩ := hrel
        clear c0 cb1
        have c0 : wr.cell? ⟨B, 45, none⟩ = some (.slice (some ⟨gb, 0, none⟩) es.length capb) := keep_below HB2.out _ _ HC0.out
        have cb1 := keep_below HB2.out _ _ HB1.out
        by_cases hql : q < en
        · as_aux_lemma =>
          have hql' : (q : Int) < (en : Int) := by omega
          obtain ⟨gv, hav, hcq⟩ := HCV.out q hql
          subst hav
          have HCQ : Hid (∀ j u, (yma em)[j]? = some u → wr.cell? ⟨gv, q * 9 + j, none⟩ = some u) := fun j u hu => keep_below HB2.out _ _ (hcq j u (get_lt hu) (by show (yma em).toList[j]? = some u; simpa using hu))
          have HAL : Hid ((yma em).all (·.oneCell') = true) := by
            show _ = _
            rw [Array.all_eq_true']
            intro x hx
            exact yma_one em x (by simpa using hx)
          have HN5 := hide (heap_alloc_new wr (.cells (yma em) 69))
          have HGZ := hide (heap_alloc_new wr (.cells #[.string ⟨#[]⟩, .int .i64 0, .int .i64 0, .int .i64 0, .string ⟨#[]⟩, .bool false, .slice none 0 0, .slice none 0 0, .slice none 0 0] 69))
          have HB5 : Hid (Below w.heap.size w (wr.alloc (.cells (yma em) 69))) := HB2.out.trans ((below_alloc4 wr _).mono HB2.out.size)
          have x0 : (wr.alloc (.cells (yma em) 69)).cell? ⟨wr.heap.size, 1, none⟩ = some (.int .i64 (1000 + (em : Int))) := blk_cell (j := 1) HN5.out rfl
          have x6 : (wr.alloc (.cells (yma em) 69)).cell? ⟨wr.heap.size, 6, none⟩ = some (.slice none 0 0) := blk_cell (j := 6) HN5.out rfl
          clear hcq
          go_wp2_with (first
            | (refine wpList_aggAt rfl rfl infoTp aggTp gv (q * 9) (yma em) rfl rfl HCQ.out ?_)
            | (refine wpList_storeRow rfl rfl wr.heap.size #[.string ⟨#[]⟩, .int .i64 0, .int .i64 0, .int .i64 0, .string ⟨#[]⟩, .bool false, .slice none 0 0, .slice none 0 0, .slice none 0 0] (yma em) 69 rfl rfl HGZ.out infoTp rfl HAL.out ?_; rw [World.setRow_alloc_new]; generalize wr.alloc (.cells (yma em) 69) = w5 at *))
          go_roundw
          case rel => exact ⟨q + 1, by omega, by go_num, HB5⟩
          case measure => simp [intOf]; omega
        · have hql' : ¬ (q : Int) < (en : Int) := by omega
          go_wp2
          go_roundw
          case rel => exact ⟨k + 1, by omega, by go_num, HB2⟩
          case measure => simp [intOf]; omega
    · have hlt' : ¬ (k : Int) < (es.length : Int) := by omega
      have z2 := keep_below HBw.out _ _ HZ2.out
      have z3 := keep_below HBw.out _ _ HZ3.out
      go_wp2
      iterate 2
        refine wp_loop_rounds 1 ?_
        rw [rounds_succ]
        go_wp2
      go_ret
      exact ⟨rfl, HBw.out⟩
end
section
open Go.RowKit
set_option maxRecDepth 1000000 in
set_option maxHeartbeats 1000000 in
theorem growCasesK_any {w : World} {base B : Nat} {C : Array Value} {vb vo : Value} {es : List Ent} {a t u : Nat} (hB : w.heap[B]? = some (.cells C 47 (0, 0))) (h57 : C.size = 57) (hJ0 : C[24]? = some vb) (hJ1 : C[25]? = some vo) (hJ2 : C[26]? = some (.int .i64 ((a : Nat) : Int))) (hK : Ko KC w base vb vo es a t u) (ht : t < 68719476736) (hu : u ≤ 16777216) (hbase : base ≤ w.heap.size) :
    Calls Tryz.prog 84 #[.pointer (some ⟨B, 0, none⟩)] w fun e w' => e = .returned (.tuple #[]) ∧ Hid (GrP KC 24 w base B C vb vo es t u w') := by
  obtain ⟨ab, capb, hvb, -, -, -⟩ := own_form hK.c.hb
  have HBASE := hide hbase
  have H57 := hide h57
  have HJ2 := hide hJ2
  have HK := hide hK
  have hal : a ≤ es.length := by obtain ⟨c, r, h1, h2, _⟩ := hK.count; omega
  have hel : es.length ≤ 139810 := by obtain ⟨c, r, h1, h2, h3⟩ := hK.count; simp only [KC] at h2 h3; omega
  have HG0 : Hid (Gw KC w base B C 24 vb vo es t w vb vo es a) := Gw.start hB hJ0 hJ1 hK
  have HTT := hide ht
  have c0 : w.cell? ⟨B, 24, none⟩ = some vb := blk_cell hB hJ0
  have c2 : w.cell? ⟨B, 26, none⟩ = some (.int .i64 (a : Nat)) := blk_cell hB hJ2
  clear hB h57 hJ0 hJ1 hJ2 hK ht hu hbase
  rw [hvb] at c0
  clear hvb
  obtain ⟨iL, hiL, hzL0, hzL1, hzL2⟩ := infoCsS_ex
  obtain ⟨iE, hiE, hzE0, hzE1, hzE2⟩ := (info_ex infoC3)
  go_enter Tryz.func84, Tryz.ntmps84
  go_wp2
  clear c0 c2
  go_loopw [3] (fun i wr => ∃ (k : Nat) (vb2 vo2 : Value) (es2 : List Ent), k ≤ es.length ∧ a ≤ k ∧ i = .int .i64 k ∧ Hid (Gw KC w base B C 24 vb vo es t wr vb2 vo2 es2 k) ∧ Hid (es2.length = es.length + 5 * (k - a))) (fun i _ => es.length - (intOf i).toNat)
  case atStart => exact ⟨a, vb, vo, es, hal, Nat.le_refl _, rfl, HG0, by show _ = _; omega⟩
  case round =>
    obtain ⟨k, vb2, vo2, es2, hk, hak, rfl, HG, HL2⟩ := hrel
    clear HG0
    obtain ⟨ab2, capb2, hvb2, -, -, hcb2⟩ := own_form HG.out.core.hb
    obtain ⟨ao2, capo2, hvo2, -, -, hco2⟩ := own_form HG.out.core.ho
    have HCB := hide hcb2
    have HCO := hide hco2
    have c0 : wr.cell? ⟨B, 24, none⟩ = some vb2 := HG.out.c0 (by have := H57.out; omega)
    have c1 : wr.cell? ⟨B, 25, none⟩ = some vo2 := HG.out.c1 (by have := H57.out; omega)
    have c2 : wr.cell? ⟨B, 26, none⟩ = some (.int .i64 (a : Nat)) := HG.out.cx (by decide) (by decide) HJ2.out
    have f2 := blk_frozen 26 HG.out.blk
    have he2 : es2.length ≤ 1398100 := by have := HL2.out; omega
    clear hcb2 hco2
    by_cases hlt : k < es.length
    · have hlt' : (k : Int) < (es.length : Int) := by omega
      obtain ⟨e, hek⟩ : ∃ e, es[k]? = some e := ⟨es[k], by simp [hlt]⟩
      have hek2 := HG.out.pre k e hek
      have hk2 : k < es2.length := (List.getElem?_eq_some_iff.1 hek2).1
      obtain ⟨gb, hab, hcb1⟩ := HCB.out k e.val (by simp [hek2])
      obtain ⟨go, hao, hco1⟩ := HCO.out k (.int .i64 ((e.m : Nat) : Int)) (by simp [hek2])
      have hmm := HG.out.core.hm e (List.mem_of_getElem? hek2)
      have HIN := hide (HG.out.begin hek)
      obtain ⟨ae, ce, hev⟩ := own_slice HIN.out.own
      have HEK := hide hek
      have HMM : Hid (e.m ≤ t ∧ e.n < 68719476736) := ⟨hmm.1, HK.out.hn k e hek hak⟩
      rw [hab] at hvb2
      rw [hao] at hvo2
      rw [hvb2] at c0
      rw [hvo2] at c1
      rw [Nat.add_zero] at hev
      obtain ⟨ev, en, em⟩ := e
      simp only at hev hcb1 hco1
      subst hev
      clear hvb2 hvo2 hab hao HCB HCO hmm hek hek2 f2 c2
      obtain ⟨wo, rfl⟩ : ∃ x, wr = x := ⟨wr, rfl⟩
      go_wp2
      clear c0 c1 hcb1 hco1
      go_loopw [4, 6] (fun g i wr' => ∃ (q : Nat) (vb3 vo3 : Value) (es3 : List Ent) (ag : Option Addr) (cg : Nat), q ≤ 32 ∧ i = .int .i64 ((q + 1 : Nat)) ∧ g = .slice ag (en + q) cg ∧ Hid (Ik KC w base B C 24 vb vo es t wr' vb3 vo3 es3 k ⟨.slice ae en ce, en, em⟩ q (.slice ag (en + q) cg)) ∧ Hid (es3.length = es2.length + pq q)) (fun _ i _ => 33 - (intOf i).toNat)
      case atStart => exact ⟨0, vb2, vo2, es2, ae, ce, by omega, rfl, rfl, HIN, rfl⟩
      case round =>
        obtain ⟨q, vb3, vo3, es3, ag, cg, hq, rfl, rfl, HI, HL3⟩ := hrel
        have hpc := pq_le q
        have he3 : es3.length ≤ 1398200 := by have := HL3.out; omega
        have HSZB : Hid (base ≤ wr.heap.size) := Nat.le_trans HBASE.out HI.out.g.kp.size
        clear HIN hpc
        by_cases hq96 : q < 32
        · have hq96' : ((q + 1 : Nat) : Int) ≤ 32 := by omega
          have HEN : Hid (en < 68719476736) := HMM.out.2
          have HEM : Hid (em ≤ t) := HMM.out.1
          have HMK := hide (fun W => casesMark_any (em : Int) W (by omega) (by have h1 := HEM.out; have h2 := HTT.out; omega))
          go_wp2_with fail
          refine (HMK.out _).mono ?_
          rintro e w1 ⟨rfl, hb1⟩
          have HI1 := hide (HI.out.next hb1)
          have HSZ1 : Hid (base ≤ w1.heap.size) := Nat.le_trans HSZB.out hb1.size
          have HO3 : Hid (w1.ownsRow base 114 2 (Value.slice ag (en + q) cg) (en + q) (KC.mkl em (en + q))) := HI1.out.own
          clear hb1 HI HMK
          rw [Int.toNat_natCast]
          go_wp2_with (first
            | (refine wpList_oneS rfl 67 114 rfl iE _ (cma em) 2 Tryz.underlying67 hiE hzE0 hzE1 (by decide) (by decide) rfl rfl ?_)
            | (at_builtin; refine append_mk rfl _ _ 67 114 iE _ 2 32 Tryz.underlying67 hiE hzE0 hzE1 hzE2 rfl (by decide) rfl base _ (en + q) _ rfl HO3.out (cma em) rfl ?c1 _ rfl rfl ?c2 (by decide) HSZ1.out ?_))
          case c1 => exact cma_one em
          case c2 => have := HEN.out; omega
          intro g4 w4 ho4 hkeep4 hk4 hat4
          obtain ⟨a4, c4, hg4⟩ := own_slice ho4
          have HI4 := hide (HI1.out.append KC_ok HEK.out ho4 hkeep4 hk4 hat4)
          have hsz4 : w1.heap.size ≤ w4.heap.size := hk4.size
          have HSZ4 : Hid (base ≤ w4.heap.size) := Nat.le_trans HSZ1.out hsz4
          subst hg4
          clear ho4 hkeep4 hk4 hat4 hsz4 HI1 HO3
          clear hq96'
          have hpos : ((q : Int) + 1 < 4 ∨ (¬ (q : Int) + 1 < 4 ∧ (((q : Int) + 1) % 16 == 0) = true)) ∨ (¬ (q : Int) + 1 < 4 ∧ (((q : Int) + 1) % 16 == 0) = false) := by
            by_cases h1 : q + 1 < 4
            · exact .inl (.inl (by omega))
            · by_cases h2 : (q + 1) % 16 = 0
              · exact .inl (.inr ⟨by omega, beq_iff_eq.2 (by omega)⟩)
              · exact .inr ⟨by omega, beq_eq_false_iff_ne.2 (by omega)⟩
          rcases hpos with hpos | ⟨hno1, hno2⟩
          · have hpc1 : pq (q + 1) = pq q + 1 := by
              refine pq_yes ?_
              rcases hpos with h | ⟨_, h⟩
              · left; omega
              · right; have := beq_iff_eq.1 h; omega
            have HPC := hide hpc1
            have c0 : w4.cell? ⟨B, 24, none⟩ = some vb3 := HI4.out.g.c0 (by have := H57.out; omega)
            clear hpc1
            rcases hpos with hno1 | ⟨hno1, hno2⟩
            all_goals
              go_wp2_with (at_builtin; refine append_lst rfl _ _ 37 67 iL Tryz.underlying37 hiL hzL0 hzL1 hzL2 rfl base vb3 es3.length _ rfl HI4.out.g.core.hb _ _ rfl rfl rfl (by omega) HSZ4.out ?_)
              intro v5 w5 ho5 hg5 hat5
              obtain ⟨a5, c5, hv5⟩ := own_slice ho5
              obtain ⟨hblk5, hblk6, hhalf, hkp5⟩ := HI4.out.g.core.push_a KC_ok HI4.out.g.blk 24 ⟨Value.slice a4 (en + q + 1) c4, en + (q + 1), em⟩ HI4.out.own v5 ho5 hg5
              have c0' : w5.cell? ⟨B, 24, none⟩ = some vb3 := blk_cell hblk5 (by rw [get_set_ne (by decide), get_set (by have := H57.out; omega)])
              have c1' : (w5.setCell ⟨B, 24, none⟩ v5).cell? ⟨B, 25, none⟩ = some vo3 := blk_cell hblk6 (by rw [get_set_ne (by decide), get_set (by have := H57.out; simp; omega)])
              have f0' := blk_frozen 24 hblk5
              have HHF := hide hhalf
              have HKP5 := hide hkp5
              have HBK6 := hide hblk6
              have HAT5 : Hid (∀ z, v5.ownBlock = some z → vb3.ownBlock = some z ∨ w.heap.size ≤ z) := fun z hz => by
                rcases hat5 with h | h
                · exact .inl (by rw [← h]; exact hz)
                · rw [h] at hz; injection hz with hz; exact .inr (by have := HI4.out.g.kp.size; omega)
              have HSZ5 : Hid (base ≤ (w5.setCell ⟨B, 24, none⟩ v5).heap.size ∧ w.heap.size ≤ (w5.setCell ⟨B, 24, none⟩ v5).heap.size) := ⟨Nat.le_trans HSZ4.out hkp5.size, Nat.le_trans HI4.out.g.kp.size hkp5.size⟩
              subst hv5
              clear ho5 hg5 hat5 hblk5 hblk6 hhalf hkp5 c0
              go_wp2_with (at_builtin; refine append_int rfl _ _ rfl base vo3 es3.length _ rfl HHF.out.ho _ w5.heap.size (by simp) rfl (by omega) HSZ5.out.1 ?_)
              intro v7 w7 ho7 hg7 hat7
              obtain ⟨a7, c7, hv7⟩ := own_slice ho7
              obtain ⟨hblk7, hblk8, hbk7, hkp7⟩ := HHF.out.push_b KC_ok (t := t) HBK6.out 25 v7 ho7 hg7 HI4.out.g.core.hs (fun x hx z h1 h2 => (HI4.out.share x hx z h1 h2).1) HI4.out.g.core.hm ⟨HEM.out, by have := HEN.out; show en + (q + 1) < _; omega⟩
              have c1'' : w7.cell? ⟨B, 25, none⟩ = some vo3 := blk_cell hblk7 (by rw [get_set_ne (by decide), get_set (by have := H57.out; simp; omega)])
              have f1'' := blk_frozen 25 hblk7
              have hkall : Kp (fun z => z = B ∨ vb3.ownBlock = some z ∨ vo3.ownBlock = some z) w4 (w7.setCell ⟨B, 25, none⟩ v7) :=
                (HKP5.out.mono (fun z _ hz => by rcases hz with h | h; exact .inl h; exact .inr (.inl h))).trans hkp7 (fun z _ hz => by rcases hz with h | h; exact .inl h; exact .inr (.inr h))
              have hbl9 := hblk8
              rw [cset C 24] at hbl9
              have HI7 := hide (HI4.out.push HEK.out hbl9 hbk7 hkall HAT5.out (fun z hz => by
                rcases hat7 with h | h
                · exact .inl (by rw [← h]; exact hz)
                · rw [h] at hz; injection hz with hz; exact .inr (by have := HSZ5.out.2; simp at this; omega)))
              subst hv7
              clear ho7 hg7 hat7 hblk7 hblk8 hbl9 hbk7 hkp7 hkall c0' c1' f0' HHF HKP5 HAT5 HSZ5 HI4 HBK6
              go_wp2
              go_roundw
              case rel => exact ⟨q + 1, _, _, _, _, _, by omega, by go_num, rfl, HI7, by show _ = _; have h1 := HL3.out; have h2 := HPC.out; simp; omega⟩
              case measure => simp [intOf]; omega
          · have hpc1 : pq (q + 1) = pq q := by
              refine pq_no ?_
              have := beq_eq_false_iff_ne.1 hno2
              omega
            have HPC := hide hpc1
            clear hpc1
            go_wp2
            go_roundw
            case rel => exact ⟨q + 1, _, _, _, _, _, by omega, by go_num, rfl, HI4, by show _ = _; have h1 := HL3.out; have h2 := HPC.out; omega⟩
            case measure => simp [intOf]; omega
        · have hq96' : ¬ ((q : Int) + 1) ≤ 32 := by omega
          have hqq : q = 32 := by omega
          have HQQ := hide hqq
          clear hqq hq96
          go_wp2
          go_roundw
          case rel =>
            refine ⟨k + 1, vb3, vo3, es3, by omega, by omega, by go_num, HI.out.g, ?_⟩
            have h1 := HL3.out
            have h2 := HL2.out
            rw [HQQ.out, pq_32] at h1
            show _ = _
            omega
          case measure => simp [intOf]; omega
    · have hlt' : ¬ (k : Int) < (es.length : Int) := by omega
      have hke : k = es.length := by omega
      rw [hvb2] at c0
      have HFI : Hid (GrP KC 24 w base B C vb vo es t u (wr.setCell ⟨B, 26, none⟩ (.int .i64 ((es2.length : Nat) : Int)))) := HG.out.fin KC_ok (by have := H57.out; omega) HK.out (by decide) (by have := HL2.out; rw [hke] at this; exact this)
      clear hke
      go_wp2
      go_end0
      exact ⟨rfl, HFI⟩
end
section
open Go.RowKit
set_option maxRecDepth 1000000 in
set_option maxHeartbeats 1000000 in
theorem growFieldsK_any {w : World} {base B : Nat} {C : Array Value} {vb vo : Value} {es : List Ent} {a t u : Nat} (hB : w.heap[B]? = some (.cells C 47 (0, 0))) (h57 : C.size = 57) (hJ0 : C[27]? = some vb) (hJ1 : C[28]? = some vo) (hJ2 : C[29]? = some (.int .i64 ((a : Nat) : Int))) (hK : Ko KF w base vb vo es a t u) (ht : t < 68719476736) (hu : u ≤ 16777216) (hbase : base ≤ w.heap.size) :
    Calls Tryz.prog 85 #[.pointer (some ⟨B, 0, none⟩)] w fun e w' => e = .returned (.tuple #[]) ∧ Hid (GrP KF 27 w base B C vb vo es t u w') := by
  obtain ⟨ab, capb, hvb, -, -, -⟩ := own_form hK.c.hb
  have HBASE := hide hbase
  have H57 := hide h57
  have HJ2 := hide hJ2
  have HK := hide hK
  have hal : a ≤ es.length := by obtain ⟨c, r, h1, h2, _⟩ := hK.count; omega
  have hel : es.length ≤ 139810 := by obtain ⟨c, r, h1, h2, h3⟩ := hK.count; simp only [KF] at h2 h3; omega
  have HG0 : Hid (Gw KF w base B C 27 vb vo es t w vb vo es a) := Gw.start hB hJ0 hJ1 hK
  have HTT := hide ht
  have c0 : w.cell? ⟨B, 27, none⟩ = some vb := blk_cell hB hJ0
  have c2 : w.cell? ⟨B, 29, none⟩ = some (.int .i64 (a : Nat)) := blk_cell hB hJ2
  clear hB h57 hJ0 hJ1 hJ2 hK ht hu hbase
  rw [hvb] at c0
  clear hvb
  obtain ⟨iL, hiL, hzL0, hzL1, hzL2⟩ := infoFsS_ex
  obtain ⟨iE, hiE, hzE0, hzE1, hzE2⟩ := (info_ex infoF3)
  go_enter Tryz.func85, Tryz.ntmps85
  go_wp2
  clear c0 c2
  go_loopw [3] (fun i wr => ∃ (k : Nat) (vb2 vo2 : Value) (es2 : List Ent), k ≤ es.length ∧ a ≤ k ∧ i = .int .i64 k ∧ Hid (Gw KF w base B C 27 vb vo es t wr vb2 vo2 es2 k) ∧ Hid (es2.length = es.length + 5 * (k - a))) (fun i _ => es.length - (intOf i).toNat)
  case atStart => exact ⟨a, vb, vo, es, hal, Nat.le_refl _, rfl, HG0, by show _ = _; omega⟩
  case round =>
    obtain ⟨k, vb2, vo2, es2, hk, hak, rfl, HG, HL2⟩ := hrel
    clear HG0
    obtain ⟨ab2, capb2, hvb2, -, -, hcb2⟩ := own_form HG.out.core.hb
    obtain ⟨ao2, capo2, hvo2, -, -, hco2⟩ := own_form HG.out.core.ho
    have HCB := hide hcb2
    have HCO := hide hco2
    have c0 : wr.cell? ⟨B, 27, none⟩ = some vb2 := HG.out.c0 (by have := H57.out; omega)
    have c1 : wr.cell? ⟨B, 28, none⟩ = some vo2 := HG.out.c1 (by have := H57.out; omega)
    have c2 : wr.cell? ⟨B, 29, none⟩ = some (.int .i64 (a : Nat)) := HG.out.cx (by decide) (by decide) HJ2.out
    have f2 := blk_frozen 29 HG.out.blk
    have he2 : es2.length ≤ 1398100 := by have := HL2.out; omega
    clear hcb2 hco2
    by_cases hlt : k < es.length
    · have hlt' : (k : Int) < (es.length : Int) := by omega
      obtain ⟨e, hek⟩ : ∃ e, es[k]? = some e := ⟨es[k], by simp [hlt]⟩
      have hek2 := HG.out.pre k e hek
      have hk2 : k < es2.length := (List.getElem?_eq_some_iff.1 hek2).1
      obtain ⟨gb, hab, hcb1⟩ := HCB.out k e.val (by simp [hek2])
      obtain ⟨go, hao, hco1⟩ := HCO.out k (.int .i64 ((e.m : Nat) : Int)) (by simp [hek2])
      have hmm := HG.out.core.hm e (List.mem_of_getElem? hek2)
      have HIN := hide (HG.out.begin hek)
      obtain ⟨ae, ce, hev⟩ := own_slice HIN.out.own
      have HEK := hide hek
      have HMM : Hid (e.m ≤ t ∧ e.n < 68719476736) := ⟨hmm.1, HK.out.hn k e hek hak⟩
      rw [hab] at hvb2
      rw [hao] at hvo2
      rw [hvb2] at c0
      rw [hvo2] at c1
      rw [Nat.add_zero] at hev
      obtain ⟨ev, en, em⟩ := e
      simp only at hev hcb1 hco1
      subst hev
      clear hvb2 hvo2 hab hao HCB HCO hmm hek hek2 f2 c2
      obtain ⟨wo, rfl⟩ : ∃ x, wr = x := ⟨wr, rfl⟩
      go_wp2
      clear c0 c1 hcb1 hco1
      go_loopw [4, 6] (fun g i wr' => ∃ (q : Nat) (vb3 vo3 : Value) (es3 : List Ent) (ag : Option Addr) (cg : Nat), q ≤ 32 ∧ i = .int .i64 ((q + 1 : Nat)) ∧ g = .slice ag (en + q) cg ∧ Hid (Ik KF w base B C 27 vb vo es t wr' vb3 vo3 es3 k ⟨.slice ae en ce, en, em⟩ q (.slice ag (en + q) cg)) ∧ Hid (es3.length = es2.length + pq q)) (fun _ i _ => 33 - (intOf i).toNat)
      case atStart => exact ⟨0, vb2, vo2, es2, ae, ce, by omega, rfl, rfl, HIN, rfl⟩
      case round =>
        obtain ⟨q, vb3, vo3, es3, ag, cg, hq, rfl, rfl, HI, HL3⟩ := hrel
        have hpc := pq_le q
        have he3 : es3.length ≤ 1398200 := by have := HL3.out; omega
        have HSZB : Hid (base ≤ wr.heap.size) := Nat.le_trans HBASE.out HI.out.g.kp.size
        clear HIN hpc
        by_cases hq96 : q < 32
        · have hq96' : ((q + 1 : Nat) : Int) ≤ 32 := by omega
          have HEN : Hid (en < 68719476736) := HMM.out.2
          have HEM : Hid (em ≤ t) := HMM.out.1
          have HMK := hide (fun W => fieldsMark_any (em : Int) W (by omega) (by have h1 := HEM.out; have h2 := HTT.out; omega))
          go_wp2_with fail
          refine (HMK.out _).mono ?_
          rintro e w1 ⟨rfl, hb1⟩
          have HI1 := hide (HI.out.next hb1)
          have HSZ1 : Hid (base ≤ w1.heap.size) := Nat.le_trans HSZB.out hb1.size
          have HO3 : Hid (w1.ownsRow base 104 5 (Value.slice ag (en + q) cg) (en + q) (KF.mkl em (en + q))) := HI1.out.own
          clear hb1 HI HMK
          rw [Int.toNat_natCast]
          go_wp2_with (first
            | (refine wpList_oneS rfl 66 104 rfl iE _ (fma em) 5 Tryz.underlying66 hiE hzE0 hzE1 (by decide) (by decide) rfl rfl ?_)
            | (at_builtin; refine append_mk rfl _ _ 66 104 iE _ 5 64 Tryz.underlying66 hiE hzE0 hzE1 hzE2 rfl (by decide) rfl base _ (en + q) _ rfl HO3.out (fma em) rfl ?c1 _ rfl rfl ?c2 (by decide) HSZ1.out ?_))
          case c1 => exact fma_one em
          case c2 => have := HEN.out; omega
          intro g4 w4 ho4 hkeep4 hk4 hat4
          obtain ⟨a4, c4, hg4⟩ := own_slice ho4
          have HI4 := hide (HI1.out.append KF_ok HEK.out ho4 hkeep4 hk4 hat4)
          have hsz4 : w1.heap.size ≤ w4.heap.size := hk4.size
          have HSZ4 : Hid (base ≤ w4.heap.size) := Nat.le_trans HSZ1.out hsz4
          subst hg4
          clear ho4 hkeep4 hk4 hat4 hsz4 HI1 HO3
          clear hq96'
          have hpos : ((q : Int) + 1 < 4 ∨ (¬ (q : Int) + 1 < 4 ∧ (((q : Int) + 1) % 16 == 0) = true)) ∨ (¬ (q : Int) + 1 < 4 ∧ (((q : Int) + 1) % 16 == 0) = false) := by
            by_cases h1 : q + 1 < 4
            · exact .inl (.inl (by omega))
            · by_cases h2 : (q + 1) % 16 = 0
              · exact .inl (.inr ⟨by omega, beq_iff_eq.2 (by omega)⟩)
              · exact .inr ⟨by omega, beq_eq_false_iff_ne.2 (by omega)⟩
          rcases hpos with hpos | ⟨hno1, hno2⟩
          · have hpc1 : pq (q + 1) = pq q + 1 := by
              refine pq_yes ?_
              rcases hpos with h | ⟨_, h⟩
              · left; omega
              · right; have := beq_iff_eq.1 h; omega
            have HPC := hide hpc1
            have c0 : w4.cell? ⟨B, 27, none⟩ = some vb3 := HI4.out.g.c0 (by have := H57.out; omega)
            clear hpc1
            rcases hpos with hno1 | ⟨hno1, hno2⟩
            all_goals
              go_wp2_with (at_builtin; refine append_lst rfl _ _ 38 66 iL Tryz.underlying38 hiL hzL0 hzL1 hzL2 rfl base vb3 es3.length _ rfl HI4.out.g.core.hb _ _ rfl rfl rfl (by omega) HSZ4.out ?_)
              intro v5 w5 ho5 hg5 hat5
              obtain ⟨a5, c5, hv5⟩ := own_slice ho5
              obtain ⟨hblk5, hblk6, hhalf, hkp5⟩ := HI4.out.g.core.push_a KF_ok HI4.out.g.blk 27 ⟨Value.slice a4 (en + q + 1) c4, en + (q + 1), em⟩ HI4.out.own v5 ho5 hg5
              have c0' : w5.cell? ⟨B, 27, none⟩ = some vb3 := blk_cell hblk5 (by rw [get_set_ne (by decide), get_set (by have := H57.out; omega)])
              have c1' : (w5.setCell ⟨B, 27, none⟩ v5).cell? ⟨B, 28, none⟩ = some vo3 := blk_cell hblk6 (by rw [get_set_ne (by decide), get_set (by have := H57.out; simp; omega)])
              have f0' := blk_frozen 27 hblk5
              have HHF := hide hhalf
              have HKP5 := hide hkp5
              have HBK6 := hide hblk6
              have HAT5 : Hid (∀ z, v5.ownBlock = some z → vb3.ownBlock = some z ∨ w.heap.size ≤ z) := fun z hz => by
                rcases hat5 with h | h
                · exact .inl (by rw [← h]; exact hz)
                · rw [h] at hz; injection hz with hz; exact .inr (by have := HI4.out.g.kp.size; omega)
              have HSZ5 : Hid (base ≤ (w5.setCell ⟨B, 27, none⟩ v5).heap.size ∧ w.heap.size ≤ (w5.setCell ⟨B, 27, none⟩ v5).heap.size) := ⟨Nat.le_trans HSZ4.out hkp5.size, Nat.le_trans HI4.out.g.kp.size hkp5.size⟩
              subst hv5
              clear ho5 hg5 hat5 hblk5 hblk6 hhalf hkp5 c0
              go_wp2_with (at_builtin; refine append_int rfl _ _ rfl base vo3 es3.length _ rfl HHF.out.ho _ w5.heap.size (by simp) rfl (by omega) HSZ5.out.1 ?_)
              intro v7 w7 ho7 hg7 hat7
              obtain ⟨a7, c7, hv7⟩ := own_slice ho7
              obtain ⟨hblk7, hblk8, hbk7, hkp7⟩ := HHF.out.push_b KF_ok (t := t) HBK6.out 28 v7 ho7 hg7 HI4.out.g.core.hs (fun x hx z h1 h2 => (HI4.out.share x hx z h1 h2).1) HI4.out.g.core.hm ⟨HEM.out, by have := HEN.out; show en + (q + 1) < _; omega⟩
              have c1'' : w7.cell? ⟨B, 28, none⟩ = some vo3 := blk_cell hblk7 (by rw [get_set_ne (by decide), get_set (by have := H57.out; simp; omega)])
              have f1'' := blk_frozen 28 hblk7
              have hkall : Kp (fun z => z = B ∨ vb3.ownBlock = some z ∨ vo3.ownBlock = some z) w4 (w7.setCell ⟨B, 28, none⟩ v7) :=
                (HKP5.out.mono (fun z _ hz => by rcases hz with h | h; exact .inl h; exact .inr (.inl h))).trans hkp7 (fun z _ hz => by rcases hz with h | h; exact .inl h; exact .inr (.inr h))
              have hbl9 := hblk8
              rw [cset C 27] at hbl9
              have HI7 := hide (HI4.out.push HEK.out hbl9 hbk7 hkall HAT5.out (fun z hz => by
                rcases hat7 with h | h
                · exact .inl (by rw [← h]; exact hz)
                · rw [h] at hz; injection hz with hz; exact .inr (by have := HSZ5.out.2; simp at this; omega)))
              subst hv7
              clear ho7 hg7 hat7 hblk7 hblk8 hbl9 hbk7 hkp7 hkall c0' c1' f0' HHF HKP5 HAT5 HSZ5 HI4 HBK6
              go_wp2
              go_roundw
              case rel => exact ⟨q + 1, _, _, _, _, _, by omega, by go_num, rfl, HI7, by show _ = _; have h1 := HL3.out; have h2 := HPC.out; simp; omega⟩
              case measure => simp [intOf]; omega
          · have hpc1 : pq (q + 1) = pq q := by
              refine pq_no ?_
              have := beq_eq_false_iff_ne.1 hno2
              omega
            have HPC := hide hpc1
            clear hpc1
            go_wp2
            go_roundw
            case rel => exact ⟨q + 1, _, _, _, _, _, by omega, by go_num, rfl, HI4, by show _ = _; have h1 := HL3.out; have h2 := HPC.out; omega⟩
            case measure => simp [intOf]; omega
        · have hq96' : ¬ ((q : Int) + 1) ≤ 32 := by omega
          have hqq : q = 32 := by omega
          have HQQ := hide hqq
          clear hqq hq96
          go_wp2
          go_roundw
          case rel =>
            refine ⟨k + 1, vb3, vo3, es3, by omega, by omega, by go_num, HI.out.g, ?_⟩
            have h1 := HL3.out
            have h2 := HL2.out
            rw [HQQ.out, pq_32] at h1
            show _ = _
            omega
          case measure => simp [intOf]; omega
    · have hlt' : ¬ (k : Int) < (es.length : Int) := by omega
      have hke : k = es.length := by omega
      rw [hvb2] at c0
      have HFI : Hid (GrP KF 27 w base B C vb vo es t u (wr.setCell ⟨B, 29, none⟩ (.int .i64 ((es2.length : Nat) : Int)))) := HG.out.fin KF_ok (by have := H57.out; omega) HK.out (by decide) (by have := HL2.out; rw [hke] at this; exact this)
      clear hke
      go_wp2
      go_end0
      exact ⟨rfl, HFI⟩
end
section
open Go.RowKit

end
end Go.Proofs.YtbbalhfjgpaabaaGreatDoor

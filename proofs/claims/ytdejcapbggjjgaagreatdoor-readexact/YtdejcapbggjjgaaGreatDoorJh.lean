import Derived.Test.YtdejcapbggjjgaaGreatDoorJg
import Derived.Test.YtdejcapbggjjgaaGreatDoorJb
import Derived.Test.YtdejcapbggjjgaaGreatDoorJd
import Derived.Test.YtdejcapbggjjgaaGreatDoorJc
import Derived.Test.YtdejcapbggjjgaaGreatDoorJf
import Derived.Test.YtdejcapbggjjgaaGreatDoorJa
namespace Go.Proofs.YtdejcapbggjjgaaGreatDoor
section
open Go.RowKit Go
set_option maxRecDepth 1000000 in
set_option maxHeartbeats 1000000 in
theorem heldK_any {w : World} {base B : Nat} {C : Array Value} {vb vo : Value} {es : List Ent} {t : Nat} (hB : w.heap[B]? = some (.cells C 45 (0, 0))) (hJ0 : C[30]? = some vb) (hJ1 : C[31]? = some vo) (hz1 : C[33]? = some (.slice none 0 0)) (hz2 : C[36]? = some (.slice none 0 0)) (hz3 : C[39]? = some (.slice none 0 0)) (hK : Kc KV w base vb vo es t) (ht : t < 68719476736) :
    Calls Tryz.prog 33 #[.pointer (some ⟨B, 0, none⟩)] w fun e w' => e = .returned (.bool true) ∧ Below w.heap.size w w' := by
  obtain ⟨ab, capb, hvb, -, hxb, -⟩ := own_form hK.hb
  have HK := hide hK
  have HTT := hide ht
  have HC0 := hide (blk_cell hB hJ0)
  have HC1 := hide (blk_cell hB hJ1)
  have HZ1 := hide (blk_cell hB hz1)
  have HZ2 := hide (blk_cell hB hz2)
  have HZ3 := hide (blk_cell hB hz3)
  rw [hvb] at HC0
  clear hB hJ0 hJ1 hz1 hz2 hz3 hK ht
  go_enter Tryz.func33, Tryz.ntmps33
  go_wp2
  go_loopw [3] (fun i wr => ∃ k : Nat, k ≤ es.length ∧ i = .int .i64 k ∧ Hid (Below w.heap.size w wr)) (fun i _ => es.length - (intOf i).toNat)
  case atStart => exact ⟨0, Nat.zero_le _, rfl, Below.refl _ _⟩
  case round =>
    obtain ⟨k, hk, rfl, HBw⟩ := hrel
    have c0 : wr.cell? ⟨B, 30, none⟩ = some (.slice ab es.length capb) := keep_below HBw.out _ _ HC0.out
    by_cases hlt : k < es.length
    · have hlt' : (k : Int) < (es.length : Int) := by omega
      obtain ⟨ab', capb', ao, capo, gb, go, av, capv, en, em, hvb2, hvo, hab, hao, hem, hen, hb1, ho1, hcv⟩ := HK.out.at (fun _ _ => rfl) hlt
      rw [hvb] at hvb2
      injection hvb2 with e1 _ e3
      subst e1
      subst e3
      subst hab
      subst hao
      have c1 : wr.cell? ⟨B, 31, none⟩ = some (.slice (some ⟨go, 0, none⟩) es.length capo) := by have := keep_below HBw.out _ _ HC1.out; rw [hvo] at this; exact this
      have co1 := keep_below HBw.out _ _ ho1
      have HB1 := hide hb1
      have HCV := hide hcv
      have hem' : (em : Int) < 68719476736 := by have := HTT.out; omega
      have cb1 := keep_below HBw.out _ _ hb1
      have hen' : (en : Int) < 68719477000 := by omega
      clear hcv hb1 ho1 hvo hem
      obtain ⟨wo, rfl⟩ : ∃ x, wr = x := ⟨wr, rfl⟩
      go_wp2
      clear c1 co1
      go_loopw [5] (fun j wr' => ∃ q : Nat, q ≤ en ∧ j = .int .i64 q ∧ Hid (Below w.heap.size w wr')) (fun j _ => en - (intOf j).toNat)
      case atStart => exact ⟨0, Nat.zero_le _, rfl, HBw⟩
      case round =>
        obtain ⟨q, hq, rfl, HB2⟩ := hrel
        clear c0 cb1
        have c0 : wr.cell? ⟨B, 30, none⟩ = some (.slice (some ⟨gb, 0, none⟩) es.length capb) := keep_below HB2.out _ _ HC0.out
        have cb1 := keep_below HB2.out _ _ HB1.out
        by_cases hql : q < en
        · as_aux_lemma =>
          have hql' : (q : Int) < (en : Int) := by omega
          obtain ⟨gv, hav, hcq⟩ := HCV.out q hql
          subst hav
          have HCQ : Hid (∀ j u, (vma em)[j]? = some u → wr.cell? ⟨gv, q * 13 + j, none⟩ = some u) := fun j u hu => keep_below HB2.out _ _ (hcq j u (get_lt hu) (by show (vma em).toList[j]? = some u; simpa using hu))
          have HAL : Hid ((vma em).all (·.oneCell') = true) := by
            show _ = _
            rw [Array.all_eq_true']
            intro x hx
            exact vma_one em x (by simpa using hx)
          have HN5 := hide (heap_alloc_new wr (.cells (vma em) 61))
          have HGZ := hide (heap_alloc_new wr (.cells zv 61))
          have HB5 : Hid (Below w.heap.size w (wr.alloc (.cells (vma em) 61))) := HB2.out.trans ((below_alloc4 wr _).mono HB2.out.size)
          have x0 : (wr.alloc (.cells (vma em) 61)).cell? ⟨wr.heap.size, 0, none⟩ = some (.int .i64 (1000 + (em : Int))) := blk_cell (j := 0) HN5.out rfl
          have x6 : (wr.alloc (.cells (vma em) 61)).cell? ⟨wr.heap.size, 6, none⟩ = some (.slice none 0 0) := blk_cell (j := 6) HN5.out rfl
          have x12 : (wr.alloc (.cells (vma em) 61)).cell? ⟨wr.heap.size, 12, none⟩ = some (.slice none 0 0) := blk_cell (j := 12) HN5.out rfl
          clear hcq
          go_wp2_with (first
            | (refine wpList_valAt rfl rfl gv (q * 13) (vma em) rfl rfl HCQ.out ?_)
            | (refine wpList_storeRow rfl rfl wr.heap.size zv (vma em) 61 rfl rfl HGZ.out infoV rfl HAL.out ?_; rw [World.setRow_alloc_new]; generalize wr.alloc (.cells (vma em) 61) = w5 at *))
          go_roundw
          case rel => exact ⟨q + 1, by omega, by go_num, HB5⟩
          case measure => simp [intOf]; omega
        · have hql' : ¬ (q : Int) < (en : Int) := by omega
          go_wp2
          go_roundw
          case rel => exact ⟨k + 1, by omega, by go_num, HB2⟩
          case measure => simp [intOf]; omega
    · have hlt' : ¬ (k : Int) < (es.length : Int) := by omega
      have z1 := keep_below HBw.out _ _ HZ1.out
      have z2 := keep_below HBw.out _ _ HZ2.out
      have z3 := keep_below HBw.out _ _ HZ3.out
      go_wp2
      iterate 3
        refine wp_loop_rounds 1 ?_
        rw [rounds_succ]
        go_wp2
      go_ret
      exact ⟨rfl, HBw.out⟩
set_option maxRecDepth 100000 in
set_option maxHeartbeats 400000 in
theorem sentK_any {w : World} {B : Nat} {C : Array Value} (hB : w.heap[B]? = some (.cells C 45 (0, 0))) (h1 : C[42]? = some (.slice none 0 0)) (h2 : C[45]? = some (.slice none 0 0)) (h3 : C[48]? = some (.slice none 0 0)) (h4 : C[51]? = some (.slice none 0 0)) :
    Calls Tryz.prog 34 #[.pointer (some ⟨B, 0, none⟩)] w fun e w' => e = .returned (.bool true) ∧ w' = w := by
  have c42 := blk_cell hB h1
  have c45 := blk_cell hB h2
  have c48 := blk_cell hB h3
  have c51 := blk_cell hB h4
  clear hB h1 h2 h3 h4
  go_enter Tryz.func34, Tryz.ntmps34
  go_wp2
  iterate 4
    refine wp_loop_rounds 1 ?_
    rw [rounds_succ]
    go_wp2
  go_ret
  exact ⟨rfl, rfl⟩
set_option maxRecDepth 100000 in
set_option maxHeartbeats 400000 in
theorem growRowsZ_any {w : World} {B : Nat} {C : Array Value} (hB : w.heap[B]? = some (.cells C 45 (0, 0))) (h1 : C[3]? = some (.slice none 0 0)) (h2 : C[5]? = some (.int .i64 0)) :
    Calls Tryz.prog 36 #[.pointer (some ⟨B, 0, none⟩)] w fun e w' => e = .returned (.tuple #[]) ∧ w'.heap[B]? = some (.cells C 45 (0, 0)) ∧ Kp (fun k => k = B) w w' := by
  have c0 := blk_cell hB h1
  have c2 := blk_cell hB h2
  have f2 := blk_frozen 5 hB
  have HE : Hid ((w.setCell ⟨B, 5, none⟩ (.int .i64 0)).heap[B]? = some (.cells C 45 (0, 0))) := by
    show _ = _
    rw [blk_set 5 _ hB, set_id h2]
  clear hB h1 h2
  go_enter Tryz.func36, Tryz.ntmps36
  go_wp2
  refine wp_loop_rounds 1 ?_
  rw [rounds_succ]
  go_wp2
  go_end0
  exact ⟨rfl, HE.out, (Kp.refl _ _).setCell _ _ (fun _ => rfl)⟩
set_option maxRecDepth 100000 in
set_option maxHeartbeats 400000 in
theorem growIntsZ_any {w : World} {B : Nat} {C : Array Value} (hB : w.heap[B]? = some (.cells C 45 (0, 0))) (h1 : C[9]? = some (.slice none 0 0)) (h2 : C[11]? = some (.int .i64 0)) :
    Calls Tryz.prog 38 #[.pointer (some ⟨B, 0, none⟩)] w fun e w' => e = .returned (.tuple #[]) ∧ w'.heap[B]? = some (.cells C 45 (0, 0)) ∧ Kp (fun k => k = B) w w' := by
  have c0 := blk_cell hB h1
  have c2 := blk_cell hB h2
  have f2 := blk_frozen 11 hB
  have HE : Hid ((w.setCell ⟨B, 11, none⟩ (.int .i64 0)).heap[B]? = some (.cells C 45 (0, 0))) := by
    show _ = _
    rw [blk_set 11 _ hB, set_id h2]
  clear hB h1 h2
  go_enter Tryz.func38, Tryz.ntmps38
  go_wp2
  refine wp_loop_rounds 1 ?_
  rw [rounds_succ]
  go_wp2
  go_end0
  exact ⟨rfl, HE.out, (Kp.refl _ _).setCell _ _ (fun _ => rfl)⟩
set_option maxRecDepth 100000 in
set_option maxHeartbeats 400000 in
theorem growWordsZ_any {w : World} {B : Nat} {C : Array Value} (hB : w.heap[B]? = some (.cells C 45 (0, 0))) (h1 : C[12]? = some (.slice none 0 0)) (h2 : C[14]? = some (.int .i64 0)) :
    Calls Tryz.prog 39 #[.pointer (some ⟨B, 0, none⟩)] w fun e w' => e = .returned (.tuple #[]) ∧ w'.heap[B]? = some (.cells C 45 (0, 0)) ∧ Kp (fun k => k = B) w w' := by
  have c0 := blk_cell hB h1
  have c2 := blk_cell hB h2
  have f2 := blk_frozen 14 hB
  have HE : Hid ((w.setCell ⟨B, 14, none⟩ (.int .i64 0)).heap[B]? = some (.cells C 45 (0, 0))) := by
    show _ = _
    rw [blk_set 14 _ hB, set_id h2]
  clear hB h1 h2
  go_enter Tryz.func39, Tryz.ntmps39
  go_wp2
  refine wp_loop_rounds 1 ?_
  rw [rounds_succ]
  go_wp2
  go_end0
  exact ⟨rfl, HE.out, (Kp.refl _ _).setCell _ _ (fun _ => rfl)⟩
set_option maxRecDepth 100000 in
set_option maxHeartbeats 400000 in
theorem growFloatsZ_any {w : World} {B : Nat} {C : Array Value} (hB : w.heap[B]? = some (.cells C 45 (0, 0))) (h1 : C[15]? = some (.slice none 0 0)) (h2 : C[17]? = some (.int .i64 0)) :
    Calls Tryz.prog 40 #[.pointer (some ⟨B, 0, none⟩)] w fun e w' => e = .returned (.tuple #[]) ∧ w'.heap[B]? = some (.cells C 45 (0, 0)) ∧ Kp (fun k => k = B) w w' := by
  have c0 := blk_cell hB h1
  have c2 := blk_cell hB h2
  have f2 := blk_frozen 17 hB
  have HE : Hid ((w.setCell ⟨B, 17, none⟩ (.int .i64 0)).heap[B]? = some (.cells C 45 (0, 0))) := by
    show _ = _
    rw [blk_set 17 _ hB, set_id h2]
  clear hB h1 h2
  go_enter Tryz.func40, Tryz.ntmps40
  go_wp2
  refine wp_loop_rounds 1 ?_
  rw [rounds_succ]
  go_wp2
  go_end0
  exact ⟨rfl, HE.out, (Kp.refl _ _).setCell _ _ (fun _ => rfl)⟩
set_option maxRecDepth 100000 in
set_option maxHeartbeats 400000 in
theorem growNotesZ_any {w : World} {B : Nat} {C : Array Value} (hB : w.heap[B]? = some (.cells C 45 (0, 0))) (h1 : C[21]? = some (.slice none 0 0)) (h2 : C[23]? = some (.int .i64 0)) :
    Calls Tryz.prog 42 #[.pointer (some ⟨B, 0, none⟩)] w fun e w' => e = .returned (.tuple #[]) ∧ w'.heap[B]? = some (.cells C 45 (0, 0)) ∧ Kp (fun k => k = B) w w' := by
  have c0 := blk_cell hB h1
  have c2 := blk_cell hB h2
  have f2 := blk_frozen 23 hB
  have HE : Hid ((w.setCell ⟨B, 23, none⟩ (.int .i64 0)).heap[B]? = some (.cells C 45 (0, 0))) := by
    show _ = _
    rw [blk_set 23 _ hB, set_id h2]
  clear hB h1 h2
  go_enter Tryz.func42, Tryz.ntmps42
  go_wp2
  refine wp_loop_rounds 1 ?_
  rw [rounds_succ]
  go_wp2
  go_end0
  exact ⟨rfl, HE.out, (Kp.refl _ _).setCell _ _ (fun _ => rfl)⟩
set_option maxRecDepth 100000 in
set_option maxHeartbeats 400000 in
theorem growCasesZ_any {w : World} {B : Nat} {C : Array Value} (hB : w.heap[B]? = some (.cells C 45 (0, 0))) (h1 : C[24]? = some (.slice none 0 0)) (h2 : C[26]? = some (.int .i64 0)) :
    Calls Tryz.prog 43 #[.pointer (some ⟨B, 0, none⟩)] w fun e w' => e = .returned (.tuple #[]) ∧ w'.heap[B]? = some (.cells C 45 (0, 0)) ∧ Kp (fun k => k = B) w w' := by
  have c0 := blk_cell hB h1
  have c2 := blk_cell hB h2
  have f2 := blk_frozen 26 hB
  have HE : Hid ((w.setCell ⟨B, 26, none⟩ (.int .i64 0)).heap[B]? = some (.cells C 45 (0, 0))) := by
    show _ = _
    rw [blk_set 26 _ hB, set_id h2]
  clear hB h1 h2
  go_enter Tryz.func43, Tryz.ntmps43
  go_wp2
  refine wp_loop_rounds 1 ?_
  rw [rounds_succ]
  go_wp2
  go_end0
  exact ⟨rfl, HE.out, (Kp.refl _ _).setCell _ _ (fun _ => rfl)⟩
set_option maxRecDepth 100000 in
set_option maxHeartbeats 400000 in
theorem growFieldsZ_any {w : World} {B : Nat} {C : Array Value} (hB : w.heap[B]? = some (.cells C 45 (0, 0))) (h1 : C[27]? = some (.slice none 0 0)) (h2 : C[29]? = some (.int .i64 0)) :
    Calls Tryz.prog 44 #[.pointer (some ⟨B, 0, none⟩)] w fun e w' => e = .returned (.tuple #[]) ∧ w'.heap[B]? = some (.cells C 45 (0, 0)) ∧ Kp (fun k => k = B) w w' := by
  have c0 := blk_cell hB h1
  have c2 := blk_cell hB h2
  have f2 := blk_frozen 29 hB
  have HE : Hid ((w.setCell ⟨B, 29, none⟩ (.int .i64 0)).heap[B]? = some (.cells C 45 (0, 0))) := by
    show _ = _
    rw [blk_set 29 _ hB, set_id h2]
  clear hB h1 h2
  go_enter Tryz.func44, Tryz.ntmps44
  go_wp2
  refine wp_loop_rounds 1 ?_
  rw [rounds_succ]
  go_wp2
  go_end0
  exact ⟨rfl, HE.out, (Kp.refl _ _).setCell _ _ (fun _ => rfl)⟩
set_option maxRecDepth 100000 in
set_option maxHeartbeats 400000 in
theorem growEntriesZ_any {w : World} {B : Nat} {C : Array Value} (hB : w.heap[B]? = some (.cells C 45 (0, 0))) (h1 : C[33]? = some (.slice none 0 0)) (h2 : C[35]? = some (.int .i64 0)) :
    Calls Tryz.prog 46 #[.pointer (some ⟨B, 0, none⟩)] w fun e w' => e = .returned (.tuple #[]) ∧ w'.heap[B]? = some (.cells C 45 (0, 0)) ∧ Kp (fun k => k = B) w w' := by
  have c0 := blk_cell hB h1
  have c2 := blk_cell hB h2
  have f2 := blk_frozen 35 hB
  have HE : Hid ((w.setCell ⟨B, 35, none⟩ (.int .i64 0)).heap[B]? = some (.cells C 45 (0, 0))) := by
    show _ = _
    rw [blk_set 35 _ hB, set_id h2]
  clear hB h1 h2
  go_enter Tryz.func46, Tryz.ntmps46
  go_wp2
  refine wp_loop_rounds 1 ?_
  rw [rounds_succ]
  go_wp2
  go_end0
  exact ⟨rfl, HE.out, (Kp.refl _ _).setCell _ _ (fun _ => rfl)⟩
set_option maxRecDepth 100000 in
set_option maxHeartbeats 400000 in
theorem growChangesZ_any {w : World} {B : Nat} {C : Array Value} (hB : w.heap[B]? = some (.cells C 45 (0, 0))) (h1 : C[36]? = some (.slice none 0 0)) (h2 : C[38]? = some (.int .i64 0)) :
    Calls Tryz.prog 47 #[.pointer (some ⟨B, 0, none⟩)] w fun e w' => e = .returned (.tuple #[]) ∧ w'.heap[B]? = some (.cells C 45 (0, 0)) ∧ Kp (fun k => k = B) w w' := by
  have c0 := blk_cell hB h1
  have c2 := blk_cell hB h2
  have f2 := blk_frozen 38 hB
  have HE : Hid ((w.setCell ⟨B, 38, none⟩ (.int .i64 0)).heap[B]? = some (.cells C 45 (0, 0))) := by
    show _ = _
    rw [blk_set 38 _ hB, set_id h2]
  clear hB h1 h2
  go_enter Tryz.func47, Tryz.ntmps47
  go_wp2
  refine wp_loop_rounds 1 ?_
  rw [rounds_succ]
  go_wp2
  go_end0
  exact ⟨rfl, HE.out, (Kp.refl _ _).setCell _ _ (fun _ => rfl)⟩
set_option maxRecDepth 100000 in
set_option maxHeartbeats 400000 in
theorem growBlocksZ_any {w : World} {B : Nat} {C : Array Value} (hB : w.heap[B]? = some (.cells C 45 (0, 0))) (h1 : C[39]? = some (.slice none 0 0)) (h2 : C[41]? = some (.int .i64 0)) :
    Calls Tryz.prog 48 #[.pointer (some ⟨B, 0, none⟩)] w fun e w' => e = .returned (.tuple #[]) ∧ w'.heap[B]? = some (.cells C 45 (0, 0)) ∧ Kp (fun k => k = B) w w' := by
  have c0 := blk_cell hB h1
  have c2 := blk_cell hB h2
  have f2 := blk_frozen 41 hB
  have HE : Hid ((w.setCell ⟨B, 41, none⟩ (.int .i64 0)).heap[B]? = some (.cells C 45 (0, 0))) := by
    show _ = _
    rw [blk_set 41 _ hB, set_id h2]
  clear hB h1 h2
  go_enter Tryz.func48, Tryz.ntmps48
  go_wp2
  refine wp_loop_rounds 1 ?_
  rw [rounds_succ]
  go_wp2
  go_end0
  exact ⟨rfl, HE.out, (Kp.refl _ _).setCell _ _ (fun _ => rfl)⟩
set_option maxRecDepth 100000 in
set_option maxHeartbeats 400000 in
theorem growCommitsZ_any {w : World} {B : Nat} {C : Array Value} (hB : w.heap[B]? = some (.cells C 45 (0, 0))) (h1 : C[42]? = some (.slice none 0 0)) (h2 : C[44]? = some (.int .i64 0)) :
    Calls Tryz.prog 49 #[.pointer (some ⟨B, 0, none⟩)] w fun e w' => e = .returned (.tuple #[]) ∧ w'.heap[B]? = some (.cells C 45 (0, 0)) ∧ Kp (fun k => k = B) w w' := by
  have c0 := blk_cell hB h1
  have c2 := blk_cell hB h2
  have f2 := blk_frozen 44 hB
  have HE : Hid ((w.setCell ⟨B, 44, none⟩ (.int .i64 0)).heap[B]? = some (.cells C 45 (0, 0))) := by
    show _ = _
    rw [blk_set 44 _ hB, set_id h2]
  clear hB h1 h2
  go_enter Tryz.func49, Tryz.ntmps49
  go_wp2
  refine wp_loop_rounds 1 ?_
  rw [rounds_succ]
  go_wp2
  go_end0
  exact ⟨rfl, HE.out, (Kp.refl _ _).setCell _ _ (fun _ => rfl)⟩
set_option maxRecDepth 100000 in
set_option maxHeartbeats 400000 in
theorem growTypesZ_any {w : World} {B : Nat} {C : Array Value} (hB : w.heap[B]? = some (.cells C 45 (0, 0))) (h1 : C[45]? = some (.slice none 0 0)) (h2 : C[47]? = some (.int .i64 0)) :
    Calls Tryz.prog 50 #[.pointer (some ⟨B, 0, none⟩)] w fun e w' => e = .returned (.tuple #[]) ∧ w'.heap[B]? = some (.cells C 45 (0, 0)) ∧ Kp (fun k => k = B) w w' := by
  have c0 := blk_cell hB h1
  have c2 := blk_cell hB h2
  have f2 := blk_frozen 47 hB
  have HE : Hid ((w.setCell ⟨B, 47, none⟩ (.int .i64 0)).heap[B]? = some (.cells C 45 (0, 0))) := by
    show _ = _
    rw [blk_set 47 _ hB, set_id h2]
  clear hB h1 h2
  go_enter Tryz.func50, Tryz.ntmps50
  go_wp2
  refine wp_loop_rounds 1 ?_
  rw [rounds_succ]
  go_wp2
  go_end0
  exact ⟨rfl, HE.out, (Kp.refl _ _).setCell _ _ (fun _ => rfl)⟩
set_option maxRecDepth 100000 in
set_option maxHeartbeats 400000 in
theorem growTypedsZ_any {w : World} {B : Nat} {C : Array Value} (hB : w.heap[B]? = some (.cells C 45 (0, 0))) (h1 : C[48]? = some (.slice none 0 0)) (h2 : C[50]? = some (.int .i64 0)) :
    Calls Tryz.prog 51 #[.pointer (some ⟨B, 0, none⟩)] w fun e w' => e = .returned (.tuple #[]) ∧ w'.heap[B]? = some (.cells C 45 (0, 0)) ∧ Kp (fun k => k = B) w w' := by
  have c0 := blk_cell hB h1
  have c2 := blk_cell hB h2
  have f2 := blk_frozen 50 hB
  have HE : Hid ((w.setCell ⟨B, 50, none⟩ (.int .i64 0)).heap[B]? = some (.cells C 45 (0, 0))) := by
    show _ = _
    rw [blk_set 50 _ hB, set_id h2]
  clear hB h1 h2
  go_enter Tryz.func51, Tryz.ntmps51
  go_wp2
  refine wp_loop_rounds 1 ?_
  rw [rounds_succ]
  go_wp2
  go_end0
  exact ⟨rfl, HE.out, (Kp.refl _ _).setCell _ _ (fun _ => rfl)⟩
set_option maxRecDepth 100000 in
set_option maxHeartbeats 400000 in
theorem growStepsZ_any {w : World} {B : Nat} {C : Array Value} (hB : w.heap[B]? = some (.cells C 45 (0, 0))) (h1 : C[51]? = some (.slice none 0 0)) (h2 : C[53]? = some (.int .i64 0)) :
    Calls Tryz.prog 52 #[.pointer (some ⟨B, 0, none⟩)] w fun e w' => e = .returned (.tuple #[]) ∧ w'.heap[B]? = some (.cells C 45 (0, 0)) ∧ Kp (fun k => k = B) w w' := by
  have c0 := blk_cell hB h1
  have c2 := blk_cell hB h2
  have f2 := blk_frozen 53 hB
  have HE : Hid ((w.setCell ⟨B, 53, none⟩ (.int .i64 0)).heap[B]? = some (.cells C 45 (0, 0))) := by
    show _ = _
    rw [blk_set 53 _ hB, set_id h2]
  clear hB h1 h2
  go_enter Tryz.func52, Tryz.ntmps52
  go_wp2
  refine wp_loop_rounds 1 ?_
  rw [rounds_succ]
  go_wp2
  go_end0
  exact ⟨rfl, HE.out, (Kp.refl _ _).setCell _ _ (fun _ => rfl)⟩
end
section
open Go.RowKit Go
def KB : Knd := ⟨46, 5, 1, 10, 1200, fun m k => [.int .u8 ((atv m k : Nat) : Int)]⟩
theorem KB_ok : KB.Ok := ⟨by decide, by decide, by decide, by decide, by decide⟩
set_option maxRecDepth 1000000 in
set_option maxHeartbeats 1000000 in
theorem plainK_any {w : World} {base B : Nat} {C : Array Value} {vb vo : Value} {es : List Ent} {t : Nat} (hB : w.heap[B]? = some (.cells C 45 (0, 0))) (hJ0 : C[0]? = some vb) (hJ1 : C[1]? = some vo) (hz1 : C[3]? = some (.slice none 0 0)) (hK : Kc KB w base vb vo es t) (ht : t < 68719476736) :
    Calls Tryz.prog 30 #[.pointer (some ⟨B, 0, none⟩)] w fun e w' => e = .returned (.bool true) ∧ Below w.heap.size w w' := by
  obtain ⟨ab, capb, hvb, -, hxb, -⟩ := own_form hK.hb
  have HK := hide hK
  have HTT := hide ht
  have HC0 := hide (blk_cell hB hJ0)
  have HC1 := hide (blk_cell hB hJ1)
  have HZ1 := hide (blk_cell hB hz1)
  rw [hvb] at HC0
  clear hB hJ0 hJ1 hz1 hK ht
  go_enter Tryz.func30, Tryz.ntmps30
  go_wp2
  go_loopw [3] (fun i wr => ∃ k : Nat, k ≤ es.length ∧ i = .int .i64 k ∧ Hid (Kp (fun _ => False) w wr)) (fun i _ => es.length - (intOf i).toNat)
  case atStart => exact ⟨0, Nat.zero_le _, rfl, Kp.refl _ _⟩
  case round =>
    obtain ⟨k, hk, rfl, HBw⟩ := hrel
    have c0 : wr.cell? ⟨B, 0, none⟩ = some (.slice ab es.length capb) := HBw.out.cell HC0.out (fun h => h)
    by_cases hlt : k < es.length
    · have hlt' : (k : Int) < (es.length : Int) := by omega
      obtain ⟨ab', capb', ao, capo, gb, go, av, capv, en, em, hvb2, hvo, hab, hao, hem, hen, hb1, ho1, hcv⟩ := HK.out.at (fun _ _ => rfl) hlt
      rw [hvb] at hvb2
      injection hvb2 with e1 _ e3
      subst e1
      subst e3
      subst hab
      subst hao
      have HC1' : Hid (w.cell? ⟨B, 1, none⟩ = some (.slice (some ⟨go, 0, none⟩) es.length capo)) := by have := HC1.out; rw [hvo] at this; exact this
      have HB1 := hide hb1
      have HO1 := hide ho1
      have HCV := hide hcv
      have HEM : Hid (em < 68719476736) := by have := HTT.out; show _ < _; omega
      have cb1 := HBw.out.cell hb1 (fun h => h)
      have hen' : (en : Int) < 68719477000 := by omega
      clear hcv hb1 ho1 hvo hem
      obtain ⟨wo, rfl⟩ : ∃ x, wr = x := ⟨wr, rfl⟩
      go_wp2
      go_loopw [4] (fun j wr' => ∃ q : Nat, q ≤ en ∧ j = .int .i64 q ∧ Hid (Kp (fun _ => False) w wr')) (fun j _ => en - (intOf j).toNat)
      case atStart => exact ⟨0, Nat.zero_le _, rfl, HBw⟩
      case round =>
        obtain ⟨q, hq, rfl, HB2⟩ := hrel
        clear c0 cb1
        have c0 : wr.cell? ⟨B, 0, none⟩ = some (.slice (some ⟨gb, 0, none⟩) es.length capb) := HB2.out.cell HC0.out (fun h => h)
        have c1 := HB2.out.cell HC1'.out (fun h => h)
        have cb1 := HB2.out.cell HB1.out (fun h => h)
        have co1 := HB2.out.cell HO1.out (fun h => h)
        by_cases hql : q < en
        · have hql' : (q : Int) < (en : Int) := by omega
          obtain ⟨gv, hav, hcq⟩ := HCV.out q hql
          subst hav
          have cv0 := hcq 0 (.int .u8 ((atv em q : Nat) : Int)) (by decide) rfl
          have cv1 : wr.cell? ⟨gv, q, none⟩ = some (.int .u8 ((atv em q : Nat) : Int)) := HB2.out.cell (by simpa [KB] using cv0) (fun h => h)
          have HAT : Hid (∀ W, Calls Tryz.prog 65 #[.int .i64 (em : Int), .int .i64 (q : Int)] W fun e w' => e = .returned (.int .u8 ((atv em q : Nat) : Int)) ∧ w' = W) := fun W => by
            have h1 := HEM.out
            have := at_any (em : Int) (q : Int) W (by omega) (by omega) (by omega) (by omega)
            rw [Int.toNat_natCast, Int.toNat_natCast] at this
            exact this
          clear hcq cv0
          generalize atv em q = x at *
          go_wp2
          go_quiet ((go_at_call 65; exact Calls.quiet_of_same (HAT.out _)))
          go_wp2
          go_roundw
          case rel => exact ⟨q + 1, by omega, by go_num, HB2.out.drewN _⟩
          case measure => simp [intOf]; omega
        · have hql' : ¬ (q : Int) < (en : Int) := by omega
          go_wp2
          go_roundw
          case rel => exact ⟨k + 1, by omega, by go_num, HB2⟩
          case measure => simp [intOf]; omega
    · have hlt' : ¬ (k : Int) < (es.length : Int) := by omega
      have z1 := HBw.out.cell HZ1.out (fun h => h)
      go_wp2
      refine wp_loop_rounds 1 ?_
      rw [rounds_succ]
      go_wp2
      go_ret
      exact ⟨rfl, HBw.out.below (Nat.le_refl _) (fun _ h => h.elim)⟩
set_option maxRecDepth 1000000 in
set_option maxHeartbeats 1000000 in
theorem growBytesK_any {w : World} {base B : Nat} {C : Array Value} {vb vo : Value} {es : List Ent} {a t u : Nat} (hB : w.heap[B]? = some (.cells C 45 (0, 0))) (h57 : C.size = 57) (hJ0 : C[0]? = some vb) (hJ1 : C[1]? = some vo) (hJ2 : C[2]? = some (.int .i64 ((a : Nat) : Int))) (hK : Ko KB w base vb vo es a t u) (ht : t < 68719476736) (hu : u ≤ 16777216) (hbase : base ≤ w.heap.size) :
    Calls Tryz.prog 35 #[.pointer (some ⟨B, 0, none⟩)] w fun e w' => e = .returned (.tuple #[]) ∧ Hid (GrP KB 0 w base B C vb vo es t u w') := by
  obtain ⟨ab, capb, hvb, -, -, -⟩ := own_form hK.c.hb
  have HBASE := hide hbase
  have H57 := hide h57
  have HJ2 := hide hJ2
  have HK := hide hK
  have hal : a ≤ es.length := by obtain ⟨c, r, h1, h2, _⟩ := hK.count; omega
  have hel : es.length ≤ 139810 := by obtain ⟨c, r, h1, h2, h3⟩ := hK.count; simp only [KB] at h2 h3; omega
  have HG0 : Hid (Gw KB w base B C 0 vb vo es t w vb vo es a) := Gw.start hB hJ0 hJ1 hK
  have HTT := hide ht
  have c0 : w.cell? ⟨B, 0, none⟩ = some vb := blk_cell hB hJ0
  have c2 : w.cell? ⟨B, 2, none⟩ = some (.int .i64 (a : Nat)) := blk_cell hB hJ2
  clear hB h57 hJ0 hJ1 hJ2 hK ht hu hbase
  rw [hvb] at c0
  clear hvb
  obtain ⟨iL, hiL, hzL0, hzL1, hzL2⟩ := info50_ex
  obtain ⟨iE, hiE, hzE0, hzE1, hzE2⟩ := info5_ex
  go_enter Tryz.func35, Tryz.ntmps35
  go_wp2
  clear c0 c2
  go_loopw [3] (fun i wr => ∃ (k : Nat) (vb2 vo2 : Value) (es2 : List Ent), k ≤ es.length ∧ a ≤ k ∧ i = .int .i64 k ∧ Hid (Gw KB w base B C 0 vb vo es t wr vb2 vo2 es2 k) ∧ Hid (es2.length = es.length + 9 * (k - a))) (fun i _ => es.length - (intOf i).toNat)
  case atStart => exact ⟨a, vb, vo, es, hal, Nat.le_refl _, rfl, HG0, by show _ = _; omega⟩
  case round =>
    obtain ⟨k, vb2, vo2, es2, hk, hak, rfl, HG, HL2⟩ := hrel
    clear HG0
    obtain ⟨ab2, capb2, hvb2, -, -, hcb2⟩ := own_form HG.out.core.hb
    obtain ⟨ao2, capo2, hvo2, -, -, hco2⟩ := own_form HG.out.core.ho
    have HCB := hide hcb2
    have HCO := hide hco2
    have c0 : wr.cell? ⟨B, 0, none⟩ = some vb2 := HG.out.c0 (by have := H57.out; omega)
    have c1 : wr.cell? ⟨B, 1, none⟩ = some vo2 := HG.out.c1 (by have := H57.out; omega)
    have c2 : wr.cell? ⟨B, 2, none⟩ = some (.int .i64 (a : Nat)) := HG.out.cx (by decide) (by decide) HJ2.out
    have f2 := blk_frozen 2 HG.out.blk
    have he2 : es2.length ≤ 1398100 := by have := HL2.out; omega
    clear hcb2 hco2
    by_cases hlt : k < es.length
    · have hlt' : (k : Int) < (es.length : Int) := by omega
      obtain ⟨e, hek⟩ : ∃ e, es[k]? = some e := ⟨es[k], by simp [hlt]⟩
      have hek2 := HG.out.pre k e hek
      have hk2 : k < es2.length := (List.getElem?_eq_some_iff.1 hek2).1
      obtain ⟨gb, hab, hcb1⟩ := HCB.out k e.val (by simp [hek2])
      obtain ⟨go, hao, hco1⟩ := HCO.out k (.int .i64 ((e.m : Nat) : Int)) (by simp [hek2])
      have hmm := HG.out.core.hm e (List.mem_of_getElem? hek2)
      have HIN := hide (HG.out.begin hek)
      obtain ⟨ae, ce, hev⟩ := own_slice HIN.out.own
      have HEK := hide hek
      have HMM : Hid (e.m ≤ t ∧ e.n < 68719476736) := ⟨hmm.1, HK.out.hn k e hek hak⟩
      rw [hab] at hvb2
      rw [hao] at hvo2
      rw [hvb2] at c0
      rw [hvo2] at c1
      rw [Nat.add_zero] at hev
      obtain ⟨ev, en, em⟩ := e
      simp only at hev hcb1 hco1
      subst hev
      clear hvb2 hvo2 hab hao HCB HCO hmm hek hek2 f2 c2
      obtain ⟨wo, rfl⟩ : ∃ x, wr = x := ⟨wr, rfl⟩
      go_wp2
      clear c0 c1 hcb1 hco1
      go_loopw [4, 6] (fun g i wr' => ∃ (q : Nat) (vb3 vo3 : Value) (es3 : List Ent) (ag : Option Addr) (cg : Nat), q ≤ 96 ∧ i = .int .i64 ((q + 1 : Nat)) ∧ g = .slice ag (en + q) cg ∧ Hid (Ik KB w base B C 0 vb vo es t wr' vb3 vo3 es3 k ⟨.slice ae en ce, en, em⟩ q (.slice ag (en + q) cg)) ∧ Hid (es3.length = es2.length + pq q)) (fun _ i _ => 97 - (intOf i).toNat)
      case atStart => exact ⟨0, vb2, vo2, es2, ae, ce, by omega, rfl, rfl, HIN, rfl⟩
      case round =>
        obtain ⟨q, vb3, vo3, es3, ag, cg, hq, rfl, rfl, HI, HL3⟩ := hrel
        have hpc := pq_le q
        have he3 : es3.length ≤ 1398200 := by have := HL3.out; omega
        have HSZB : Hid (base ≤ wr.heap.size) := Nat.le_trans HBASE.out HI.out.g.kp.size
        clear HIN hpc
        by_cases hq96 : q < 96
        · have hq96' : ((q + 1 : Nat) : Int) ≤ 96 := by omega
          have HEN : Hid (en < 68719476736) := HMM.out.2
          have HEM : Hid (em ≤ t) := HMM.out.1
          have HMK : Hid (∀ W, Calls Tryz.prog 65 #[.int .i64 (em : Int), .int .i64 ((en : Int) + (q : Int))] W fun e w' => e = .returned (.int .u8 ((atv em (en + q) : Nat) : Int)) ∧ Below W.heap.size W w') := fun W => by
            have h2 := HTT.out
            have h3 := HEM.out
            have h4 := HEN.out
            have := at_any (em : Int) ((en : Int) + (q : Int)) W (by omega) (by omega) (by omega) (by omega)
            have e1 : ((en : Int) + (q : Int)).toNat = en + q := by omega
            rw [Int.toNat_natCast, e1] at this
            exact this.mono (fun e w' h => ⟨h.1, by rw [h.2]; exact Below.refl _ _⟩)
          go_wp2_with fail
          refine (HMK.out _).mono ?_
          rintro e w1 ⟨rfl, hb1⟩
          have HI1 := hide (HI.out.next hb1)
          have HSZ1 : Hid (base ≤ w1.heap.size) := Nat.le_trans HSZB.out hb1.size
          have HO3 : Hid (w1.ownsRow base 5 1 (Value.slice ag (en + q) cg) (en + q) (KB.mkl em (en + q))) := HI1.out.own
          clear hb1 HI HMK
          go_wp2_with (at_builtin; refine append_mk rfl _ _ 46 5 iE _ 1 1 Tryz.underlying46 hiE hzE0 hzE1 hzE2 rfl (by decide) rfl base _ (en + q) _ rfl HO3.out #[.int .u8 ((atv em (en + q) : Nat) : Int)] rfl ?c1 _ rfl rfl ?c2 (by decide) HSZ1.out ?_)
          case c1 => exact rfl
          case c2 => have := HEN.out; omega
          intro g4 w4 ho4 hkeep4 hk4 hat4
          obtain ⟨a4, c4, hg4⟩ := own_slice ho4
          have HI4 := hide (HI1.out.append KB_ok HEK.out ho4 hkeep4 hk4 hat4)
          have hsz4 : w1.heap.size ≤ w4.heap.size := hk4.size
          have HSZ4 : Hid (base ≤ w4.heap.size) := Nat.le_trans HSZ1.out hsz4
          subst hg4
          clear ho4 hkeep4 hk4 hat4 hsz4 HI1 HO3
          clear hq96'
          have hpos : ((q : Int) + 1 < 4 ∨ (¬ (q : Int) + 1 < 4 ∧ (((q : Int) + 1) % 16 == 0) = true)) ∨ (¬ (q : Int) + 1 < 4 ∧ (((q : Int) + 1) % 16 == 0) = false) := by
            by_cases h1 : q + 1 < 4
            · exact .inl (.inl (by omega))
            · by_cases h2 : (q + 1) % 16 = 0
              · exact .inl (.inr ⟨by omega, beq_iff_eq.2 (by omega)⟩)
              · exact .inr ⟨by omega, beq_eq_false_iff_ne.2 (by omega)⟩
          rcases hpos with hpos | ⟨hno1, hno2⟩
          · have hpc1 : pq (q + 1) = pq q + 1 := by
              refine pq_yes ?_
              rcases hpos with h | ⟨_, h⟩
              · left; omega
              · right; have := beq_iff_eq.1 h; omega
            have HPC := hide hpc1
            have c0 : w4.cell? ⟨B, 0, none⟩ = some vb3 := HI4.out.g.c0 (by have := H57.out; omega)
            clear hpc1
            rcases hpos with hno1 | ⟨hno1, hno2⟩
            all_goals
              go_wp2_with (at_builtin; refine append_lst rfl _ _ 22 46 iL Tryz.underlying22 hiL hzL0 hzL1 hzL2 rfl base vb3 es3.length _ rfl HI4.out.g.core.hb _ _ rfl rfl rfl (by omega) HSZ4.out ?_)
              intro v5 w5 ho5 hg5 hat5
              obtain ⟨a5, c5, hv5⟩ := own_slice ho5
              obtain ⟨hblk5, hblk6, hhalf, hkp5⟩ := HI4.out.g.core.push_a KB_ok HI4.out.g.blk 0 ⟨Value.slice a4 (en + q + 1) c4, en + (q + 1), em⟩ HI4.out.own v5 ho5 hg5
              have c0' : w5.cell? ⟨B, 0, none⟩ = some vb3 := blk_cell hblk5 (by rw [get_set_ne (by decide), get_set (by have := H57.out; omega)])
              have c1' : (w5.setCell ⟨B, 0, none⟩ v5).cell? ⟨B, 1, none⟩ = some vo3 := blk_cell hblk6 (by rw [get_set_ne (by decide), get_set (by have := H57.out; simp; omega)])
              have f0' := blk_frozen 0 hblk5
              have HHF := hide hhalf
              have HKP5 := hide hkp5
              have HBK6 := hide hblk6
              have HAT5 : Hid (∀ z, v5.ownBlock = some z → vb3.ownBlock = some z ∨ w.heap.size ≤ z) := fun z hz => by
                rcases hat5 with h | h
                · exact .inl (by rw [← h]; exact hz)
                · rw [h] at hz; injection hz with hz; exact .inr (by have := HI4.out.g.kp.size; omega)
              have HSZ5 : Hid (base ≤ (w5.setCell ⟨B, 0, none⟩ v5).heap.size ∧ w.heap.size ≤ (w5.setCell ⟨B, 0, none⟩ v5).heap.size) := ⟨Nat.le_trans HSZ4.out hkp5.size, Nat.le_trans HI4.out.g.kp.size hkp5.size⟩
              subst hv5
              clear ho5 hg5 hat5 hblk5 hblk6 hhalf hkp5 c0
              go_wp2_with (at_builtin; refine append_int rfl _ _ rfl base vo3 es3.length _ rfl HHF.out.ho _ w5.heap.size (by simp) rfl (by omega) HSZ5.out.1 ?_)
              intro v7 w7 ho7 hg7 hat7
              obtain ⟨a7, c7, hv7⟩ := own_slice ho7
              obtain ⟨hblk7, hblk8, hbk7, hkp7⟩ := HHF.out.push_b KB_ok (t := t) HBK6.out 1 v7 ho7 hg7 HI4.out.g.core.hs (fun x hx z h1 h2 => (HI4.out.share x hx z h1 h2).1) HI4.out.g.core.hm ⟨HEM.out, by have := HEN.out; show en + (q + 1) < _; omega⟩
              have c1'' : w7.cell? ⟨B, 1, none⟩ = some vo3 := blk_cell hblk7 (by rw [get_set_ne (by decide), get_set (by have := H57.out; simp; omega)])
              have f1'' := blk_frozen 1 hblk7
              have hkall : Kp (fun z => z = B ∨ vb3.ownBlock = some z ∨ vo3.ownBlock = some z) w4 (w7.setCell ⟨B, 1, none⟩ v7) :=
                (HKP5.out.mono (fun z _ hz => by rcases hz with h | h; exact .inl h; exact .inr (.inl h))).trans hkp7 (fun z _ hz => by rcases hz with h | h; exact .inl h; exact .inr (.inr h))
              have hbl9 := hblk8
              rw [cset C 0] at hbl9
              have HI7 := hide (HI4.out.push HEK.out hbl9 hbk7 hkall HAT5.out (fun z hz => by
                rcases hat7 with h | h
                · exact .inl (by rw [← h]; exact hz)
                · rw [h] at hz; injection hz with hz; exact .inr (by have := HSZ5.out.2; simp at this; omega)))
              subst hv7
              clear ho7 hg7 hat7 hblk7 hblk8 hbl9 hbk7 hkp7 hkall c0' c1' f0' HHF HKP5 HAT5 HSZ5 HI4 HBK6
              go_wp2
              go_roundw
              case rel => exact ⟨q + 1, _, _, _, _, _, by omega, by go_num, rfl, HI7, by show _ = _; have h1 := HL3.out; have h2 := HPC.out; simp; omega⟩
              case measure => simp [intOf]; omega
          · have hpc1 : pq (q + 1) = pq q := by
              refine pq_no ?_
              have := beq_eq_false_iff_ne.1 hno2
              omega
            have HPC := hide hpc1
            clear hpc1
            go_wp2
            go_roundw
            case rel => exact ⟨q + 1, _, _, _, _, _, by omega, by go_num, rfl, HI4, by show _ = _; have h1 := HL3.out; have h2 := HPC.out; omega⟩
            case measure => simp [intOf]; omega
        · have hq96' : ¬ ((q : Int) + 1) ≤ 96 := by omega
          have hqq : q = 96 := by omega
          have HQQ := hide hqq
          clear hqq hq96
          go_wp2
          go_roundw
          case rel =>
            refine ⟨k + 1, vb3, vo3, es3, by omega, by omega, by go_num, HI.out.g, ?_⟩
            have h1 := HL3.out
            have h2 := HL2.out
            rw [HQQ.out, pq_96] at h1
            show _ = _
            omega
          case measure => simp [intOf]; omega
    · have hlt' : ¬ (k : Int) < (es.length : Int) := by omega
      have hke : k = es.length := by omega
      rw [hvb2] at c0
      have HFI : Hid (GrP KB 0 w base B C vb vo es t u (wr.setCell ⟨B, 2, none⟩ (.int .i64 ((es2.length : Nat) : Int)))) := HG.out.fin KB_ok (by have := H57.out; omega) HK.out (by decide) (by have := HL2.out; rw [hke] at this; exact this)
      clear hke
      go_wp2
      go_end0
      exact ⟨rfl, HFI⟩
end
section
open Go.RowKit Go
/-- The lists of a kind that a book keeps. -/
structure Fs where
  vb : Value
  vo : Value
  es : List Ent
  a : Nat
def Kd : Fin 4 → Knd
  | 0 => KB
  | 1 => KT
  | 2 => KL
  | 3 => KV
def Jd : Fin 4 → Nat
  | 0 => 0
  | 1 => 6
  | 2 => 18
  | 3 => 30
theorem Jd_lt (i : Fin 4) : Jd i + 2 < 54 := by
  match i with
  | 0 => decide
  | 1 => decide
  | 2 => decide
  | 3 => decide
theorem Jd_ne (i j : Fin 4) (h : i ≠ j) : ∀ a b, a < 3 → b < 3 → Jd i + a ≠ Jd j + b := by
  intro a b ha hb
  match i, j with
  | 0, 0 => exact absurd rfl h
  | 1, 1 => exact absurd rfl h
  | 2, 2 => exact absurd rfl h
  | 3, 3 => exact absurd rfl h
  | 0, 1 => simp only [Jd]; omega
  | 0, 2 => simp only [Jd]; omega
  | 0, 3 => simp only [Jd]; omega
  | 1, 0 => simp only [Jd]; omega
  | 1, 2 => simp only [Jd]; omega
  | 1, 3 => simp only [Jd]; omega
  | 2, 0 => simp only [Jd]; omega
  | 2, 1 => simp only [Jd]; omega
  | 2, 3 => simp only [Jd]; omega
  | 3, 0 => simp only [Jd]; omega
  | 3, 1 => simp only [Jd]; omega
  | 3, 2 => simp only [Jd]; omega
theorem Kd_ok (i : Fin 4) : (Kd i).Ok := by
  match i with
  | 0 => exact KB_ok
  | 1 => exact KT_ok
  | 2 => exact KL_ok
  | 3 => exact KV_ok
structure Knd.Ne (F G : Knd) : Prop where
  a : F.tt ≠ G.tt
  b : F.tt ≠ G.te
  c : F.te ≠ G.tt
  d : F.te ≠ G.te
theorem Kd_ne (i j : Fin 4) (h : i ≠ j) : (Kd i).Ne (Kd j) := by
  match i, j with
  | 0, 0 => exact absurd rfl h
  | 1, 1 => exact absurd rfl h
  | 2, 2 => exact absurd rfl h
  | 3, 3 => exact absurd rfl h
  | 0, 1 => exact ⟨by decide, by decide, by decide, by decide⟩
  | 0, 2 => exact ⟨by decide, by decide, by decide, by decide⟩
  | 0, 3 => exact ⟨by decide, by decide, by decide, by decide⟩
  | 1, 0 => exact ⟨by decide, by decide, by decide, by decide⟩
  | 1, 2 => exact ⟨by decide, by decide, by decide, by decide⟩
  | 1, 3 => exact ⟨by decide, by decide, by decide, by decide⟩
  | 2, 0 => exact ⟨by decide, by decide, by decide, by decide⟩
  | 2, 1 => exact ⟨by decide, by decide, by decide, by decide⟩
  | 2, 3 => exact ⟨by decide, by decide, by decide, by decide⟩
  | 3, 0 => exact ⟨by decide, by decide, by decide, by decide⟩
  | 3, 1 => exact ⟨by decide, by decide, by decide, by decide⟩
  | 3, 2 => exact ⟨by decide, by decide, by decide, by decide⟩
theorem Kc.dis {F G : Knd} (hF : F.Ok) (hG : G.Ok) (hn : F.Ne G) {w : World} {base base' t t' : Nat} {vb vo vb' vo' : Value} {es es' : List Ent} (h : Kc F w base vb vo es t) (g : Kc G w base' vb' vo' es' t') (hvo : ∀ q, vo.ownBlock = some q → vo'.ownBlock = some q → False) : ∀ q, Fut vb vo es q → Fut vb' vo' es' q → False := fun q h1 h2 => by
  rcases h1 with e | e | ⟨x, hx, e⟩ <;> rcases h2 with e' | e' | ⟨y, hy, e'⟩
  · exact own_apart h.hb g.hb hn.a e e'
  · exact own_apart h.hb g.ho hF.t3 e e'
  · exact own_apart h.hb (g.he y hy) hn.b e e'
  · exact own_apart h.ho g.hb (fun e => hG.t3 e.symm) e e'
  · exact hvo q e e'
  · exact own_apart h.ho (g.he y hy) (fun e => hG.e3 e.symm) e e'
  · exact own_apart (h.he x hx) g.hb hn.c e e'
  · exact own_apart (h.he x hx) g.ho hF.e3 e e'
  · exact own_apart (h.he x hx) (g.he y hy) hn.d e e'
/-- The kinds of which nothing is kept. -/
def Nk (k : Nat) : Prop := k = 3 ∨ k = 9 ∨ k = 12 ∨ k = 15 ∨ k = 21 ∨ k = 24 ∨ k = 27 ∨ k = 33 ∨ k = 36 ∨ k = 39 ∨ k = 42 ∨ k = 45 ∨ k = 48 ∨ k = 51
theorem Nk.ne {k : Nat} (h : Nk k) (i : Fin 4) : ∀ a b, a < 3 → b < 3 → k + a ≠ Jd i + b := by
  intro a b ha hb
  unfold Nk at h
  match i with
  | 0 => simp only [Jd]; omega
  | 1 => simp only [Jd]; omega
  | 2 => simp only [Jd]; omega
  | 3 => simp only [Jd]; omega
/-- A book that keeps lists of four kinds. -/
structure Bkq (w : World) (base B : Nat) (C : Array Value) (f : Fin 4 → Fs) (t d u : Nat) : Prop where
  blk : w.heap[B]? = some (.cells C 45 (0, 0))
  n : C.size = 57
  c54 : C[54]? = some (.int .i64 ((t : Nat) : Int))
  c55 : C[55]? = some (.int .i64 ((d : Nat) : Int))
  c56 : C[56]? = some (.int .i64 ((u : Nat) : Int))
  r : ∀ i, C[Jd i]? = some (f i).vb ∧ C[Jd i + 1]? = some (f i).vo ∧ C[Jd i + 2]? = some (.int .i64 (((f i).a : Nat) : Int))
  z : ∀ k, Nk k → C[k]? = some (.slice none 0 0) ∧ C[k + 2]? = some (.int .i64 0)
  k : ∀ i, Ko (Kd i) w base (f i).vb (f i).vo (f i).es (f i).a t u
  dj : ∀ i j, i ≠ j → ∀ q, (f i).vo.ownBlock = some q → (f j).vo.ownBlock = some q → False
  hb : base ≤ B
  ht : t < 68719476736
  hu : u ≤ 16777216
/-- The blocks that it holds. -/
def Ft4 (B : Nat) (f : Fin 4 → Fs) (q : Nat) : Prop := q = B ∨ ∃ i, Fut (f i).vb (f i).vo (f i).es q
def upd (f : Fin 4 → Fs) (i : Fin 4) (s : Fs) : Fin 4 → Fs := fun j => if j = i then s else f j
theorem upd_i (f : Fin 4 → Fs) (i : Fin 4) (s : Fs) : upd f i s i = s := by simp [upd]
theorem upd_j (f : Fin 4 → Fs) {i j : Fin 4} (s : Fs) (h : j ≠ i) : upd f i s j = f j := by simp [upd, h]
theorem Bkq.lt {w : World} {base B : Nat} {C : Array Value} {f : Fin 4 → Fs} {t d u : Nat} (h : Bkq w base B C f t d u) : ∀ q, Ft4 B f q → base ≤ q ∧ q < w.heap.size := fun q hq => by
  rcases hq with e | ⟨i, e⟩
  · subst e; exact ⟨h.hb, blk_lt h.blk⟩
  · exact (h.k i).c.lt q e
theorem Bkq.sz {w : World} {base B : Nat} {C : Array Value} {f : Fin 4 → Fs} {t d u : Nat} (h : Bkq w base B C f t d u) : base ≤ w.heap.size := by have h1 := h.hb; have h2 := blk_lt h.blk; omega
theorem Bkq.dis {w : World} {base B : Nat} {C : Array Value} {f : Fin 4 → Fs} {t d u : Nat} (h : Bkq w base B C f t d u) {i j : Fin 4} (hij : i ≠ j) : ∀ q, Fut (f i).vb (f i).vo (f i).es q → Fut (f j).vb (f j).vo (f j).es q → False := (h.k i).c.dis (Kd_ok i) (Kd_ok j) (Kd_ne i j hij) (h.k j).c (h.dj i j hij)
theorem Bkq.kp {S : Nat → Prop} {w w' : World} {base B : Nat} {C : Array Value} {f : Fin 4 → Fs} {t d u : Nat} (h : Bkq w base B C f t d u) (hk : Kp S w w') (hs : ∀ q, Ft4 B f q → ¬ S q) : Bkq w' base B C f t d u :=
  ⟨(hk.block B (blk_lt h.blk) (hs B (.inl rfl))).trans h.blk, h.n, h.c54, h.c55, h.c56, h.r, h.z, fun i => (h.k i).kp hk (fun q e => hs q (.inr ⟨i, e⟩)), h.dj, h.hb, h.ht, h.hu⟩
theorem Bkq.next {w w' : World} {base B : Nat} {C : Array Value} {f : Fin 4 → Fs} {t d u : Nat} (h : Bkq w base B C f t d u) (hb : Below w.heap.size w w') : Bkq w' base B C f t d u := h.kp (Kp.of_below (S := fun _ => False) hb) (fun _ _ e => e)
/-- One kind has changed. -/
theorem Bkq.upd {w w' : World} {base B : Nat} {C C' : Array Value} {f : Fin 4 → Fs} {t d u t' u' : Nat} (h : Bkq w base B C f t d u) (i : Fin 4) (s : Fs) (L : Nat → Prop) (hblk : w'.heap[B]? = some (.cells C' 45 (0, 0))) (hch : Chg (fun k => k = Jd i ∨ k = Jd i + 1 ∨ k = Jd i + 2 ∨ k = 54 ∨ k = 56) C C')
    (hr : C'[Jd i]? = some s.vb ∧ C'[Jd i + 1]? = some s.vo ∧ C'[Jd i + 2]? = some (.int .i64 ((s.a : Nat) : Int))) (h54 : C'[54]? = some (.int .i64 ((t' : Nat) : Int))) (h56 : C'[56]? = some (.int .i64 ((u' : Nat) : Int))) (hK : Ko (Kd i) w' base s.vb s.vo s.es s.a t' u')
    (hkp : Kp (fun q => q = B ∨ Fut (f i).vb (f i).vo (f i).es q ∨ L q) w w') (hL : ∀ j, j ≠ i → ∀ q, Fut (f j).vb (f j).vo (f j).es q → ¬ L q) (hf : ∀ q, Fut s.vb s.vo s.es q → Fut (f i).vb (f i).vo (f i).es q ∨ L q ∨ w.heap.size ≤ q) (htt : t ≤ t') (huu : u ≤ u') (ht' : t' < 68719476736) (hu' : u' ≤ 16777216) : Bkq w' base B C' (Go.Proofs.YtdejcapbggjjgaaGreatDoor.upd f i s) t' d u' := by
  have hji := Jd_lt i
  have hkeep : ∀ j, j ≠ i → Ko (Kd j) w' base (f j).vb (f j).vo (f j).es (f j).a t' u' := fun j hj => ((h.k j).kp hkp (fun q e es => by
    rcases es with e1 | e1 | e1
    · exact (h.k j).c.notB (Kd_ok j) h.blk (by rw [← e1]; exact e)
    · exact h.dis hj q e e1
    · exact hL j hj q e e1)).more htt huu
  have hdj : ∀ j, j ≠ i → ∀ q, s.vo.ownBlock = some q → (f j).vo.ownBlock = some q → False := fun j hj q h1 h2 => by
    rcases hf q (.inr (.inl h1)) with e | e | e
    · exact h.dis hj q (.inr (.inl h2)) e
    · exact hL j hj q (.inr (.inl h2)) e
    · have := ((h.k j).c.lt q (.inr (.inl h2))).2
      omega
  refine ⟨hblk, hch.n.trans h.n, h54, (hch.k 55 (by omega)).trans h.c55, h56, fun j => ?_, fun k hk => ?_, fun j => ?_, fun a b hab q h1 h2 => ?_, h.hb, ht', hu'⟩
  · by_cases e : j = i
    · subst e; rw [upd_i]; exact hr
    · rw [upd_j f s e]
      have hn := Jd_ne j i e
      have hjl := Jd_lt j
      have n0 := hn 0 0 (by omega) (by omega)
      have n1 := hn 0 1 (by omega) (by omega)
      have n2 := hn 0 2 (by omega) (by omega)
      have n3 := hn 1 0 (by omega) (by omega)
      have n4 := hn 1 1 (by omega) (by omega)
      have n5 := hn 1 2 (by omega) (by omega)
      have n6 := hn 2 0 (by omega) (by omega)
      have n7 := hn 2 1 (by omega) (by omega)
      have n8 := hn 2 2 (by omega) (by omega)
      exact ⟨(hch.k _ (by omega)).trans (h.r j).1, (hch.k _ (by omega)).trans (h.r j).2.1, (hch.k _ (by omega)).trans (h.r j).2.2⟩
  · have hn := hk.ne i
    have hkl : k + 2 < 54 := by unfold Nk at hk; omega
    have n0 := hn 0 0 (by omega) (by omega)
    have n1 := hn 0 1 (by omega) (by omega)
    have n2 := hn 0 2 (by omega) (by omega)
    have n6 := hn 2 0 (by omega) (by omega)
    have n7 := hn 2 1 (by omega) (by omega)
    have n8 := hn 2 2 (by omega) (by omega)
    exact ⟨(hch.k _ (by omega)).trans (h.z k hk).1, (hch.k _ (by omega)).trans (h.z k hk).2⟩
  · by_cases e : j = i
    · subst e; rw [upd_i]; exact hK
    · rw [upd_j f s e]; exact hkeep j e
  · by_cases ea : a = i
    · subst ea
      rw [upd_i] at h1
      rw [upd_j f s (fun e => hab e.symm)] at h2
      exact hdj b (fun e => hab e.symm) q h1 h2
    · rw [upd_j f s ea] at h1
      by_cases eb : b = i
      · subst eb
        rw [upd_i] at h2
        exact hdj a ea q h2 h1
      · rw [upd_j f s eb] at h2
        exact h.dj a b hab q h1 h2
/-- What holds while a book is grown. -/
def Gs (w0 : World) (base B : Nat) (f0 : Fin 4 → Fs) (t d u : Nat) (w : World) : Prop := ∃ C f, Bkq w base B C f t d u ∧ Kp (Ft4 B f0) w0 w ∧ ∀ q, Ft4 B f q → Ft4 B f0 q ∨ w0.heap.size ≤ q
theorem Gs.grown {w0 w w' : World} {base B : Nat} {f0 f : Fin 4 → Fs} {t d u : Nat} {C : Array Value} (i : Fin 4) (h : Bkq w base B C f t d u) (hk : Kp (Ft4 B f0) w0 w) (hf : ∀ q, Ft4 B f q → Ft4 B f0 q ∨ w0.heap.size ≤ q) (hg : GrP (Kd i) (Jd i) w base B C (f i).vb (f i).vo (f i).es t u w') : Gs w0 base B f0 t d u w' := by
  obtain ⟨vb', vo', es', a', C', hblk, hch, h0, h1, h2, hK, hkp, hft⟩ := hg
  have hji := Jd_lt i
  refine ⟨C', Go.Proofs.YtdejcapbggjjgaaGreatDoor.upd f i ⟨vb', vo', es', a'⟩, h.upd i ⟨vb', vo', es', a'⟩ (fun _ => False) hblk (hch.trans (Chg.refl (fun _ => False) _) (fun k e => by omega) (fun k e => e.elim)) ⟨h0, h1, h2⟩ ((hch.k 54 (by omega)).trans h.c54) ((hch.k 56 (by omega)).trans h.c56) hK (hkp.mono (fun q _ e => by rcases e with e | e; exact .inl e; exact .inr (.inl e))) (fun _ _ _ _ e => e) (fun q e => by rcases hft q e with e | e; exact .inl e; exact .inr (.inr e)) (Nat.le_refl _) (Nat.le_refl _) h.ht h.hu, hk.trans hkp (fun q hq e => ?_), fun q e => ?_⟩
  · have hF : Ft4 B f q := by
      rcases e with e | e
      · exact .inl e
      · exact .inr ⟨i, e⟩
    rcases hf q hF with h3 | h3
    · exact h3
    · omega
  · rcases e with e | ⟨j, e⟩
    · exact hf q (.inl e)
    · by_cases ej : j = i
      · subst ej
        rw [upd_i] at e
        rcases hft q e with e | e
        · exact hf q (.inr ⟨j, e⟩)
        · exact .inr (Nat.le_trans hk.size e)
      · rw [upd_j f _ ej] at e
        exact hf q (.inr ⟨j, e⟩)
theorem Gs.nil {w0 w w' : World} {base B : Nat} {f0 f : Fin 4 → Fs} {t d u : Nat} {C : Array Value} (h : Bkq w base B C f t d u) (hk : Kp (Ft4 B f0) w0 w) (hf : ∀ q, Ft4 B f q → Ft4 B f0 q ∨ w0.heap.size ≤ q) (hblk : w'.heap[B]? = some (.cells C 45 (0, 0))) (hkp : Kp (fun k => k = B) w w') : Gs w0 base B f0 t d u w' := by
  refine ⟨C, f, ⟨hblk, h.n, h.c54, h.c55, h.c56, h.r, h.z, fun i => (h.k i).kp hkp (fun q e es => (h.k i).c.notB (Kd_ok i) h.blk (by rw [← es]; exact e)), h.dj, h.hb, h.ht, h.hu⟩, hk.trans hkp (fun q _ e => ?_), hf⟩
  have := hf q (.inl e)
  rcases this with h3 | h3
  · exact h3
  · omega
set_option maxRecDepth 1000000 in
set_option maxHeartbeats 400000 in
theorem holds4_any {w : World} {base B : Nat} {C : Array Value} {f : Fin 4 → Fs} {t d u : Nat} (h : Bkq w base B C f t d u) :
    Calls Tryz.prog 20 #[.pointer (some ⟨B, 0, none⟩)] w fun e w' => e = .returned (.bool true) ∧ Below w.heap.size w w' := by
  have H0 := hide h
  clear h
  go_enter Tryz.func20, Tryz.ntmps20
  go_wp2_with fail
  refine (plainK_any H0.out.blk (H0.out.r 0).1 (H0.out.r 0).2.1 (H0.out.z 3 (by unfold Nk; omega)).1 (H0.out.k 0).c H0.out.ht).mono ?_
  rintro e w1 ⟨rfl, hb1⟩
  have H1 := hide (H0.out.next hb1)
  have HB1 := hide hb1
  clear hb1
  go_wp2_with fail
  refine (keptK_any H1.out.blk (H1.out.r 1).1 (H1.out.r 1).2.1 (H1.out.z 9 (by unfold Nk; omega)).1 (H1.out.z 12 (by unfold Nk; omega)).1 (H1.out.z 15 (by unfold Nk; omega)).1 (H1.out.k 1).c H1.out.ht).mono ?_
  rintro e w2 ⟨rfl, hb2⟩
  have H2 := hide (H1.out.next hb2)
  have HB2 : Hid (Below w.heap.size w w2) := HB1.out.trans (hb2.mono HB1.out.size)
  clear hb2 H1
  go_wp2_with fail
  refine (toldK_any H2.out.blk (H2.out.r 2).1 (H2.out.r 2).2.1 (H2.out.z 21 (by unfold Nk; omega)).1 (H2.out.z 24 (by unfold Nk; omega)).1 (H2.out.z 27 (by unfold Nk; omega)).1 (H2.out.k 2).c H2.out.ht).mono ?_
  rintro e w3 ⟨rfl, hb3⟩
  have H3 := hide (H2.out.next hb3)
  have HB3 : Hid (Below w.heap.size w w3) := HB2.out.trans (hb3.mono HB2.out.size)
  clear hb3 H2
  go_wp2_with fail
  refine (heldK_any H3.out.blk (H3.out.r 3).1 (H3.out.r 3).2.1 (H3.out.z 33 (by unfold Nk; omega)).1 (H3.out.z 36 (by unfold Nk; omega)).1 (H3.out.z 39 (by unfold Nk; omega)).1 (H3.out.k 3).c H3.out.ht).mono ?_
  rintro e w4 ⟨rfl, hb4⟩
  have H4 := hide (H3.out.next hb4)
  have HB4 : Hid (Below w.heap.size w w4) := HB3.out.trans (hb4.mono HB3.out.size)
  clear hb4 H3
  go_wp2_with fail
  refine (sentK_any H4.out.blk (H4.out.z 42 (by unfold Nk; omega)).1 (H4.out.z 45 (by unfold Nk; omega)).1 (H4.out.z 48 (by unfold Nk; omega)).1 (H4.out.z 51 (by unfold Nk; omega)).1).mono ?_
  rintro e w5 ⟨rfl, rfl⟩
  go_wp2_with fail
  go_ret
  exact ⟨rfl, HB4.out⟩
set_option maxRecDepth 1000000 in
set_option maxHeartbeats 1000000 in
theorem bgrow4_any {w : World} {base B : Nat} {C : Array Value} {f : Fin 4 → Fs} {t d u : Nat} (h : Bkq w base B C f t d u) :
    Calls Tryz.prog 21 #[.pointer (some ⟨B, 0, none⟩)] w fun e w' => e = .returned (.tuple #[]) ∧ Hid (Gs w base B f t t u w') := by
  have HG : Hid (Gs w base B f t d u w) := ⟨C, f, h, Kp.refl _ _, fun q e => .inl e⟩
  clear h
  go_enter Tryz.func21, Tryz.ntmps21
  go_wp2_with fail
  obtain ⟨C9, f9, hok9, hk9, hf9⟩ := HG.out
  refine (growBytesK_any hok9.blk hok9.n (hok9.r 0).1 (hok9.r 0).2.1 (hok9.r 0).2.2 (hok9.k 0) hok9.ht hok9.hu hok9.sz).mono ?_
  rintro e wn ⟨rfl, hgr⟩
  have HG' := hide (Gs.grown 0 hok9 hk9 hf9 hgr.out)
  clear hgr hok9 hk9 hf9 HG
  have HG := HG'
  clear HG'
  go_wp2_with fail
  obtain ⟨C9, f9, hok9, hk9, hf9⟩ := HG.out
  refine (growRowsZ_any hok9.blk (hok9.z 3 (by unfold Nk; omega)).1 (hok9.z 3 (by unfold Nk; omega)).2).mono ?_
  rintro e wn ⟨rfl, hbn, hkn⟩
  have HG' := hide (Gs.nil hok9 hk9 hf9 hbn hkn)
  clear hbn hkn hok9 hk9 hf9 HG
  have HG := HG'
  clear HG'
  go_wp2_with fail
  obtain ⟨C9, f9, hok9, hk9, hf9⟩ := HG.out
  refine (growTextsK_any hok9.blk hok9.n (hok9.r 1).1 (hok9.r 1).2.1 (hok9.r 1).2.2 (hok9.k 1) hok9.ht hok9.hu hok9.sz).mono ?_
  rintro e wn ⟨rfl, hgr⟩
  have HG' := hide (Gs.grown 1 hok9 hk9 hf9 hgr.out)
  clear hgr hok9 hk9 hf9 HG
  have HG := HG'
  clear HG'
  go_wp2_with fail
  obtain ⟨C9, f9, hok9, hk9, hf9⟩ := HG.out
  refine (growIntsZ_any hok9.blk (hok9.z 9 (by unfold Nk; omega)).1 (hok9.z 9 (by unfold Nk; omega)).2).mono ?_
  rintro e wn ⟨rfl, hbn, hkn⟩
  have HG' := hide (Gs.nil hok9 hk9 hf9 hbn hkn)
  clear hbn hkn hok9 hk9 hf9 HG
  have HG := HG'
  clear HG'
  go_wp2_with fail
  obtain ⟨C9, f9, hok9, hk9, hf9⟩ := HG.out
  refine (growWordsZ_any hok9.blk (hok9.z 12 (by unfold Nk; omega)).1 (hok9.z 12 (by unfold Nk; omega)).2).mono ?_
  rintro e wn ⟨rfl, hbn, hkn⟩
  have HG' := hide (Gs.nil hok9 hk9 hf9 hbn hkn)
  clear hbn hkn hok9 hk9 hf9 HG
  have HG := HG'
  clear HG'
  go_wp2_with fail
  obtain ⟨C9, f9, hok9, hk9, hf9⟩ := HG.out
  refine (growFloatsZ_any hok9.blk (hok9.z 15 (by unfold Nk; omega)).1 (hok9.z 15 (by unfold Nk; omega)).2).mono ?_
  rintro e wn ⟨rfl, hbn, hkn⟩
  have HG' := hide (Gs.nil hok9 hk9 hf9 hbn hkn)
  clear hbn hkn hok9 hk9 hf9 HG
  have HG := HG'
  clear HG'
  go_wp2_with fail
  obtain ⟨C9, f9, hok9, hk9, hf9⟩ := HG.out
  refine (growLinksK_any hok9.blk hok9.n (hok9.r 2).1 (hok9.r 2).2.1 (hok9.r 2).2.2 (hok9.k 2) hok9.ht hok9.hu hok9.sz).mono ?_
  rintro e wn ⟨rfl, hgr⟩
  have HG' := hide (Gs.grown 2 hok9 hk9 hf9 hgr.out)
  clear hgr hok9 hk9 hf9 HG
  have HG := HG'
  clear HG'
  go_wp2_with fail
  obtain ⟨C9, f9, hok9, hk9, hf9⟩ := HG.out
  refine (growNotesZ_any hok9.blk (hok9.z 21 (by unfold Nk; omega)).1 (hok9.z 21 (by unfold Nk; omega)).2).mono ?_
  rintro e wn ⟨rfl, hbn, hkn⟩
  have HG' := hide (Gs.nil hok9 hk9 hf9 hbn hkn)
  clear hbn hkn hok9 hk9 hf9 HG
  have HG := HG'
  clear HG'
  go_wp2_with fail
  obtain ⟨C9, f9, hok9, hk9, hf9⟩ := HG.out
  refine (growCasesZ_any hok9.blk (hok9.z 24 (by unfold Nk; omega)).1 (hok9.z 24 (by unfold Nk; omega)).2).mono ?_
  rintro e wn ⟨rfl, hbn, hkn⟩
  have HG' := hide (Gs.nil hok9 hk9 hf9 hbn hkn)
  clear hbn hkn hok9 hk9 hf9 HG
  have HG := HG'
  clear HG'
  go_wp2_with fail
  obtain ⟨C9, f9, hok9, hk9, hf9⟩ := HG.out
  refine (growFieldsZ_any hok9.blk (hok9.z 27 (by unfold Nk; omega)).1 (hok9.z 27 (by unfold Nk; omega)).2).mono ?_
  rintro e wn ⟨rfl, hbn, hkn⟩
  have HG' := hide (Gs.nil hok9 hk9 hf9 hbn hkn)
  clear hbn hkn hok9 hk9 hf9 HG
  have HG := HG'
  clear HG'
  go_wp2_with fail
  obtain ⟨C9, f9, hok9, hk9, hf9⟩ := HG.out
  refine (growValuesK_any hok9.blk hok9.n (hok9.r 3).1 (hok9.r 3).2.1 (hok9.r 3).2.2 (hok9.k 3) hok9.ht hok9.hu hok9.sz).mono ?_
  rintro e wn ⟨rfl, hgr⟩
  have HG' := hide (Gs.grown 3 hok9 hk9 hf9 hgr.out)
  clear hgr hok9 hk9 hf9 HG
  have HG := HG'
  clear HG'
  go_wp2_with fail
  obtain ⟨C9, f9, hok9, hk9, hf9⟩ := HG.out
  refine (growEntriesZ_any hok9.blk (hok9.z 33 (by unfold Nk; omega)).1 (hok9.z 33 (by unfold Nk; omega)).2).mono ?_
  rintro e wn ⟨rfl, hbn, hkn⟩
  have HG' := hide (Gs.nil hok9 hk9 hf9 hbn hkn)
  clear hbn hkn hok9 hk9 hf9 HG
  have HG := HG'
  clear HG'
  go_wp2_with fail
  obtain ⟨C9, f9, hok9, hk9, hf9⟩ := HG.out
  refine (growChangesZ_any hok9.blk (hok9.z 36 (by unfold Nk; omega)).1 (hok9.z 36 (by unfold Nk; omega)).2).mono ?_
  rintro e wn ⟨rfl, hbn, hkn⟩
  have HG' := hide (Gs.nil hok9 hk9 hf9 hbn hkn)
  clear hbn hkn hok9 hk9 hf9 HG
  have HG := HG'
  clear HG'
  go_wp2_with fail
  obtain ⟨C9, f9, hok9, hk9, hf9⟩ := HG.out
  refine (growBlocksZ_any hok9.blk (hok9.z 39 (by unfold Nk; omega)).1 (hok9.z 39 (by unfold Nk; omega)).2).mono ?_
  rintro e wn ⟨rfl, hbn, hkn⟩
  have HG' := hide (Gs.nil hok9 hk9 hf9 hbn hkn)
  clear hbn hkn hok9 hk9 hf9 HG
  have HG := HG'
  clear HG'
  go_wp2_with fail
  obtain ⟨C9, f9, hok9, hk9, hf9⟩ := HG.out
  refine (growCommitsZ_any hok9.blk (hok9.z 42 (by unfold Nk; omega)).1 (hok9.z 42 (by unfold Nk; omega)).2).mono ?_
  rintro e wn ⟨rfl, hbn, hkn⟩
  have HG' := hide (Gs.nil hok9 hk9 hf9 hbn hkn)
  clear hbn hkn hok9 hk9 hf9 HG
  have HG := HG'
  clear HG'
  go_wp2_with fail
  obtain ⟨C9, f9, hok9, hk9, hf9⟩ := HG.out
  refine (growTypesZ_any hok9.blk (hok9.z 45 (by unfold Nk; omega)).1 (hok9.z 45 (by unfold Nk; omega)).2).mono ?_
  rintro e wn ⟨rfl, hbn, hkn⟩
  have HG' := hide (Gs.nil hok9 hk9 hf9 hbn hkn)
  clear hbn hkn hok9 hk9 hf9 HG
  have HG := HG'
  clear HG'
  go_wp2_with fail
  obtain ⟨C9, f9, hok9, hk9, hf9⟩ := HG.out
  refine (growTypedsZ_any hok9.blk (hok9.z 48 (by unfold Nk; omega)).1 (hok9.z 48 (by unfold Nk; omega)).2).mono ?_
  rintro e wn ⟨rfl, hbn, hkn⟩
  have HG' := hide (Gs.nil hok9 hk9 hf9 hbn hkn)
  clear hbn hkn hok9 hk9 hf9 HG
  have HG := HG'
  clear HG'
  go_wp2_with fail
  obtain ⟨C9, f9, hok9, hk9, hf9⟩ := HG.out
  refine (growStepsZ_any hok9.blk (hok9.z 51 (by unfold Nk; omega)).1 (hok9.z 51 (by unfold Nk; omega)).2).mono ?_
  rintro e wn ⟨rfl, hbn, hkn⟩
  have HG' := hide (Gs.nil hok9 hk9 hf9 hbn hkn)
  clear hbn hkn hok9 hk9 hf9 HG
  have HG := HG'
  clear HG'
  obtain ⟨C9, f9, hok9, hk9, hf9⟩ := HG.out
  have c54 := blk_cell hok9.blk hok9.c54
  have c55 := blk_cell hok9.blk hok9.c55
  have f55 := blk_frozen 55 hok9.blk
  have HFI : Hid (Gs w base B f t t u (wn.setCell ⟨B, 55, none⟩ (.int .i64 ((t : Nat) : Int)))) := by
    have hkp : Kp (fun q => q = B) wn (wn.setCell ⟨B, 55, none⟩ (.int .i64 ((t : Nat) : Int))) := (Kp.refl _ _).setCell _ _ (fun _ => rfl)
    have hch := Chg.set C9 55 (.int .i64 ((t : Nat) : Int))
    refine ⟨_, f9, ⟨blk_set 55 _ hok9.blk, hch.n.trans hok9.n, (hch.k _ (by decide)).trans hok9.c54, get_set (by have := hok9.n; omega), (hch.k _ (by decide)).trans hok9.c56, fun i => ?_, fun k hk => ?_, fun i => (hok9.k i).kp hkp (fun q e es => (hok9.k i).c.notB (Kd_ok i) hok9.blk (by rw [← es]; exact e)), hok9.dj, hok9.hb, hok9.ht, hok9.hu⟩, hk9.trans hkp (fun q _ e => ?_), hf9⟩
    · have hl := Jd_lt i
      exact ⟨(hch.k _ (by omega)).trans (hok9.r i).1, (hch.k _ (by omega)).trans (hok9.r i).2.1, (hch.k _ (by omega)).trans (hok9.r i).2.2⟩
    · have hkl : k + 2 < 54 := by unfold Nk at hk; omega
      exact ⟨(hch.k _ (by omega)).trans (hok9.z k hk).1, (hch.k _ (by omega)).trans (hok9.z k hk).2⟩
    · rcases hf9 q (.inl e) with h3 | h3
      · exact h3
      · omega
  clear hok9 hk9 hf9
  go_wp2
  go_end0
  exact ⟨rfl, HFI⟩
/-- A book at block B, all of whose memory lies within F; t lists have been handed to it. -/
def Bk4 (w : World) (base B : Nat) (F : Nat → Prop) (t : Nat) : Prop := ∃ C f d u, Bkq w base B C f t d u ∧ ∀ k, Ft4 B f k → F k
theorem Bk4.mono {w : World} {base B : Nat} {F G : Nat → Prop} {t : Nat} (h : Bk4 w base B F t) (hg : ∀ k, k < w.heap.size → F k → G k) : Bk4 w base B G t := by
  obtain ⟨C, f, d, u, hok, hf⟩ := h
  exact ⟨C, f, d, u, hok, fun k hk => hg k (hok.lt k hk).2 (hf k hk)⟩
set_option maxRecDepth 1000000 in
set_option maxHeartbeats 400000 in
theorem look4_any {w : World} {base B : Nat} {F : Nat → Prop} {t : Nat} (h : Bk4 w base B F t) :
    Calls Tryz.prog 10 #[.pointer (some ⟨B, 0, none⟩)] w fun e w' => e = .returned (.bool true) ∧ Hid (Bk4 w' base B (fun k => F k ∨ w.heap.size ≤ k) t ∧ Kp F w w') := by
  obtain ⟨C, f, d, u, hok, hf⟩ := h
  have HOK := hide hok
  have HFF := hide hf
  clear hok hf
  go_enter Tryz.func10, Tryz.ntmps10
  go_wp2_with fail
  refine (holds4_any HOK.out).mono ?_
  rintro e w1 ⟨rfl, hb1⟩
  have HOK1 := hide (HOK.out.next hb1)
  have HB1 := hide hb1
  have c54 : w1.cell? ⟨B, 54, none⟩ = some (.int .i64 (t : Nat)) := blk_cell HOK1.out.blk HOK1.out.c54
  have c55 : w1.cell? ⟨B, 55, none⟩ = some (.int .i64 (d : Nat)) := blk_cell HOK1.out.blk HOK1.out.c55
  clear hb1
  by_cases hdt : d = t
  · have hdt' : ((d : Int) == (t : Int)) = true := beq_iff_eq.2 (by omega)
    have HDT := hide hdt
    clear hdt
    go_wp2
    go_quiet (fail)
    go_wp2
    go_ret
    have hk1 : Kp (fun _ => False) w w1 := Kp.of_below HB1.out
    exact ⟨rfl, ⟨C, f, d, u, HOK1.out.kp ((Kp.refl (fun _ => False) _).drewN _) (fun _ _ e => e), fun k hk => .inl (HFF.out k hk)⟩, (hk1.mono (fun _ _ h => h.elim)).drewN _⟩
  · have hdt' : ((d : Int) == (t : Int)) = false := beq_eq_false_iff_ne.2 (by omega)
    clear hdt
    go_wp2
    go_quiet (fail)
    go_wp2_with fail
    refine (bgrow4_any (HOK1.out.kp ((Kp.refl (fun _ => False) _).drewN _) (fun _ _ e => e))).mono ?_
    rintro e w2 ⟨rfl, hg2⟩
    obtain ⟨C2, f2, hok2, hk2, hf2⟩ := hg2.out
    have HOK2 := hide hok2
    have HK2 := hide hk2
    have HF2 := hide hf2
    clear hg2 hok2 hk2 hf2
    go_wp2_with fail
    refine (holds4_any HOK2.out).mono ?_
    rintro e w3 ⟨rfl, hb3⟩
    have HOK3 := hide (HOK2.out.next hb3)
    have HK3 : Hid (Kp (fun _ => False) w2 w3) := Kp.of_below hb3
    clear hb3
    go_wp2
    go_ret
    have hk1 : Kp (fun _ => False) w w1 := Kp.of_below HB1.out
    refine ⟨rfl, ⟨C2, f2, t, u, HOK3.out, fun k hk => ?_⟩, ?_⟩
    · rcases HF2.out k hk with h | h
      · exact .inl (HFF.out k h)
      · exact .inr (Nat.le_trans hk1.size h)
    · exact ((hk1.mono (fun _ _ h => h.elim)).drewN _).trans ((HK2.out.trans HK3.out (fun _ _ h => h.elim)).mono (fun k _ hk => HFF.out k hk)) (fun _ _ h => h)
end
section
open Go.RowKit Go
/-- What a book is after lists of it were handed over. -/
def Pt4 (w : World) (base B : Nat) (f : Fin 4 → Fs) (t d : Nat) (L : Nat → Prop) (n : Nat) (w' : World) : Prop := ∃ C' f' u', Bkq w' base B C' f' (t + n) d u' ∧ Kp (fun q => Ft4 B f q ∨ L q) w w' ∧ ∀ q, Ft4 B f' q → Ft4 B f q ∨ L q ∨ w.heap.size ≤ q
theorem Bkq.put {w w' : World} {base B : Nat} {C : Array Value} {f : Fin 4 → Fs} {t d u : Nat} (h : Bkq w base B C f t d u) (i : Fin 4) {l : Value} (hp : BkP (Kd i) (Jd i) w base B C (f i).vb (f i).vo (f i).es (f i).a t u l w') (hd : ∀ q, l.ownBlock = some q → ¬ Ft4 B f q) (ht : t + 1 < 68719476736) : Pt4 w base B f t d (fun q => l.ownBlock = some q) 1 w' := by
  obtain ⟨vb', vo', es', u', C', hblk, hch, h0, h1, h54, h56, hK, huu, hu', hkp, hft⟩ := hp
  have hji := Jd_lt i
  refine ⟨C', Go.Proofs.YtdejcapbggjjgaaGreatDoor.upd f i ⟨vb', vo', es', (f i).a⟩, u', h.upd i ⟨vb', vo', es', (f i).a⟩ (fun q => l.ownBlock = some q) hblk (hch.trans (Chg.refl (fun _ => False) _) (fun k e => by omega) (fun k e => e.elim)) ⟨h0, h1, (hch.k _ (by omega)).trans (h.r i).2.2⟩ h54 h56 hK (hkp.mono (fun q _ e => ?_)) (fun j _ q e e2 => hd q e2 (.inr ⟨j, e⟩)) (fun q e => hft q e) (by omega) huu ht hu', hkp.mono (fun q _ e => ?_), fun q e => ?_⟩
  · rcases e with e | e | e | e
    · exact .inl e
    · exact .inr (.inl (.inl e))
    · exact .inr (.inl (.inr (.inl e)))
    · exact .inr (.inr e)
  · rcases e with e | e | e | e
    · exact .inl (.inl e)
    · exact .inl (.inr ⟨i, .inl e⟩)
    · exact .inl (.inr ⟨i, .inr (.inl e)⟩)
    · exact .inr e
  · rcases e with e | ⟨j, e⟩
    · exact .inl (.inl e)
    · by_cases ej : j = i
      · subst ej
        rw [upd_i] at e
        rcases hft q e with e | e
        · exact .inl (.inr ⟨j, e⟩)
        · exact .inr e
      · rw [upd_j f _ ej] at e
        exact .inl (.inr ⟨j, e⟩)
set_option maxRecDepth 1000000 in
set_option maxHeartbeats 1000000 in
theorem textsM_any {w : World} {base B : Nat} {C : Array Value} {vb vo : Value} {es : List Ent} {a t u : Nat} (hB : w.heap[B]? = some (.cells C 45 (0, 0))) (h57 : C.size = 57) (hJ0 : C[6]? = some vb) (hJ1 : C[7]? = some vo) (h54 : C[54]? = some (.int .i64 ((t : Nat) : Int))) (h56 : C[56]? = some (.int .i64 ((u : Nat) : Int))) (hK : Ko KT w base vb vo es a t u) (l : Value) (n : Nat) (xs : List Value) (hl : w.ownsRow base 9 1 l n xs) (hn : n < 68719476736)
    (hd : ∀ e ∈ es, ∀ k, e.val.ownBlock = some k → l.ownBlock ≠ some k) (ht : t + 1 < 68719476736) (hu : u ≤ 16777216) (hbase : base ≤ w.heap.size) :
    Calls Tryz.prog 28 #[.pointer (some ⟨B, 0, none⟩), l] w fun e w' => e = .returned (.tuple #[]) ∧ Hid (BkP KT 6 w base B C vb vo es a t u l w') := by
  have HEND : Hid (∀ w2, BkP KT 6 w base B C vb vo es a t u l w2 → Hid (BkP KT 6 w base B C vb vo es a t u l w2)) := fun _ h => h
  have c54 : w.cell? ⟨B, 54, none⟩ = some (.int .i64 (t : Nat)) := blk_cell hB h54
  have f54 := blk_frozen 54 hB
  have htt : (t : Int) + 1 < 68719476736 := by omega
  obtain ⟨al, capl, hlf⟩ := own_slice hl
  have HLB : Hid (l.ownBlock ≠ some B) := own_not hl hB (by decide)
  have e1 : ((t : Int) + 1) = ((t + 1 : Nat) : Int) := by omega
  have HB1 : Hid ((w.setCell ⟨B, 54, none⟩ (.int .i64 ((t : Int) + 1))).heap[B]? = some (.cells (C.setIfInBounds 54 (.int .i64 ((t + 1 : Nat) : Int))) 45 (0, 0))) := by show _ = _; rw [e1]; exact blk_set 54 _ hB
  have c54' : (w.setCell ⟨B, 54, none⟩ (.int .i64 ((t : Int) + 1))).cell? ⟨B, 54, none⟩ = some (.int .i64 ((t : Int) + 1)) := blk_cell HB1.out (by rw [get_set (by omega), e1])
  have HBB := hide hB
  have H57 := hide h57
  have HJ0 := hide hJ0
  have HJ1 := hide hJ1
  have HC56 := hide h56
  have HK := hide hK
  have HN := hide hn
  have HT := hide ht
  have HU := hide hu
  have HBASE := hide hbase
  have HK1 : Hid (Kp (fun k => k = B ∨ l.ownBlock = some k) w (w.setCell ⟨B, 54, none⟩ (.int .i64 ((t : Int) + 1)))) := (Kp.refl _ w).setCell _ _ (fun _ => .inl rfl)
  have HO1 : Hid ((w.setCell ⟨B, 54, none⟩ (.int .i64 ((t : Int) + 1))).ownsRow base 9 1 l n xs) := ((Kp.refl (fun k => k = B) w).setCell ⟨B, 54, none⟩ (.int .i64 ((t : Int) + 1)) (fun _ => rfl)).owns hl (fun k hk e => HLB.out (by rw [hk, e]))
  have HL := hide hl
  have HD := hide hd
  subst hlf
  have hnn : (n : Int) < 68719476736 := by omega
  clear hB h57 hJ0 hJ1 h54 h56 hK hl hn hd ht hu hbase e1
  obtain ⟨iL, hiL, hzL0, hzL1, hzL2⟩ := infoS_ex
  go_enter Tryz.func28, Tryz.ntmps28
  go_wp2_with fail
  clear c54 f54 c54'
  generalize w.setCell ⟨B, 54, none⟩ (.int .i64 ((t : Int) + 1)) = w1 at *
  refine (textsMark_any ((t : Int) + 1) w1 (by omega) (by omega)).mono ?_
  rintro e w2 ⟨rfl, hb2⟩
  have e2 : ((t : Int) + 1).toNat = t + 1 := by omega
  rw [e2]
  have HBR0 : Hid (w2.heap[B]? = some (.cells (C.setIfInBounds 54 (.int .i64 ((t + 1 : Nat) : Int))) 45 (0, 0))) := (hb2.block B (blk_lt HB1.out)).trans HB1.out
  have HROW0 : Hid (w2.ownsRow base 9 1 (.slice al n capl) n xs) := (Kp.of_below (S := fun _ => False) hb2).owns HO1.out (fun _ _ e => e)
  have HKP0 : Hid (Kp (fun k => k = B ∨ (Value.slice al n capl).ownBlock = some k) w w2) := HK1.out.trans (Kp.of_below (S := fun _ => False) hb2) (fun _ _ e => e.elim)
  clear hb2 HB1 HO1 HK1 e2
  go_wp2_with fail
  go_loopw [6] (fun i wr => ∃ k : Nat, k ≤ n ∧ i = .int .i64 k ∧ Hid (wr.heap[B]? = some (.cells (C.setIfInBounds 54 (.int .i64 ((t + 1 : Nat) : Int))) 45 (0, 0))) ∧ Hid (wr.ownsRow base 9 1 (.slice al n capl) n (KT.mkl (t + 1) k ++ xs.drop (k * 1))) ∧ Hid (Kp (fun k => k = B ∨ (Value.slice al n capl).ownBlock = some k) w wr)) (fun i _ => n - (intOf i).toNat)
  case atStart => exact ⟨0, Nat.zero_le _, rfl, HBR0, by simpa [Knd.mkl] using HROW0, HKP0⟩
  case round =>
    obtain ⟨k, hk, rfl, HBR, HROW, HKP⟩ := hrel
    clear HBR0 HROW0 HKP0
    by_cases hlt : k < n
    · have hlt' : (k : Int) < (n : Int) := by omega
      have hxl : xs.length = n := by have := HL.out.1; omega
      obtain ⟨g, hg⟩ : ∃ g, al = some ⟨g, 0, none⟩ := by
        rcases HL.out.2 with ⟨_, h0⟩ | ⟨g, _, _, hv, _⟩
        · omega
        · injection hv with hv; exact ⟨g, hv⟩
      subst hg
      have hml : (KT.mkl (t + 1) k).length = k := by rw [Knd.mkl_len (fun _ => rfl)]; exact Nat.mul_one k
      obtain ⟨hc, hfz⟩ := own_cell HROW.out (j := k) (u := xs[k]'(by omega)) (by
        rw [List.getElem?_append_right (by omega), hml, Nat.sub_self, Nat.mul_one]
        simp)
      have HST : Hid ((KT.mkl (t + 1) k ++ xs.drop (k * 1)).set k (.string (tmk (t + 1))) = KT.mkl (t + 1) (k + 1) ++ xs.drop ((k + 1) * 1)) := by
        show _ = _
        have h1 := spl_step (F := KT) (m := t + 1) (k := k) (xs := xs) (fun _ => rfl)
        rw [← splice_one _ _ _ (by rw [List.length_append, hml, List.length_drop]; omega)]
        exact h1
      have HRO2 : Hid ((wr.setCell ⟨g, k, none⟩ (.string (tmk (t + 1)))).ownsRow base 9 1 (.slice (some ⟨g, 0, none⟩) n capl) n (KT.mkl (t + 1) (k + 1) ++ xs.drop ((k + 1) * 1))) := by
        have h := own_set (j := k) (.string (tmk (t + 1))) HROW.out
        rw [HST.out] at h
        exact h
      have HBR2 : Hid ((wr.setCell ⟨g, k, none⟩ (.string (tmk (t + 1)))).heap[B]? = some (.cells (C.setIfInBounds 54 (.int .i64 ((t + 1 : Nat) : Int))) 45 (0, 0))) := (((Kp.refl (fun q => q = g) wr).setCell ⟨g, k, none⟩ (.string (tmk (t + 1))) (fun _ => rfl)).block B (blk_lt HBR.out) (fun e => HLB.out (by rw [e]; rfl))).trans HBR.out
      have HKP2 : Hid (Kp (fun k => k = B ∨ (Value.slice (some ⟨g, 0, none⟩) n capl).ownBlock = some k) w (wr.setCell ⟨g, k, none⟩ (.string (tmk (t + 1))))) := HKP.out.setCell _ _ (fun _ => .inr rfl)
      generalize xs[k]'(by omega) = old at hc
      clear hxl hml HST
      go_wp2
      go_roundw
      case rel => exact ⟨k + 1, by omega, by go_num, HBR2, HRO2, HKP2⟩
      case measure => simp [intOf]; omega
    · have hlt' : ¬ (k : Int) < (n : Int) := by omega
      have hkn : k = n := by omega
      have HW : Hid (wr.ownsRow base 9 1 (.slice al n capl) n (KT.mkl (t + 1) n)) := by
        have h := HROW.out
        have hxl : xs.length = n * 1 := HL.out.1
        rw [hkn, List.drop_of_length_le (by omega), List.append_nil] at h
        exact h
      have HCC := hide ((HK.out.c).marked KT_ok HBB.out HL.out HD.out HKP.out)
      clear hkn HROW
      have hu := HU.out
      by_cases hfull : (16777216 : Int) < (u : Int) + (8000 + 300 * (n : Int))
      · have HTF := hide (tightQ_full HBR.out (by rw [get_set_ne (by decide)]; exact HC56.out) (8000 + 300 * (n : Int)) hu (by omega) (by have := HN.out; omega) (by omega))
        go_wp2_with fail
        refine HTF.out.mono ?_
        rintro e w' ⟨rfl, rfl⟩
        go_wp2
        refine bodyPost_ret (results_none rfl _ _ _) rfl ?_
        exact ⟨rfl, HEND.out _ (BkP.full KT_ok HBB.out HJ0.out HJ1.out HC56.out (by decide) H57.out HK.out HL.out HD.out HU.out HBR.out HKP.out)⟩
      · obtain ⟨U, hU⟩ : ∃ U : Nat, U = u + (8000 + 300 * n) := ⟨_, rfl⟩
        have HTR := hide (tightQ_room HBR.out (by rw [get_set_ne (by decide)]; exact HC56.out) (8000 + 300 * (n : Int)) hu (by omega) (by have := HN.out; omega) (by omega) U (by omega))
        have HUU : Hid (u + KT.cost ≤ U ∧ U ≤ 16777216) := ⟨by show u + 8000 ≤ U; omega, by omega⟩
        clear hU
        go_wp2_with fail
        refine HTR.out.mono ?_
        rintro e w2 ⟨rfl, hblk2, hkp2⟩
        have HB2 := hide hblk2
        have HC2 : Hid (Kc KT w2 base vb vo es t) := HCC.out.kp hkp2 (fun q hq e => HCC.out.notB KT_ok HBR.out (by rw [← e]; exact hq))
        have HW2 : Hid (w2.ownsRow base 9 1 (.slice al n capl) n (KT.mkl (t + 1) n)) := hkp2.owns HW.out (fun q hq e => own_not HW.out HBR.out (by decide) (by rw [← e]; exact hq))
        have HK2 : Hid (Kp (fun k => k = B ∨ (Value.slice al n capl).ownBlock = some k) w w2) := HKP.out.trans hkp2 (fun q _ e => .inl e)
        have HBS : Hid (base ≤ w2.heap.size) := Nat.le_trans HBASE.out HK2.out.size
        have hlen : es.length < 1099511627776 := by obtain ⟨c, r, h1, h2, h3⟩ := HK.out.count; simp only [KT] at h2 h3; omega
        have c0 : w2.cell? ⟨B, 6, none⟩ = some vb := blk_cell hblk2 (by rw [get_set_ne (by decide), get_set_ne (by decide)]; exact HJ0.out)
        clear hblk2 hkp2 HCC HW HTR HKP HBR hfull
        go_wp2_with (at_builtin; refine append_lst rfl _ _ 28 58 iL Tryz.underlying28 hiL hzL0 hzL1 hzL2 rfl base vb es.length _ rfl HC2.out.hb _ _ rfl rfl rfl hlen HBS.out ?_)
        intro v3 w3 ho3 hg3 hat3
        obtain ⟨a3, c3, hv3⟩ := own_slice ho3
        obtain ⟨hblk3, hblk4, hhalf, hkp4⟩ := HC2.out.push_a KT_ok HB2.out 6 ⟨Value.slice al n capl, n, t + 1⟩ HW2.out v3 ho3 hg3
        have c0' : w3.cell? ⟨B, 6, none⟩ = some vb := blk_cell hblk3 (by rw [get_set_ne (by decide), get_set_ne (by decide)]; exact HJ0.out)
        have c1' : (w3.setCell ⟨B, 6, none⟩ v3).cell? ⟨B, 7, none⟩ = some vo := blk_cell hblk4 (by rw [get_set_ne (by decide), get_set_ne (by decide), get_set_ne (by decide)]; exact HJ1.out)
        have f0' := blk_frozen 6 hblk3
        have HHF := hide hhalf
        have HKP4 := hide hkp4
        have HB4 := hide hblk4
        have HAT3 : Hid (∀ z, v3.ownBlock = some z → vb.ownBlock = some z ∨ w.heap.size ≤ z) := fun z hz => by
          rcases hat3 with h | h
          · exact .inl (by rw [← h]; exact hz)
          · rw [h] at hz; injection hz with hz; exact .inr (by have := HK2.out.size; omega)
        have HSZ4 : Hid (base ≤ (w3.setCell ⟨B, 6, none⟩ v3).heap.size ∧ w.heap.size ≤ (w3.setCell ⟨B, 6, none⟩ v3).heap.size) := ⟨Nat.le_trans HBS.out hkp4.size, Nat.le_trans HK2.out.size hkp4.size⟩
        have HLEN := hide hlen
        subst hv3
        clear ho3 hg3 hat3 hblk3 hblk4 hhalf hkp4 c0 hlen
        go_wp2_with (at_builtin; go_must (refine append_int rfl _ _ rfl base vo es.length _ rfl HHF.out.ho _ w3.heap.size (by simp) rfl HLEN.out HSZ4.out.1 ?_))
        intro v5 w5 ho5 hg5 hat5
        obtain ⟨a5, c5, hv5⟩ := own_slice ho5
        have e1 : ((t : Int) + 1) = ((t + 1 : Nat) : Int) := by omega
        rw [e1] at ho5 hg5
        obtain ⟨hblk5, hblk6, hbk6, hkp6⟩ := HHF.out.push_b KT_ok (t := t + 1) HB4.out 7 v5 ho5 hg5 HC2.out.hs (fun x hx z h1 h2 => absurd h2 (HD.out x hx z h1)) (fun x hx => ⟨by have := (HC2.out.hm x hx).1; omega, (HC2.out.hm x hx).2⟩) ⟨Nat.le_refl _, by have := HN.out; show n < _; omega⟩
        have c1'' : w5.cell? ⟨B, 7, none⟩ = some vo := blk_cell hblk5 (by rw [get_set_ne (by decide), get_set_ne (by decide), get_set_ne (by decide)]; exact HJ1.out)
        have f1'' := blk_frozen 7 hblk5
        have HFI : Hid (BkP KT 6 w base B C vb vo es a t u (.slice al n capl) (w5.setCell ⟨B, 7, none⟩ v5)) := BkP.kept (by decide) H57.out HK.out HD.out HN.out HUU.out.2 HUU.out.1 HK2.out HKP4.out hkp6 hblk6 hbk6 HAT3.out (fun z hz => by
          rcases hat5 with h | h
          · exact .inl (by rw [← h]; exact hz)
          · rw [h] at hz; injection hz with hz; exact .inr (by have := HSZ4.out.2; simp at this; omega))
        subst hv5
        clear ho5 hg5 hat5 hblk5 hblk6 hbk6 hkp6 e1
        go_wp2
        go_end0
        exact ⟨rfl, HEND.out _ HFI.out⟩
end
section
open Go.RowKit Go

end
section
open Go.RowKit Go

end
section
open Go.RowKit Go

end
section
open Go.RowKit Go

end
section
open Go.RowKit Go
set_option maxRecDepth 1000000 in
set_option maxHeartbeats 1000000 in
theorem bytesM_any {w : World} {base B : Nat} {C : Array Value} {vb vo : Value} {es : List Ent} {a t u : Nat} (hB : w.heap[B]? = some (.cells C 45 (0, 0))) (h57 : C.size = 57) (hJ0 : C[0]? = some vb) (hJ1 : C[1]? = some vo) (h54 : C[54]? = some (.int .i64 ((t : Nat) : Int))) (h56 : C[56]? = some (.int .i64 ((u : Nat) : Int))) (hK : Ko KB w base vb vo es a t u) (l : Value) (n : Nat) (xs : List Value) (hl : w.ownsRow base 5 1 l n xs) (hn : n < 68719476736)
    (hd : ∀ e ∈ es, ∀ k, e.val.ownBlock = some k → l.ownBlock ≠ some k) (ht : t + 1 < 68719476736) (hu : u ≤ 16777216) (hbase : base ≤ w.heap.size) :
    Calls Tryz.prog 27 #[.pointer (some ⟨B, 0, none⟩), l] w fun e w' => e = .returned (.tuple #[]) ∧ Hid (BkP KB 0 w base B C vb vo es a t u l w') := by
  have HEND : Hid (∀ w2, BkP KB 0 w base B C vb vo es a t u l w2 → Hid (BkP KB 0 w base B C vb vo es a t u l w2)) := fun _ h => h
  have c54 : w.cell? ⟨B, 54, none⟩ = some (.int .i64 (t : Nat)) := blk_cell hB h54
  have f54 := blk_frozen 54 hB
  have htt : (t : Int) + 1 < 68719476736 := by omega
  obtain ⟨al, capl, hlf⟩ := own_slice hl
  have HLB : Hid (l.ownBlock ≠ some B) := own_not hl hB (by decide)
  have e1 : ((t : Int) + 1) = ((t + 1 : Nat) : Int) := by omega
  have HB1 : Hid ((w.setCell ⟨B, 54, none⟩ (.int .i64 ((t : Int) + 1))).heap[B]? = some (.cells (C.setIfInBounds 54 (.int .i64 ((t + 1 : Nat) : Int))) 45 (0, 0))) := by show _ = _; rw [e1]; exact blk_set 54 _ hB
  have c54' : (w.setCell ⟨B, 54, none⟩ (.int .i64 ((t : Int) + 1))).cell? ⟨B, 54, none⟩ = some (.int .i64 ((t : Int) + 1)) := blk_cell HB1.out (by rw [get_set (by omega), e1])
  have HBB := hide hB
  have H57 := hide h57
  have HJ0 := hide hJ0
  have HJ1 := hide hJ1
  have HC56 := hide h56
  have HK := hide hK
  have HN := hide hn
  have HT := hide ht
  have HU := hide hu
  have HBASE := hide hbase
  have HK1 : Hid (Kp (fun k => k = B ∨ l.ownBlock = some k) w (w.setCell ⟨B, 54, none⟩ (.int .i64 ((t : Int) + 1)))) := (Kp.refl _ w).setCell _ _ (fun _ => .inl rfl)
  have HO1 : Hid ((w.setCell ⟨B, 54, none⟩ (.int .i64 ((t : Int) + 1))).ownsRow base 5 1 l n xs) := ((Kp.refl (fun k => k = B) w).setCell ⟨B, 54, none⟩ (.int .i64 ((t : Int) + 1)) (fun _ => rfl)).owns hl (fun k hk e => HLB.out (by rw [hk, e]))
  have HL := hide hl
  have HD := hide hd
  subst hlf
  have hnn : (n : Int) < 68719476736 := by omega
  clear hB h57 hJ0 hJ1 h54 h56 hK hl hn hd ht hu hbase e1
  obtain ⟨iL, hiL, hzL0, hzL1, hzL2⟩ := info50_ex
  go_enter Tryz.func27, Tryz.ntmps27
  go_wp2_with fail
  clear c54 f54 c54'
  generalize w.setCell ⟨B, 54, none⟩ (.int .i64 ((t : Int) + 1)) = w1 at *
  go_loopw [5] (fun i wr => ∃ k : Nat, k ≤ n ∧ i = .int .i64 k ∧ Hid (wr.heap[B]? = some (.cells (C.setIfInBounds 54 (.int .i64 ((t + 1 : Nat) : Int))) 45 (0, 0))) ∧ Hid (wr.ownsRow base 5 1 (.slice al n capl) n (KB.mkl (t + 1) k ++ xs.drop (k * 1))) ∧ Hid (Kp (fun k => k = B ∨ (Value.slice al n capl).ownBlock = some k) w wr)) (fun i _ => n - (intOf i).toNat)
  case atStart => exact ⟨0, Nat.zero_le _, rfl, HB1, by simpa [Knd.mkl] using HO1, HK1⟩
  case round =>
    obtain ⟨k, hk, rfl, HBR, HROW, HKP⟩ := hrel
    clear HB1 HO1 HK1
    by_cases hlt : k < n
    · have hlt' : (k : Int) < (n : Int) := by omega
      have hxl : xs.length = n := by have := HL.out.1; omega
      obtain ⟨g, hg⟩ : ∃ g, al = some ⟨g, 0, none⟩ := by
        rcases HL.out.2 with ⟨_, h0⟩ | ⟨g, _, _, hv, _⟩
        · omega
        · injection hv with hv; exact ⟨g, hv⟩
      subst hg
      have hml : (KB.mkl (t + 1) k).length = k := by rw [Knd.mkl_len (fun _ => rfl)]; exact Nat.mul_one k
      obtain ⟨hc, hfz⟩ := own_cell HROW.out (j := k) (u := xs[k]'(by omega)) (by
        rw [List.getElem?_append_right (by omega), hml, Nat.sub_self, Nat.mul_one]
        simp)
      have HST : Hid ((KB.mkl (t + 1) k ++ xs.drop (k * 1)).set k (.int .u8 ((atv (t + 1) k : Nat) : Int)) = KB.mkl (t + 1) (k + 1) ++ xs.drop ((k + 1) * 1)) := by
        show _ = _
        have h1 := spl_step (F := KB) (m := t + 1) (k := k) (xs := xs) (fun _ => rfl)
        rw [← splice_one _ _ _ (by rw [List.length_append, hml, List.length_drop]; omega)]
        exact h1
      have HRO2 : Hid ((wr.setCell ⟨g, k, none⟩ (.int .u8 ((atv (t + 1) k : Nat) : Int))).ownsRow base 5 1 (.slice (some ⟨g, 0, none⟩) n capl) n (KB.mkl (t + 1) (k + 1) ++ xs.drop ((k + 1) * 1))) := by
        have h := own_set (j := k) (.int .u8 ((atv (t + 1) k : Nat) : Int)) HROW.out
        rw [HST.out] at h
        exact h
      have HBR2 : Hid ((wr.setCell ⟨g, k, none⟩ (.int .u8 ((atv (t + 1) k : Nat) : Int))).heap[B]? = some (.cells (C.setIfInBounds 54 (.int .i64 ((t + 1 : Nat) : Int))) 45 (0, 0))) := (((Kp.refl (fun q => q = g) wr).setCell ⟨g, k, none⟩ (.int .u8 ((atv (t + 1) k : Nat) : Int)) (fun _ => rfl)).block B (blk_lt HBR.out) (fun e => HLB.out (by rw [e]; rfl))).trans HBR.out
      have HKP2 : Hid (Kp (fun k => k = B ∨ (Value.slice (some ⟨g, 0, none⟩) n capl).ownBlock = some k) w (wr.setCell ⟨g, k, none⟩ (.int .u8 ((atv (t + 1) k : Nat) : Int)))) := HKP.out.setCell _ _ (fun _ => .inr rfl)
      have HAT : Hid (∀ W, Calls Tryz.prog 65 #[.int .i64 ((t : Int) + 1), .int .i64 (k : Int)] W fun e w' => e = .returned (.int .u8 ((atv (t + 1) k : Nat) : Int)) ∧ w' = W) := fun W => by
        have := at_any ((t : Int) + 1) (k : Int) W (by omega) (by omega) (by omega) (by omega)
        have e1 : ((t : Int) + 1).toNat = t + 1 := by omega
        rw [e1, Int.toNat_natCast] at this
        exact this
      generalize xs[k]'(by omega) = old at hc
      clear hxl hml HST
      go_wp2_with fail
      refine (HAT.out _).mono ?_
      rintro e w' ⟨rfl, rfl⟩
      go_wp2
      go_roundw
      case rel => exact ⟨k + 1, by omega, by go_num, HBR2, HRO2, HKP2⟩
      case measure => simp [intOf]; omega
    · have hlt' : ¬ (k : Int) < (n : Int) := by omega
      have hkn : k = n := by omega
      have HW : Hid (wr.ownsRow base 5 1 (.slice al n capl) n (KB.mkl (t + 1) n)) := by
        have h := HROW.out
        have hxl : xs.length = n * 1 := HL.out.1
        rw [hkn, List.drop_of_length_le (by omega), List.append_nil] at h
        exact h
      have HCC := hide ((HK.out.c).marked KB_ok HBB.out HL.out HD.out HKP.out)
      clear hkn HROW
      have hu := HU.out
      by_cases hfull : (16777216 : Int) < (u : Int) + (1200 + 3 * (n : Int))
      · have HTF := hide (tightQ_full HBR.out (by rw [get_set_ne (by decide)]; exact HC56.out) (1200 + 3 * (n : Int)) hu (by omega) (by have := HN.out; omega) (by omega))
        go_wp2_with fail
        refine HTF.out.mono ?_
        rintro e w' ⟨rfl, rfl⟩
        go_wp2
        refine bodyPost_ret (results_none rfl _ _ _) rfl ?_
        exact ⟨rfl, HEND.out _ (BkP.full KB_ok HBB.out HJ0.out HJ1.out HC56.out (by decide) H57.out HK.out HL.out HD.out HU.out HBR.out HKP.out)⟩
      · obtain ⟨U, hU⟩ : ∃ U : Nat, U = u + (1200 + 3 * n) := ⟨_, rfl⟩
        have HTR := hide (tightQ_room HBR.out (by rw [get_set_ne (by decide)]; exact HC56.out) (1200 + 3 * (n : Int)) hu (by omega) (by have := HN.out; omega) (by omega) U (by omega))
        have HUU : Hid (u + KB.cost ≤ U ∧ U ≤ 16777216) := ⟨by show u + 1200 ≤ U; omega, by omega⟩
        clear hU
        go_wp2_with fail
        refine HTR.out.mono ?_
        rintro e w2 ⟨rfl, hblk2, hkp2⟩
        have HB2 := hide hblk2
        have HC2 : Hid (Kc KB w2 base vb vo es t) := HCC.out.kp hkp2 (fun q hq e => HCC.out.notB KB_ok HBR.out (by rw [← e]; exact hq))
        have HW2 : Hid (w2.ownsRow base 5 1 (.slice al n capl) n (KB.mkl (t + 1) n)) := hkp2.owns HW.out (fun q hq e => own_not HW.out HBR.out (by decide) (by rw [← e]; exact hq))
        have HK2 : Hid (Kp (fun k => k = B ∨ (Value.slice al n capl).ownBlock = some k) w w2) := HKP.out.trans hkp2 (fun q _ e => .inl e)
        have HBS : Hid (base ≤ w2.heap.size) := Nat.le_trans HBASE.out HK2.out.size
        have hlen : es.length < 1099511627776 := by obtain ⟨c, r, h1, h2, h3⟩ := HK.out.count; simp only [KB] at h2 h3; omega
        have c0 : w2.cell? ⟨B, 0, none⟩ = some vb := blk_cell hblk2 (by rw [get_set_ne (by decide), get_set_ne (by decide)]; exact HJ0.out)
        clear hblk2 hkp2 HCC HW HTR HKP HBR hfull
        go_wp2_with (at_builtin; refine append_lst rfl _ _ 22 46 iL Tryz.underlying22 hiL hzL0 hzL1 hzL2 rfl base vb es.length _ rfl HC2.out.hb _ _ rfl rfl rfl hlen HBS.out ?_)
        intro v3 w3 ho3 hg3 hat3
        obtain ⟨a3, c3, hv3⟩ := own_slice ho3
        obtain ⟨hblk3, hblk4, hhalf, hkp4⟩ := HC2.out.push_a KB_ok HB2.out 0 ⟨Value.slice al n capl, n, t + 1⟩ HW2.out v3 ho3 hg3
        have c0' : w3.cell? ⟨B, 0, none⟩ = some vb := blk_cell hblk3 (by rw [get_set_ne (by decide), get_set_ne (by decide)]; exact HJ0.out)
        have c1' : (w3.setCell ⟨B, 0, none⟩ v3).cell? ⟨B, 1, none⟩ = some vo := blk_cell hblk4 (by rw [get_set_ne (by decide), get_set_ne (by decide), get_set_ne (by decide)]; exact HJ1.out)
        have f0' := blk_frozen 0 hblk3
        have HHF := hide hhalf
        have HKP4 := hide hkp4
        have HB4 := hide hblk4
        have HAT3 : Hid (∀ z, v3.ownBlock = some z → vb.ownBlock = some z ∨ w.heap.size ≤ z) := fun z hz => by
          rcases hat3 with h | h
          · exact .inl (by rw [← h]; exact hz)
          · rw [h] at hz; injection hz with hz; exact .inr (by have := HK2.out.size; omega)
        have HSZ4 : Hid (base ≤ (w3.setCell ⟨B, 0, none⟩ v3).heap.size ∧ w.heap.size ≤ (w3.setCell ⟨B, 0, none⟩ v3).heap.size) := ⟨Nat.le_trans HBS.out hkp4.size, Nat.le_trans HK2.out.size hkp4.size⟩
        have HLEN := hide hlen
        subst hv3
        clear ho3 hg3 hat3 hblk3 hblk4 hhalf hkp4 c0 hlen
        go_wp2_with (at_builtin; go_must (refine append_int rfl _ _ rfl base vo es.length _ rfl HHF.out.ho _ w3.heap.size (by simp) rfl HLEN.out HSZ4.out.1 ?_))
        intro v5 w5 ho5 hg5 hat5
        obtain ⟨a5, c5, hv5⟩ := own_slice ho5
        have e1 : ((t : Int) + 1) = ((t + 1 : Nat) : Int) := by omega
        rw [e1] at ho5 hg5
        obtain ⟨hblk5, hblk6, hbk6, hkp6⟩ := HHF.out.push_b KB_ok (t := t + 1) HB4.out 1 v5 ho5 hg5 HC2.out.hs (fun x hx z h1 h2 => absurd h2 (HD.out x hx z h1)) (fun x hx => ⟨by have := (HC2.out.hm x hx).1; omega, (HC2.out.hm x hx).2⟩) ⟨Nat.le_refl _, by have := HN.out; show n < _; omega⟩
        have c1'' : w5.cell? ⟨B, 1, none⟩ = some vo := blk_cell hblk5 (by rw [get_set_ne (by decide), get_set_ne (by decide), get_set_ne (by decide)]; exact HJ1.out)
        have f1'' := blk_frozen 1 hblk5
        have HFI : Hid (BkP KB 0 w base B C vb vo es a t u (.slice al n capl) (w5.setCell ⟨B, 1, none⟩ v5)) := BkP.kept (by decide) H57.out HK.out HD.out HN.out HUU.out.2 HUU.out.1 HK2.out HKP4.out hkp6 hblk6 hbk6 HAT3.out (fun z hz => by
          rcases hat5 with h | h
          · exact .inl (by rw [← h]; exact hz)
          · rw [h] at hz; injection hz with hz; exact .inr (by have := HSZ4.out.2; simp at this; omega))
        subst hv5
        clear ho5 hg5 hat5 hblk5 hblk6 hbk6 hkp6 e1
        go_wp2
        go_end0
        exact ⟨rfl, HEND.out _ HFI.out⟩
end
end Go.Proofs.YtdejcapbggjjgaaGreatDoor

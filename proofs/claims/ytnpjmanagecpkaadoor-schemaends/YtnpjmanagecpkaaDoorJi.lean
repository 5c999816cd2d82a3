import Derived.Test.YtnpjmanagecpkaaDoorJh
import Derived.Test.YtnpjmanagecpkaaDoorJd
import Derived.Test.YtnpjmanagecpkaaDoorRows
import Derived.Lib.LaidU8T
import Derived.Lib.LaidIn
namespace Go.Proofs.YtnpjmanagecpkaaDoor
section
open Go.RowKit Go
set_option maxRecDepth 1000000 in
set_option maxHeartbeats 8000000 in
theorem ends_any (w : World) (hT : Tabs w) (hO : Otb w) : Calls Tryd.prog 4 #[] w fun e w' => e = .returned (.bool true) ∧ Below w.heap.size w w' := by
  have HT : Hid (∀ wy, Below w.heap.size w wy → Tabs wy) := fun wy hb => hT.next hb
  have HO : Hid (∀ wy, Below w.heap.size w wy → Otb wy) := fun wy hb => hO.next (keep_below hb)
  have HNU := hide (fun n W => num11_any n W)
  have HBG : Hid (∀ wy, Below w.heap.size w wy → Calls Tryd.prog 5 #[] wy fun e w' => e = .returned (.bool true) ∧ Below wy.heap.size wy w') := fun wy hb => begun11_any wy (HT.out wy hb) (HO.out wy hb)
  clear hT hO
  go_enter Tryd.func4, Tryd.ntmps4
  go_wp2_with fail
  refine (HBG.out w (Below.refl _ _)).mono ?_
  rintro e w1 ⟨rfl, hb1⟩
  have HB1 := hide hb1
  clear hb1
  go_wp2_with fail
  go_loopw [1, 2] (fun vs vi wx => ∃ i : Nat, i ≤ 64 ∧ vs = .string (lng i) ∧ vi = .int .i64 (i : Nat) ∧ Hid (Below w.heap.size w wx)) (fun _ vi _ => 64 - (intOf vi).toNat)
  case atStart => exact ⟨0, by omega, rfl, rfl, HB1⟩
  case round =>
    clear HB1
    obtain ⟨i, hi, rfl, rfl, HB2⟩ := hrel
    by_cases hlt : i < 64
    · as_aux_lemma =>
      have g1 : (i : Int) < 64 := by omega
      have z1 := lng_size i
      go_wp2_with fail
      go_roundw
      case rel => exact ⟨i + 1, by omega, by rw [← lng_succ], by go_num, HB2⟩
      case measure => simp [intOf]; omega
    have hi64 : i = 64 := by omega
    subst hi64
    clear hlt hi
    go_wp2_with fail
    go_loopw [1, 3] (fun vs vn wx => ∃ N : Nat, (N = 64 ∨ N = 65 ∨ N = 66) ∧ vs = .string (lng N) ∧ vn = .int .i64 (N : Nat) ∧ Hid (Below w.heap.size w wx)) (fun _ vn _ => 66 - (intOf vn).toNat)
    case atStart => exact ⟨64, .inl rfl, rfl, rfl, HB2⟩
    case round =>
      rename World => wo
      clear HB2
      obtain ⟨N, hN, rfl, rfl, HB3⟩ := hrel
      by_cases hlt : N < 66
      rotate_left
      · as_aux_lemma =>
        have g1 : ¬ (N : Int) < 66 := by omega
        go_wp2_with fail
        refine (HBG.out _ HB3.out).mono ?_
        rintro e w4 ⟨rfl, hb4⟩
        have HB4 : Hid (Below w.heap.size w w4) := HB3.out.trans (hb4.mono HB3.out.size)
        clear hb4
        go_wp2_with fail
        go_ret
        exact ⟨rfl, HB4.out⟩
      have HN64 : Hid (N = 64 ∨ N = 65) := by show _ ∨ _; omega
      have g1 : (N : Int) < 66 := by omega
      have HS := hide (Sew.start HB3.out)
      unfold eB0 eB at HS
      clear hN hlt HB3
      go_wp2_with fail
      clear g1
      rw [show wo.heap.size + 1 + 1 + 1 = wo.heap.size + 3 from rfl, show wo.heap.size + 1 + 1 = wo.heap.size + 2 from rfl]
      generalize (((wo.alloc (.cells #[.string ⟨#[115]⟩, .int .i64 5, .int .i64 0, .int .i64 0, .string ⟨#[]⟩, .bool false, .slice none 0 0, .slice none 0 0, .slice none 0 0] 29)).alloc (.cells #[.string ⟨#[114]⟩, .int .i64 6, .int .i64 0, .int .i64 0, .string ⟨#[]⟩, .bool false, .slice none 0 0, .slice none 0 0, .slice none 0 0] 29)).alloc (.cells #[.string ⟨#[107]⟩, .int .i64 7, .int .i64 0, .int .i64 0, .string ⟨#[]⟩, .bool false, .slice none 0 0, .slice none 0 0, .slice none 0 0] 29)).alloc (.cells #[.string ⟨#[101]⟩, .int .i64 9, .int .i64 0, .int .i64 0, .string ⟨#[]⟩, .bool false, .slice none 0 0, .slice none 0 0, .slice none 0 0] 29) = wl at *
      generalize wo.heap.size = b at *
      go_loopw [4, 9] (fun vt vi wx => ∃ (i : Nat) (a0 : Option Addr) (c0 : Nat) (v1 v2 v3 v4 : Value), i ≤ N ∧ vt = .slice a0 i c0 ∧ vi = .int .i64 (i : Nat) ∧ Hid (Sew w b (s5 i i i i i) (s5 (.slice a0 i c0) v1 v2 v3 v4) wx)) (fun _ vi _ => N - (intOf vi).toNat)
      case atStart => exact ⟨0, none, 0, _, _, _, _, by omega, rfl, rfl, HS⟩
      case round =>
        rename World => W
        clear HS
        obtain ⟨i, a0, c0, v1, v2, v3, v4, hi, rfl, rfl, HS⟩ := hrel
        obtain ⟨a1, c1, hv1, _⟩ := own_formG (HS.out.o 1 (by decide))
        obtain ⟨a2, c2, hv2, _⟩ := own_formG (HS.out.o 2 (by decide))
        obtain ⟨a3, c3, hv3, _⟩ := own_formG (HS.out.o 3 (by decide))
        obtain ⟨a4, c4, hv4, _⟩ := own_formG (HS.out.o 4 (by decide))
        replace hv1 : v1 = .slice a1 i c1 := hv1
        replace hv2 : v2 = .slice a2 i c2 := hv2
        replace hv3 : v3 = .slice a3 i c3 := hv3
        replace hv4 : v4 = .slice a4 i c4 := hv4
        subst hv1
        subst hv2
        subst hv3
        subst hv4
        by_cases hlt : i < N
        · have g1 : (i : Int) < (N : Int) := by omega
          have HI66 : Hid (i < 66) := by have := HN64.out; show _ < _; omega
          have HI6 : Hid (i ≤ 1000000) := by have := HI66.out; show _ ≤ _; omega
          have HIN : Hid (i < N) := hlt
          clear hi hlt
          obtain ⟨tn, htn⟩ : ∃ tn, tx i = tn := ⟨_, rfl⟩
          have HTN := hide htn
          have HTX : Hid (∀ W, Calls Tryd.prog 14 #[.int .i64 (i : Nat)] W fun e w' => e = .returned (.string tn) ∧ Below W.heap.size W w') := fun W => by rw [← HTN.out]; exact text_any i HI66.out W
          clear htn
          go_wp2_with fail
          refine (HTX.out _).mono ?_
          rintro e W2 ⟨rfl, hbt⟩
          replace HS := hide (HS.out.next hbt)
          clear hbt
          go_wp2_with (refine Sew.law0 HTN.out HS.out HI6.out rfl rfl rfl rfl ?_; intro a5 c5 W3 HS2)
          replace HS := HS2
          clear HS2
          refine kStart 11 12 (fun wy => wy.cell? ⟨b, 6, none⟩ = some (.slice a1 (i) c1)) rfl (by kernel_rfl) ?_
          have hbd : Below W3.heap.size W3 W3.drew := by
            refine Below.drew ?_
            exact Below.refl _ _
          replace HS := hide (HS.out.next hbd)
          clear hbd
          generalize W3.drew = W11 at *
          have hS : W11.cell? ⟨b, 6, none⟩ = some (.slice a1 (i) c1) := blk_cell (j := 6) (HS.out.hb 1 (by decide) (by decide)) rfl
          refine kTake 0 _ (by decide) rfl (by kernel_rfl) (by kernel_rfl) (by kernel_rfl) (fun _ _ _ h => h) rfl (fun wy => by first | (go_simp; done) | (go_simp; rfl) | rfl) (fun _ => hS) ?_
          (try simp only [Act.put]); (try simp only [List.setIfInBounds_toArray, List.set_cons_zero, List.set_cons_succ])
          refine kLoad 1 [9,11] _ (by decide) rfl (by kernel_rfl) (by kernel_rfl) (by kernel_rfl) (by kernel_rfl) (fun _ _ _ h => h) rfl hS (fun wy hy => by first | (go_simp; done) | (go_simp; rfl) | rfl) ?_
          (try simp only [Act.put]); (try simp only [List.setIfInBounds_toArray, List.set_cons_zero, List.set_cons_succ])
          refine kTake 2 _ (by decide) rfl (by kernel_rfl) (by kernel_rfl) (by kernel_rfl) (fun _ _ _ h => h) rfl (fun wy => by first | (go_simp; done) | (go_simp; rfl) | rfl) (fun _ => hS) ?_
          (try simp only [Act.put]); (try simp only [List.setIfInBounds_toArray, List.set_cons_zero, List.set_cons_succ])
          refine kTake 4 _ (by decide) rfl (by kernel_rfl) (by kernel_rfl) (by kernel_rfl) (fun _ _ _ h => h) rfl (fun wy => by first | (go_simp; done) | (go_simp; rfl) | rfl) (fun _ => hS) ?_
          (try simp only [Act.put]); (try simp only [List.setIfInBounds_toArray, List.set_cons_zero, List.set_cons_succ])
          refine kTake 6 _ (by decide) rfl (by kernel_rfl) (by kernel_rfl) (by kernel_rfl) (fun _ _ _ h => h) rfl (fun wy => by first | (go_simp; done) | (go_simp; rfl) | rfl) (fun _ => hS) ?_
          (try simp only [Act.put]); (try simp only [List.setIfInBounds_toArray, List.set_cons_zero, List.set_cons_succ])
          refine kStep 3 rfl (by kernel_rfl) (fun K hK => ?_)
          go_simp
          refine (HTX.out _).mono ?_
          rintro e W12 ⟨rfl, hbt⟩
          replace HS := hide (HS.out.next hbt)
          clear hbt hS
          have hS : W12.cell? ⟨b, 6, none⟩ = some (.slice a1 (i) c1) := blk_cell (j := 6) (HS.out.hb 1 (by decide) (by decide)) rfl
          refine (Hid.out hK) _ _ (fun _ => hS) ?_
          clear hK K
          (try simp only [Act.put]); (try simp only [List.setIfInBounds_toArray, List.set_cons_zero, List.set_cons_succ])
          refine kStep 5 rfl (by kernel_rfl) (fun K hK => ?_)
          go_simp
          refine (HTX.out _).mono ?_
          rintro e W13 ⟨rfl, hbt⟩
          replace HS := hide (HS.out.next hbt)
          clear hbt hS
          have hS : W13.cell? ⟨b, 6, none⟩ = some (.slice a1 (i) c1) := blk_cell (j := 6) (HS.out.hb 1 (by decide) (by decide)) rfl
          refine (Hid.out hK) _ _ (fun _ => hS) ?_
          clear hK K
          (try simp only [Act.put]); (try simp only [List.setIfInBounds_toArray, List.set_cons_zero, List.set_cons_succ])
          refine kTake 7 _ (by decide) rfl (by kernel_rfl) (by kernel_rfl) (by kernel_rfl) (fun _ _ _ h => h) rfl (fun wy => by first | (go_simp; done) | (go_simp; rfl) | rfl) (fun _ => hS) ?_
          (try simp only [Act.put]); (try simp only [List.setIfInBounds_toArray, List.set_cons_zero, List.set_cons_succ])
          refine kStep 8 rfl (by kernel_rfl) (fun K hK => ?_)
          go_simp
          replace hS := keep_below (below_alloc4 W13 (.cells #[.string tn, .string tn, .string ⟨#[97, 110, 121]⟩, .bool false, .bool false] 46)) _ _ hS
          refine (Hid.out hK) _ _ (fun _ => hS) ?_
          clear hK K
          (try simp only [Act.put]); (try simp only [List.setIfInBounds_toArray, List.set_cons_zero, List.set_cons_succ])
          refine kStep 9 rfl (by kernel_rfl) (fun K hK => ?_)
          refine Sew.law1 HTN.out HS.out HI6.out rfl rfl rfl rfl (fun a15 c16 W14 hS2 hz2 HS2 => ?_)
          clear HS hS
          refine (Hid.out hK) _ _ (fun _ => hS2) ?_
          clear hK K
          (try simp only [Act.put]); (try simp only [List.setIfInBounds_toArray, List.set_cons_zero, List.set_cons_succ])
          refine kTake 10 _ (by decide) rfl (by kernel_rfl) (by kernel_rfl) (by kernel_rfl) (fun _ _ _ h => h) rfl (fun wy => by first | (go_simp; done) | (go_simp; rfl) | rfl) (fun _ => hS2) ?_
          (try simp only [Act.put]); (try simp only [List.setIfInBounds_toArray, List.set_cons_zero, List.set_cons_succ])
          refine kStep 11 rfl (by kernel_rfl) (fun K hK => ?_)
          go_simp
          refine (Hid.out hK) _ _ (fun h => absurd h (by decide)) ?_
          clear hK K
          (try simp only [Act.put]); (try simp only [List.setIfInBounds_toArray, List.set_cons_zero, List.set_cons_succ])
          clear hS2 hz2
          generalize W14.setCell ⟨b, 6, none⟩ (.slice a15 (i + 1) c16) = W17 at *
          have HS := HS2
          clear HS2
          refine kDone (by kernel_rfl) ?_
          go_wp2_with fail
          refine kStart 9 10 (fun wy => wy.cell? ⟨b + 1, 6, none⟩ = some (.slice a2 (i) c2)) rfl (by kernel_rfl) ?_
          have hbd : Below W17.heap.size W17 W17.drew := by
            refine Below.drew ?_
            exact Below.refl _ _
          replace HS := hide (HS.out.next hbd)
          clear hbd
          generalize W17.drew = W18 at *
          have hS : W18.cell? ⟨b + 1, 6, none⟩ = some (.slice a2 (i) c2) := blk_cell (j := 6) (HS.out.hb 2 (by decide) (by decide)) rfl
          refine kTake 0 _ (by decide) rfl (by kernel_rfl) (by kernel_rfl) (by kernel_rfl) (fun _ _ _ h => h) rfl (fun wy => by first | (go_simp; done) | (go_simp; rfl) | rfl) (fun _ => hS) ?_
          (try simp only [Act.put]); (try simp only [List.setIfInBounds_toArray, List.set_cons_zero, List.set_cons_succ])
          refine kLoad 1 [7,9] _ (by decide) rfl (by kernel_rfl) (by kernel_rfl) (by kernel_rfl) (by kernel_rfl) (fun _ _ _ h => h) rfl hS (fun wy hy => by first | (go_simp; done) | (go_simp; rfl) | rfl) ?_
          (try simp only [Act.put]); (try simp only [List.setIfInBounds_toArray, List.set_cons_zero, List.set_cons_succ])
          refine kTake 2 _ (by decide) rfl (by kernel_rfl) (by kernel_rfl) (by kernel_rfl) (fun _ _ _ h => h) rfl (fun wy => by first | (go_simp; done) | (go_simp; rfl) | rfl) (fun _ => hS) ?_
          (try simp only [Act.put]); (try simp only [List.setIfInBounds_toArray, List.set_cons_zero, List.set_cons_succ])
          refine kTake 4 _ (by decide) rfl (by kernel_rfl) (by kernel_rfl) (by kernel_rfl) (fun _ _ _ h => h) rfl (fun wy => by first | (go_simp; done) | (go_simp; rfl) | rfl) (fun _ => hS) ?_
          (try simp only [Act.put]); (try simp only [List.setIfInBounds_toArray, List.set_cons_zero, List.set_cons_succ])
          refine kStep 3 rfl (by kernel_rfl) (fun K hK => ?_)
          go_simp
          refine (HTX.out _).mono ?_
          rintro e W19 ⟨rfl, hbt⟩
          replace HS := hide (HS.out.next hbt)
          clear hbt hS
          have hS : W19.cell? ⟨b + 1, 6, none⟩ = some (.slice a2 (i) c2) := blk_cell (j := 6) (HS.out.hb 2 (by decide) (by decide)) rfl
          refine (Hid.out hK) _ _ (fun _ => hS) ?_
          clear hK K
          (try simp only [Act.put]); (try simp only [List.setIfInBounds_toArray, List.set_cons_zero, List.set_cons_succ])
          refine kTake 5 _ (by decide) rfl (by kernel_rfl) (by kernel_rfl) (by kernel_rfl) (fun _ _ _ h => h) rfl (fun wy => by first | (go_simp; done) | (go_simp; rfl) | rfl) (fun _ => hS) ?_
          (try simp only [Act.put]); (try simp only [List.setIfInBounds_toArray, List.set_cons_zero, List.set_cons_succ])
          refine kStep 6 rfl (by kernel_rfl) (fun K hK => ?_)
          go_simp
          replace hS := keep_below (below_alloc4 W19 (.cells #[.string tn, .string ⟨#[]⟩, .string ⟨#[97, 110, 121]⟩, .bool false, .bool false] 46)) _ _ hS
          refine (Hid.out hK) _ _ (fun _ => hS) ?_
          clear hK K
          (try simp only [Act.put]); (try simp only [List.setIfInBounds_toArray, List.set_cons_zero, List.set_cons_succ])
          refine kStep 7 rfl (by kernel_rfl) (fun K hK => ?_)
          refine Sew.law2 HTN.out HS.out HI6.out rfl rfl rfl rfl (fun a21 c22 W20 hS2 hz2 HS2 => ?_)
          clear HS hS
          refine (Hid.out hK) _ _ (fun _ => hS2) ?_
          clear hK K
          (try simp only [Act.put]); (try simp only [List.setIfInBounds_toArray, List.set_cons_zero, List.set_cons_succ])
          refine kTake 8 _ (by decide) rfl (by kernel_rfl) (by kernel_rfl) (by kernel_rfl) (fun _ _ _ h => h) rfl (fun wy => by first | (go_simp; done) | (go_simp; rfl) | rfl) (fun _ => hS2) ?_
          (try simp only [Act.put]); (try simp only [List.setIfInBounds_toArray, List.set_cons_zero, List.set_cons_succ])
          refine kStep 9 rfl (by kernel_rfl) (fun K hK => ?_)
          go_simp
          refine (Hid.out hK) _ _ (fun h => absurd h (by decide)) ?_
          clear hK K
          (try simp only [Act.put]); (try simp only [List.setIfInBounds_toArray, List.set_cons_zero, List.set_cons_succ])
          clear hS2 hz2
          generalize W20.setCell ⟨b + 1, 6, none⟩ (.slice a21 (i + 1) c22) = W23 at *
          have HS := HS2
          clear HS2
          refine kDone (by kernel_rfl) ?_
          go_wp2_with fail
          refine kStart 8 9 (fun wy => wy.cell? ⟨b + 2, 7, none⟩ = some (.slice a3 (i) c3)) rfl (by kernel_rfl) ?_
          have hbd : Below W23.heap.size W23 W23.drew := by
            refine Below.drew ?_
            exact Below.refl _ _
          replace HS := hide (HS.out.next hbd)
          clear hbd
          generalize W23.drew = W24 at *
          have hS : W24.cell? ⟨b + 2, 7, none⟩ = some (.slice a3 (i) c3) := blk_cell (j := 7) (HS.out.hb 3 (by decide) (by decide)) rfl
          refine kTake 0 _ (by decide) rfl (by kernel_rfl) (by kernel_rfl) (by kernel_rfl) (fun _ _ _ h => h) rfl (fun wy => by first | (go_simp; done) | (go_simp; rfl) | rfl) (fun _ => hS) ?_
          (try simp only [Act.put]); (try simp only [List.setIfInBounds_toArray, List.set_cons_zero, List.set_cons_succ])
          refine kLoad 1 [6,8] _ (by decide) rfl (by kernel_rfl) (by kernel_rfl) (by kernel_rfl) (by kernel_rfl) (fun _ _ _ h => h) rfl hS (fun wy hy => by first | (go_simp; done) | (go_simp; rfl) | rfl) ?_
          (try simp only [Act.put]); (try simp only [List.setIfInBounds_toArray, List.set_cons_zero, List.set_cons_succ])
          refine kTake 2 _ (by decide) rfl (by kernel_rfl) (by kernel_rfl) (by kernel_rfl) (fun _ _ _ h => h) rfl (fun wy => by first | (go_simp; done) | (go_simp; rfl) | rfl) (fun _ => hS) ?_
          (try simp only [Act.put]); (try simp only [List.setIfInBounds_toArray, List.set_cons_zero, List.set_cons_succ])
          refine kStep 3 rfl (by kernel_rfl) (fun K hK => ?_)
          go_simp
          refine (HTX.out _).mono ?_
          rintro e W25 ⟨rfl, hbt⟩
          replace HS := hide (HS.out.next hbt)
          clear hbt hS
          have hS : W25.cell? ⟨b + 2, 7, none⟩ = some (.slice a3 (i) c3) := blk_cell (j := 7) (HS.out.hb 3 (by decide) (by decide)) rfl
          refine (Hid.out hK) _ _ (fun _ => hS) ?_
          clear hK K
          (try simp only [Act.put]); (try simp only [List.setIfInBounds_toArray, List.set_cons_zero, List.set_cons_succ])
          refine kTake 4 _ (by decide) rfl (by kernel_rfl) (by kernel_rfl) (by kernel_rfl) (fun _ _ _ h => h) rfl (fun wy => by first | (go_simp; done) | (go_simp; rfl) | rfl) (fun _ => hS) ?_
          (try simp only [Act.put]); (try simp only [List.setIfInBounds_toArray, List.set_cons_zero, List.set_cons_succ])
          refine kStep 5 rfl (by kernel_rfl) (fun K hK => ?_)
          go_simp
          replace hS := keep_below (below_alloc4 W25 (.cells #[.string tn, .string ⟨#[97, 110, 121]⟩] 48)) _ _ hS
          refine (Hid.out hK) _ _ (fun _ => hS) ?_
          clear hK K
          (try simp only [Act.put]); (try simp only [List.setIfInBounds_toArray, List.set_cons_zero, List.set_cons_succ])
          refine kStep 6 rfl (by kernel_rfl) (fun K hK => ?_)
          refine Sew.law3 HTN.out HS.out HI6.out rfl rfl rfl rfl (fun a27 c28 W26 hS2 hz2 HS2 => ?_)
          clear HS hS
          refine (Hid.out hK) _ _ (fun _ => hS2) ?_
          clear hK K
          (try simp only [Act.put]); (try simp only [List.setIfInBounds_toArray, List.set_cons_zero, List.set_cons_succ])
          refine kTake 7 _ (by decide) rfl (by kernel_rfl) (by kernel_rfl) (by kernel_rfl) (fun _ _ _ h => h) rfl (fun wy => by first | (go_simp; done) | (go_simp; rfl) | rfl) (fun _ => hS2) ?_
          (try simp only [Act.put]); (try simp only [List.setIfInBounds_toArray, List.set_cons_zero, List.set_cons_succ])
          refine kStep 8 rfl (by kernel_rfl) (fun K hK => ?_)
          go_simp
          refine (Hid.out hK) _ _ (fun h => absurd h (by decide)) ?_
          clear hK K
          (try simp only [Act.put]); (try simp only [List.setIfInBounds_toArray, List.set_cons_zero, List.set_cons_succ])
          clear hS2 hz2
          generalize W26.setCell ⟨b + 2, 7, none⟩ (.slice a27 (i + 1) c28) = W29 at *
          have HS := HS2
          clear HS2
          refine kDone (by kernel_rfl) ?_
          go_wp2_with fail
          refine kStart 7 8 (fun wy => wy.cell? ⟨b + 3, 8, none⟩ = some (.slice a4 (i) c4)) rfl (by kernel_rfl) ?_
          have hbd : Below W29.heap.size W29 W29.drew := by
            refine Below.drew ?_
            exact Below.refl _ _
          replace HS := hide (HS.out.next hbd)
          clear hbd
          generalize W29.drew = W30 at *
          have hS : W30.cell? ⟨b + 3, 8, none⟩ = some (.slice a4 (i) c4) := blk_cell (j := 8) (HS.out.hb 4 (by decide) (by decide)) rfl
          refine kTake 0 _ (by decide) rfl (by kernel_rfl) (by kernel_rfl) (by kernel_rfl) (fun _ _ _ h => h) rfl (fun wy => by first | (go_simp; done) | (go_simp; rfl) | rfl) (fun _ => hS) ?_
          (try simp only [Act.put]); (try simp only [List.setIfInBounds_toArray, List.set_cons_zero, List.set_cons_succ])
          refine kLoad 1 [5,7] _ (by decide) rfl (by kernel_rfl) (by kernel_rfl) (by kernel_rfl) (by kernel_rfl) (fun _ _ _ h => h) rfl hS (fun wy hy => by first | (go_simp; done) | (go_simp; rfl) | rfl) ?_
          (try simp only [Act.put]); (try simp only [List.setIfInBounds_toArray, List.set_cons_zero, List.set_cons_succ])
          refine kTake 2 _ (by decide) rfl (by kernel_rfl) (by kernel_rfl) (by kernel_rfl) (fun _ _ _ h => h) rfl (fun wy => by first | (go_simp; done) | (go_simp; rfl) | rfl) (fun _ => hS) ?_
          (try simp only [Act.put]); (try simp only [List.setIfInBounds_toArray, List.set_cons_zero, List.set_cons_succ])
          refine kStep 3 rfl (by kernel_rfl) (fun K hK => ?_)
          go_simp
          refine (HTX.out _).mono ?_
          rintro e W31 ⟨rfl, hbt⟩
          replace HS := hide (HS.out.next hbt)
          clear hbt hS
          have hS : W31.cell? ⟨b + 3, 8, none⟩ = some (.slice a4 (i) c4) := blk_cell (j := 8) (HS.out.hb 4 (by decide) (by decide)) rfl
          refine (Hid.out hK) _ _ (fun _ => hS) ?_
          clear hK K
          (try simp only [Act.put]); (try simp only [List.setIfInBounds_toArray, List.set_cons_zero, List.set_cons_succ])
          refine kStep 4 rfl (by kernel_rfl) (fun K hK => ?_)
          go_simp
          replace hS := keep_below (below_alloc4 W31 (.cells #[.string tn] 9)) _ _ hS
          refine (Hid.out hK) _ _ (fun _ => hS) ?_
          clear hK K
          (try simp only [Act.put]); (try simp only [List.setIfInBounds_toArray, List.set_cons_zero, List.set_cons_succ])
          refine kStep 5 rfl (by kernel_rfl) (fun K hK => ?_)
          refine Sew.law4 HTN.out HS.out HI6.out rfl rfl rfl rfl (fun a33 c34 W32 hS2 hz2 HS2 => ?_)
          clear HS hS
          refine (Hid.out hK) _ _ (fun _ => hS2) ?_
          clear hK K
          (try simp only [Act.put]); (try simp only [List.setIfInBounds_toArray, List.set_cons_zero, List.set_cons_succ])
          refine kTake 6 _ (by decide) rfl (by kernel_rfl) (by kernel_rfl) (by kernel_rfl) (fun _ _ _ h => h) rfl (fun wy => by first | (go_simp; done) | (go_simp; rfl) | rfl) (fun _ => hS2) ?_
          (try simp only [Act.put]); (try simp only [List.setIfInBounds_toArray, List.set_cons_zero, List.set_cons_succ])
          refine kStep 7 rfl (by kernel_rfl) (fun K hK => ?_)
          go_simp
          refine (Hid.out hK) _ _ (fun h => absurd h (by decide)) ?_
          clear hK K
          (try simp only [Act.put]); (try simp only [List.setIfInBounds_toArray, List.set_cons_zero, List.set_cons_succ])
          clear hS2 hz2
          generalize W32.setCell ⟨b + 3, 8, none⟩ (.slice a33 (i + 1) c34) = W35 at *
          have HS := HS2
          clear HS2
          refine kDone (by kernel_rfl) ?_
          have h66 := HI66.out
          go_wp2_with fail
          go_roundw
          case rel => exact ⟨i + 1, _, _, _, _, _, _, HIN.out, rfl, by go_num, HS⟩
          case measure => have := HIN.out; simp [intOf]; omega
        · have hiN : N = i := by omega
          subst hiN
          have g1 : ¬ (N : Int) < (N : Int) := by omega
          have HL1 : Hid (∀ wy, Below W.heap.size W wy → ∀ j u, (#[.string ⟨#[115]⟩, .int .i64 5, .int .i64 0, .int .i64 0, .string ⟨#[]⟩, .bool false, .slice a1 N c1, .slice none 0 0, .slice none 0 0] : Array Value)[j]? = some u → wy.cell? ⟨b, 0 + j, none⟩ = some u) := fun wy hb j u hj => by rw [Nat.zero_add]; exact keep_below hb _ _ (blk_cell (HS.out.hb 1 (by decide) (by decide)) hj)
          have HL2 : Hid (∀ wy, Below W.heap.size W wy → ∀ j u, (#[.string ⟨#[114]⟩, .int .i64 6, .int .i64 0, .int .i64 0, .string ⟨#[]⟩, .bool false, .slice a2 N c2, .slice none 0 0, .slice none 0 0] : Array Value)[j]? = some u → wy.cell? ⟨b + 1, 0 + j, none⟩ = some u) := fun wy hb j u hj => by rw [Nat.zero_add]; exact keep_below hb _ _ (blk_cell (HS.out.hb 2 (by decide) (by decide)) hj)
          have HL3 : Hid (∀ wy, Below W.heap.size W wy → ∀ j u, (#[.string ⟨#[107]⟩, .int .i64 7, .int .i64 0, .int .i64 0, .string ⟨#[]⟩, .bool false, .slice none 0 0, .slice a3 N c3, .slice none 0 0] : Array Value)[j]? = some u → wy.cell? ⟨b + 2, 0 + j, none⟩ = some u) := fun wy hb j u hj => by rw [Nat.zero_add]; exact keep_below hb _ _ (blk_cell (HS.out.hb 3 (by decide) (by decide)) hj)
          have HL4 : Hid (∀ wy, Below W.heap.size W wy → ∀ j u, (#[.string ⟨#[101]⟩, .int .i64 9, .int .i64 0, .int .i64 0, .string ⟨#[]⟩, .bool false, .slice none 0 0, .slice none 0 0, .slice a4 N c4] : Array Value)[j]? = some u → wy.cell? ⟨b + 3, 0 + j, none⟩ = some u) := fun wy hb j u hj => by rw [Nat.zero_add]; exact keep_below hb _ _ (blk_cell (HS.out.hb 4 (by decide) (by decide)) hj)
          have HV := hide (Sev.start HS.out (by have := HN64.out; omega))
          have HBV := hide (HS.out.bl.trans ((below7 W (.cells (eB 1 (.slice a1 N c1)) 29) (.cells (eB 2 (.slice a2 N c2)) 29) (.cells (eB 3 (.slice a3 N c3)) 29) (.cells (eB 4 (.slice a4 N c4)) 29) (.cells #[.string (lng N), .int .i64 2, .int .i64 0, .int .i64 0, .string ⟨#[]⟩, .bool false, .slice none 0 0, .slice none 0 0, .slice none 0 0] 29) (.cells #[.slice a0 N c0, .slice (some ⟨W.heap.size, 0, none⟩) 1 1, .slice (some ⟨W.heap.size + 1, 0, none⟩) 1 1, .slice (some ⟨W.heap.size + 1 + 1, 0, none⟩) 1 1, .slice (some ⟨W.heap.size + 1 + 1 + 1, 0, none⟩) 1 1, .slice (some ⟨W.heap.size + 1 + 1 + 1 + 1, 0, none⟩) 1 1] 22) (.cells #[.int .i64 110, .int .i64 115, .int .i64 115, .int .i64 116, .int .i64 116, .int .i64 111] 3)).mono HS.out.bl.size))
          unfold eB at HV HBV
          have HIT := hide infoTp
          have HAT : Hid (∀ w, (isAgg 29).run Tryd.prog w = .ok true w) := aggTp
          have HQ0 : Hid (Below W.heap.size W W) := Below.refl _ _
          have HQ1 : Hid (∀ o1, Below W.heap.size W (W.alloc o1)) := fun o1 => below_alloc4 W o1
          have HQ2 : Hid (∀ o1 o2, Below W.heap.size W ((W.alloc o1).alloc o2)) := fun o1 o2 => (below_alloc4 W o1).alloc (below_alloc4 W o1).size o2
          have HQ3 : Hid (∀ o1 o2 o3, Below W.heap.size W (((W.alloc o1).alloc o2).alloc o3)) := fun o1 o2 o3 => ((below_alloc4 W o1).alloc (below_alloc4 W o1).size o2).alloc ((below_alloc4 W o1).alloc (below_alloc4 W o1).size o2).size o3
          clear HS hi hlt
          go_wp2_with (first
            | (refine wpList_aggAt rfl rfl HIT.out HAT.out b 0 #[.string ⟨#[115]⟩, .int .i64 5, .int .i64 0, .int .i64 0, .string ⟨#[]⟩, .bool false, .slice a1 N c1, .slice none 0 0, .slice none 0 0] rfl rfl (HL1.out _ HQ0.out) ?_)
            | (refine wpList_aggAt rfl rfl HIT.out HAT.out (b + 1) 0 #[.string ⟨#[114]⟩, .int .i64 6, .int .i64 0, .int .i64 0, .string ⟨#[]⟩, .bool false, .slice a2 N c2, .slice none 0 0, .slice none 0 0] rfl rfl (HL2.out _ (HQ1.out _)) ?_)
            | (refine wpList_aggAt rfl rfl HIT.out HAT.out (b + 2) 0 #[.string ⟨#[107]⟩, .int .i64 7, .int .i64 0, .int .i64 0, .string ⟨#[]⟩, .bool false, .slice none 0 0, .slice a3 N c3, .slice none 0 0] rfl rfl (HL3.out _ (HQ2.out _ _)) ?_)
            | (refine wpList_aggAt rfl rfl HIT.out HAT.out (b + 3) 0 #[.string ⟨#[101]⟩, .int .i64 9, .int .i64 0, .int .i64 0, .string ⟨#[]⟩, .bool false, .slice none 0 0, .slice none 0 0, .slice a4 N c4] rfl rfl (HL4.out _ (HQ3.out _ _ _)) ?_))
          clear g1 HL1 HL2 HL3 HL4 HQ0 HQ1 HQ2 HQ3 HIT HAT
          generalize ((((((W.alloc (.cells #[.string ⟨#[115]⟩, .int .i64 5, .int .i64 0, .int .i64 0, .string ⟨#[]⟩, .bool false, .slice a1 N c1, .slice none 0 0, .slice none 0 0] 29)).alloc (.cells #[.string ⟨#[114]⟩, .int .i64 6, .int .i64 0, .int .i64 0, .string ⟨#[]⟩, .bool false, .slice a2 N c2, .slice none 0 0, .slice none 0 0] 29)).alloc (.cells #[.string ⟨#[107]⟩, .int .i64 7, .int .i64 0, .int .i64 0, .string ⟨#[]⟩, .bool false, .slice none 0 0, .slice a3 N c3, .slice none 0 0] 29)).alloc (.cells #[.string ⟨#[101]⟩, .int .i64 9, .int .i64 0, .int .i64 0, .string ⟨#[]⟩, .bool false, .slice none 0 0, .slice none 0 0, .slice a4 N c4] 29)).alloc (.cells #[.string (lng N), .int .i64 2, .int .i64 0, .int .i64 0, .string ⟨#[]⟩, .bool false, .slice none 0 0, .slice none 0 0, .slice none 0 0] 29)).alloc (.cells #[.slice a0 N c0, .slice (some ⟨W.heap.size, 0, none⟩) 1 1, .slice (some ⟨W.heap.size + 1, 0, none⟩) 1 1, .slice (some ⟨W.heap.size + 1 + 1, 0, none⟩) 1 1, .slice (some ⟨W.heap.size + 1 + 1 + 1, 0, none⟩) 1 1, .slice (some ⟨W.heap.size + 1 + 1 + 1 + 1, 0, none⟩) 1 1] 22)).alloc (.cells #[.int .i64 110, .int .i64 115, .int .i64 115, .int .i64 116, .int .i64 116, .int .i64 111] 3) = X at *
          generalize s6 (Value.slice a0 N c0) (.slice (some ⟨W.heap.size, 0, none⟩) 1 1) (.slice (some ⟨W.heap.size + 1, 0, none⟩) 1 1) (.slice (some ⟨W.heap.size + 1 + 1, 0, none⟩) 1 1) (.slice (some ⟨W.heap.size + 1 + 1 + 1, 0, none⟩) 1 1) (.slice (some ⟨W.heap.size + 1 + 1 + 1 + 1, 0, none⟩) 1 1) = vs at *
          generalize W.heap.size + 1 + 1 + 1 + 1 + 1 + 1 = E at *
          generalize W.heap.size + 1 + 1 + 1 + 1 + 1 = R at *
          go_loopw [12] (fun vi wx => ∃ i : Nat, i ≤ 6 ∧ vi = .int .i64 (i : Nat) ∧ Hid (Sev N R E vs wx) ∧ Hid (Below w.heap.size w wx)) (fun vi _ => 6 - (intOf vi).toNat)
          case atStart => exact ⟨0, by omega, rfl, HV, HBV⟩
          case round =>
            rename World => wz
            clear HV HBV
            obtain ⟨i, hi, rfl, HV, HBV⟩ := hrel
            by_cases hlt : i < 6
            · have g2 : (i : Int) < 6 := by omega
              obtain ⟨k1, k2⟩ := HV.out.cell hlt
              obtain ⟨x, hx⟩ : ∃ x, x = vs i := ⟨_, rfl⟩
              obtain ⟨m, hm⟩ : ∃ m, m = ende i := ⟨_, rfl⟩
              have HC : Hid (∀ q : Nat, q = (if N = 65 then m else 0) → Calls Tryd.prog 15 #[x] wz fun e w' => e = .returned (.tuple #[.int .i64 (q : Nat), .int .i64 0]) ∧ Below wz.heap.size wz w') := fun q hq => by
                have h := check11_any wz (HT.out wz HBV.out) (HO.out wz HBV.out) (vs i) _ (HV.out.t i hlt) (end_shrt N i (by have := HN64.out; omega) _ hlt)
                rw [end_chk N i HN64.out hlt, ← hm, ← hx, ← hq] at h
                exact h
              rw [← hx] at k1
              rw [← hm] at k2
              have HI := hide hlt
              clear hx hm hlt hi
              by_cases h65 : N = 65
              · have g65 : ((N : Int) == 65) = true := by rw [beq_iff_eq]; omega
                have HC2 := hide (HC.out m (by rw [if_pos h65]))
                clear h65 HC
                go_wp2_with fail
                refine HC2.out.mono ?_
                rintro e w5 ⟨rfl, hb5⟩
                have HV5 := hide (HV.out.next hb5)
                have HB5 : Hid (Below w.heap.size w w5) := HBV.out.trans (hb5.mono HBV.out.size)
                clear HC2 hb5 HV HBV k1 k2
                go_wp2_with (first
                  | (go_at_call 9
                     refine (HNU.out _ _).mono ?_
                     rintro e w6 ⟨rfl, rfl⟩))
                go_roundw
                case rel => exact ⟨i + 1, HI.out, by go_num, HV5, HB5⟩
                case measure => have := HI.out; simp [intOf]; omega
              · have g65 : ((N : Int) == 65) = false := by rw [beq_eq_false_iff_ne]; omega
                have HC2 := hide (HC.out 0 (by rw [if_neg h65]))
                clear h65 HC k2
                go_wp2_with fail
                refine HC2.out.mono ?_
                rintro e w5 ⟨rfl, hb5⟩
                have HV5 := hide (HV.out.next hb5)
                have HB5 : Hid (Below w.heap.size w w5) := HBV.out.trans (hb5.mono HBV.out.size)
                clear HC2 hb5 HV HBV k1
                go_wp2_with (first
                  | (go_at_call 9
                     refine (HNU.out _ _).mono ?_
                     rintro e w6 ⟨rfl, rfl⟩))
                go_roundw
                case rel => exact ⟨i + 1, HI.out, by go_num, HV5, HB5⟩
                case measure => have := HI.out; simp [intOf]; omega
            · have g2 : ¬ (i : Int) < 6 := by omega
              have z1 := lng_size N
              have z2 : N < 100 := by have := HN64.out; omega
              go_wp2_with fail
              go_roundw
              case rel =>
                repeat (first | exact ⟨⟨N + 1, by have := HN64.out; omega, by rw [← lng_succ], by go_num, HBV⟩, rfl⟩ | apply Exists.intro)
              case measure => have := HN64.out; simp [intOf]; omega
end
section
open Go.RowKit Go
theorem acc_eq : (Rows.laid_unicode_utf8_acceptRanges : DataW Unit) = Lib.acceptData := by kernel_rfl
theorem fst_eq : Rows.laid_unicode_utf8_first = Lib.firstData := by kernel_rfl
end
section
open Go.ChangeShapes Go.WideShapes Go.ChangeAt Go.RowKit Go Go.Lib
theorem biN : Tryd.prog.globalNamed "trellis/schema.builtIn" = some 0 := by kernel_rfl
theorem biT : (Tryd.prog.globals[0]?).map (·.type) = some 87 := by kernel_rfl
theorem biC : Tryd.prog.cellsOf 86 = 2 := by kernel_rfl
theorem biS : Tryd.prog.cellsOf 9 = 1 := by kernel_rfl
theorem biI : Tryd.prog.cellsOf 3 = 1 := by kernel_rfl
def biD : List (DataW Unit) := owns.map fun p => .agg [.lit (.string p.1.data.toList), .lit (.int .i64 (p.2 : Nat))]
theorem bi_eq : (Rows.laid_trellis_schema_builtIn : DataW Unit) = .agg biD := by kernel_rfl
theorem ocs_at : ∀ (i : Nat) (p : ByteArray × Nat), owns[i]? = some p → ocs[2 * i]? = some (.string p.1) ∧ ocs[2 * i + 1]? = some (.int .i64 (p.2 : Nat)) := fun i p h => by
  rcases i with _ | _ | _ | _ | _ | _ | _ | _ | _ | i
  all_goals first
    | (obtain rfl := Option.some.inj h; exact ⟨rfl, rfl⟩)
    | (simp [owns] at h)
theorem otb_of_reads {w : World} (h : VarReads Tryd.prog w "trellis/schema.builtIn" (.agg biD)) : Otb w := by
  obtain ⟨g, t, cs, fuel, p, hg, hty, hvar, hd⟩ := h
  obtain rfl := Option.some.inj (biN.symm.trans hg)
  obtain rfl := Option.some.inj (biT.symm.trans hty)
  have key : ∀ i q, owns[i]? = some q → w.cell? ⟨0, 2 * i, none⟩ = some (.string q.1) ∧ w.cell? ⟨0, 2 * i + 1, none⟩ = some (.int .i64 (q.2 : Nat)) := fun i q hq => by
    have hi : i < 9 := by have := (List.getElem?_eq_some_iff.1 hq).1; rw [owns_len] at this; exact this
    obtain ⟨fuel', d, r, hdi, he⟩ := array_elem Tryd.underlying87 hd i hi
    rw [biC] at he
    unfold biD at hdi
    rw [List.getElem?_map, hq] at hdi
    have hdi := (Option.some.inj hdi).symm
    subst hdi
    obtain ⟨y0, y1, n, hx, _, h0, h1⟩ := trod_struct2 Tryd.underlying86 he
    obtain ⟨s, e0, hy0, _⟩ := DataW.trod_string Tryd.underlying9 h0
    obtain ⟨z, e1, hy1, _⟩ := DataW.trod_int Tryd.underlying3 h1
    have hx1 := congrArg Prod.fst hx
    simp only [DataW.agg.injEq, List.cons.injEq, and_true] at hx1
    rw [hy0, hy1] at hx1
    have hs : q.1.data.toList = s.data.toList := by
      have := hx1.1
      simpa using this
    have hz : ((q.2 : Nat) : Int) = z := by
      have := hx1.2
      simpa using this
    have hs2 : s = q.1 := by
      obtain ⟨⟨l⟩⟩ := s
      obtain ⟨⟨⟨m⟩⟩, _⟩ := q
      simp only at hs
      rw [hs]
    subst hs2
    subst hz
    rw [World.var?_cell hg hvar (2 * i), World.var?_cell hg hvar (2 * i + 1), ← Array.getElem?_toList, ← Array.getElem?_toList]
    have c0 := congrArg (·[0]?) e0
    have c1 := congrArg (·[0]?) e1
    simp only [biS, biI, List.getElem?_take, List.getElem?_drop] at c0 c1
    exact ⟨by simpa [Nat.mul_comm] using c0, by simpa [Nat.mul_comm] using c1⟩
  refine ⟨fun j u hj => ?_⟩
  rw [Nat.zero_add]
  have hj18 : j < 18 := (Array.getElem?_eq_some_iff.1 hj).1
  obtain ⟨q, hq⟩ : ∃ q, owns[j / 2]? = some q := ⟨owns[j / 2]'(by rw [owns_len]; omega), List.getElem?_eq_getElem _⟩
  obtain ⟨a1, a2⟩ := key _ _ hq
  obtain ⟨b1, b2⟩ := ocs_at _ _ hq
  rcases Nat.mod_two_eq_zero_or_one j with hm | hm
  · have e : 2 * (j / 2) = j := by omega
    rw [e] at a1 b1
    rw [a1, ← hj, b1]
  · have e : 2 * (j / 2) + 1 = j := by omega
    rw [e] at a2 b2
    rw [a2, ← hj, b2]
theorem tabs11_of_laid {W : World} (h : laidMet Tryd.prog [("unicode/utf8.acceptRanges", Rows.laid_unicode_utf8_acceptRanges), ("trellis/schema.builtIn", Rows.laid_trellis_schema_builtIn), ("unicode/utf8.first", Rows.laid_unicode_utf8_first)] W) : Tabs W ∧ Otb W := by
  rw [acc_eq, fst_eq, bi_eq] at h
  exact ⟨utf8Tabs_of_readsT (U8Types.of196 Tryd.laysValid) ⟨by kernel_rfl, by kernel_rfl, by kernel_rfl, by kernel_rfl, by kernel_rfl, by kernel_rfl, by kernel_rfl⟩ (Lib.laidMet.reads h (.tail _ (.tail _ (.head _)))) (Lib.laidMet.reads h (.head _)), otb_of_reads (Lib.laidMet.reads h (.tail _ (.head _)))⟩
/-- The settled world, the three tables laid. -/
noncomputable def laidWorld11 (os : Os) : World :=
  let w0 := World.holding Tryd.prog os ⟨#[], #[], []⟩
  let put (h : Array Obj) (g : Nat) (cs : Array Value) : Array Obj := h.modify g fun
    | .cells _ t frozen => .cells cs t frozen
    | o => o
  let h1 := put w0.heap 1 (Lib.firstTab.map fun z => Value.int .u8 z).toArray
  let h2 := put h1 2 ((List.range 16).flatMap fun i => [Value.int .u8 (Lib.accLo i), Value.int .u8 (Lib.accHi i)]).toArray
  let h3 := put h2 0 ocs
  { w0 with heap := h3 }
theorem laid_met11 (os : Os) (args : Array Value) : laidMet Tryd.prog [("unicode/utf8.acceptRanges", Rows.laid_unicode_utf8_acceptRanges), ("trellis/schema.builtIn", Rows.laid_trellis_schema_builtIn), ("unicode/utf8.first", Rows.laid_unicode_utf8_first)] ((laidWorld11 os).forCall (fun _ _ => 0) ⟨#[], args, []⟩).memory := by
  rw [acc_eq, fst_eq]
  exact (LaidIn.of_run (l := [("unicode/utf8.acceptRanges", Lib.acceptData), ("trellis/schema.builtIn", Rows.laid_trellis_schema_builtIn), ("unicode/utf8.first", Lib.firstData)]) [2, 0, 1] 8 (by kernel_rfl) (by kernel_rfl) (by kernel_rfl) (by kernel_rfl)).met
end
end Go.Proofs.YtnpjmanagecpkaaDoor

import Derived.Test.YtdejcapbggjjgaaGreatDoorJj
import Derived.Laws.ResultCell
import Derived.Deep.LoopGhost
import Derived.Deep.DeepCutAuto
namespace Go.Proofs.YtdejcapbggjjgaaGreatDoor
section
open Go.RowKit
theorem below_set {A : Nat} {w wc : World} (h : Below A w wc) (b j : Nat) (hb : A ≤ b) (v : Value) : Below A w (wc.setCell ⟨b, j, none⟩ v) := h.setCell hb v

theorem u64_step (N y : Nat) (hN : N < 72057594037927936) (hy : y < 256) : IntKind.u64.wrap (IntKind.u64.wrap (256 * (N : Int)) + IntKind.u64.wrap (y : Int)) = ((256 * N + y : Nat) : Int) := by
  simp only [IntKind.wrap_u64]
  omega

/-- The block of a head in memory. -/
def RH (w : World) (P : Nat) (m i n u : Nat) (s : Bool) : Prop := w.heap[P]? = some (.cells #[.int .i64 (m : Nat), .int .i64 (i : Nat), .int .u64 (n : Nat), .int .i64 (u : Nat), .bool s] 99 (0, 0))

theorem rh_used {w : World} {P m i n s : Nat} (h : RH w P m i n 1 false) : RH (w.setCell ⟨P, 3, none⟩ (.int .i64 (1 + (s : Int)))) P m i n (1 + s) false := by
  have h2 := blk_set 3 (.int .i64 (1 + (s : Int))) h
  have e : (1 + (s : Int)) = ((1 + s : Nat) : Int) := by omega
  rw [e] at h2 ⊢
  exact h2

set_option maxRecDepth 1000000 in
set_option maxHeartbeats 4000000 in
theorem refRead_any (w : World) (v : Value) (xs : List Nat) (hsl : BSl w v xs) :
    Calls Tryz.prog 88 #[v] w fun e w' => e = .returned (.tuple #[(hrd xs).val, .int .i64 ((hrd xs).e : Nat)]) ∧ Below w.heap.size w w' := by
  obtain ⟨⟨a, cap, rfl, hn, hc⟩, hmax, hb⟩ := hsl
  match xs with
  | [] =>
    go_enter Tryz.func88, Tryz.ntmps88
    go_wp2
    refine bodyPost_ret ((results_cell_tmp rfl _ _ _).trans (by go_simp; exact ⟨rfl, rfl⟩)) rfl ⟨rfl, ?_⟩
    exact (Below.refl _ _).alloc (Nat.le_refl _) _
  | x :: r =>
    rcases hc with hc | ⟨b, off, rfl, hc⟩
    · cases hc
    have c0 : w.cell? ⟨b, off, none⟩ = some (.int .u8 ((x : Nat) : Int)) := hc 0 (by simp)
    have hx : x < 256 := hb x (by simp)
    have HX := hide hx
    have hbA : b < w.heap.size := World.block_lt_of_cell? w _ c0
    have HC := hide hc
    have HB := hide hb
    have hlen : ((x :: r).length : Int) = (r.length : Int) + 1 := by simp
    have hl0 : 0 < (x :: r).length := by simp
    generalize hL : (x :: r).length = L at *
    have HL := hide hL
    clear hL hc hb hn
    have c1 := keep_alloc w (.cells #[.int .i64 0, .int .i64 0, .int .u64 0, .int .i64 0, .bool false] 99) _ _ c0
    have b1 := heap_alloc_new w (.cells #[.int .i64 0, .int .i64 0, .int .u64 0, .int .i64 0, .bool false] 99)
    have l1 : Below w.heap.size w (w.alloc (.cells #[.int .i64 0, .int .i64 0, .int .u64 0, .int .i64 0, .bool false] 99)) := (Below.refl _ _).alloc (Nat.le_refl _) _
    go_enter Tryz.func88, Tryz.ntmps88
    go_wp2
    generalize w.alloc (.cells #[.int .i64 0, .int .i64 0, .int .u64 0, .int .i64 0, .bool false] 99) = w1 at *
    have hlt1 : b < w1.heap.size := World.block_lt_of_cell? w1 _ c1
    have hne1 : ¬ b = w1.heap.size := by omega
    have hne2 : ¬ w1.heap.size = b := by omega
    have HL1 := hide l1
    have HB1 := hide b1
    clear l1 b1
    go_cut [4] (fun p wx => p = .pointer (some ⟨w1.heap.size, 0, none⟩) ∧ RH wx w1.heap.size (x / 32) (x % 32) 0 1 false ∧ Below w1.heap.size w1 wx)
    case first =>
      go_region
      all_goals
        go_wp2_with fail
        go_meet
        case rel =>
          refine ⟨rfl, ?_, ((Below.refl _ _).alloc (Nat.le_refl _) _).drew⟩
          have e1 : (x : Int) / 32 = ((x / 32 : Nat) : Int) := by omega
          have e2 : (x : Int) % 32 = ((x % 32 : Nat) : Int) := by omega
          rw [e1, e2]
          exact heap_alloc_new w1 _
    case rest =>
      obtain ⟨rfl, hrh, hbl⟩ := hcut
      have HRH := hide hrh
      have HBL := hide hbl
      have hA : w.heap.size < w1.heap.size := blk_lt HB1.out
      have HRES : Hid (wc.heap[w.heap.size]? = some (.cells #[.int .i64 0, .int .i64 0, .int .u64 0, .int .i64 0, .bool false] 99 (0, 0))) := (hbl.block _ hA).trans HB1.out
      have HBW : Hid (Below w.heap.size w wc) := HL1.out.trans (hbl.mono (Nat.le_of_lt hA))
      have HCW : Hid (∀ j, j < L → wc.cell? ⟨b, off + j, none⟩ = some (.int .u8 (((x :: r).getD j 0 : Nat) : Int))) := fun j hj => keep_below HBW.out _ _ (HC.out j hj)
      have hm8 : x / 32 ≤ 7 := by omega
      have hi32 : x % 32 ≤ 31 := by omega
      generalize hM : x / 32 = m at *
      generalize hI : x % 32 = i at *
      have HM := hide hM
      have HI := hide hI
      clear hM hI hrh hbl c0 c1 hne1 hne2 hlt1 HB1 HL1
      generalize w1.heap.size = P at *
      generalize hAA : w.heap.size = A at *
      have HAA := hide hAA
      clear hAA
      have q0 : wc.cell? ⟨P, 0, none⟩ = some (.int .i64 (m : Nat)) := blk_cell HRH.out rfl
      have q1 : wc.cell? ⟨P, 1, none⟩ = some (.int .i64 (i : Nat)) := blk_cell HRH.out rfl
      have r0 : wc.cell? ⟨A, 0, none⟩ = some (.int .i64 0) := blk_cell HRES.out rfl
      have r1 : wc.cell? ⟨A, 1, none⟩ = some (.int .i64 0) := blk_cell HRES.out rfl
      have r2 : wc.cell? ⟨A, 2, none⟩ = some (.int .u64 0) := blk_cell HRES.out rfl
      have r3 : wc.cell? ⟨A, 3, none⟩ = some (.int .i64 0) := blk_cell HRES.out rfl
      have r4 : wc.cell? ⟨A, 4, none⟩ = some (.bool false) := blk_cell HRES.out rfl
      have f0 := blk_frozen 0 HRES.out
      have f1 := blk_frozen 1 HRES.out
      have f2 := blk_frozen 2 HRES.out
      have f3 := blk_frozen 3 HRES.out
      have f4 := blk_frozen 4 HRES.out
      by_cases h27 : 27 < i
      · have h27' : (27 : Int) < (i : Int) := by omega
        by_cases h31 : i = 31
        · subst h31
          by_cases hm0 : m = 0 ∨ m = 1 ∨ m = 6
          · have HE : Hid (hrd (x :: r) = .bad 21) := hrd_info (by have := HI.out; omega) (by have := HM.out; omega)
            rcases hm0 with rfl | rfl | rfl
            · go_wp2
              refine bodyPost_ret (v := .tuple #[(HR.bad 21).val, .int .i64 21]) ((results_cell_tmp rfl _ _ _).trans (by go_simp; rfl)) rfl ⟨by rw [HE.out]; rfl, ?_⟩
              rw [HAA.out]
              repeat (refine below_set ?_ _ _ (by first | exact Nat.le_refl _ | exact Nat.le_of_lt hA) _)
              exact HBW.out
            · go_wp2
              refine bodyPost_ret (v := .tuple #[(HR.bad 21).val, .int .i64 21]) ((results_cell_tmp rfl _ _ _).trans (by go_simp; rfl)) rfl ⟨by rw [HE.out]; rfl, ?_⟩
              rw [HAA.out]
              repeat (refine below_set ?_ _ _ (by first | exact Nat.le_refl _ | exact Nat.le_of_lt hA) _)
              exact HBW.out
            · go_wp2
              refine bodyPost_ret (v := .tuple #[(HR.bad 21).val, .int .i64 21]) ((results_cell_tmp rfl _ _ _).trans (by go_simp; rfl)) rfl ⟨by rw [HE.out]; rfl, ?_⟩
              rw [HAA.out]
              repeat (refine below_set ?_ _ _ (by first | exact Nat.le_refl _ | exact Nat.le_of_lt hA) _)
              exact HBW.out
          · have HE : Hid (hrd (x :: r) = ⟨m, 31, 0, 1, true, 0⟩) := by have h := hrd_end (x := x) (r := r) HI.out (by have := HM.out; omega); rw [HM.out] at h; exact h
            have g0 : ((m : Int) != 0) = true := bne_iff_ne.2 (by omega)
            have g1 : ((m : Int) != 1) = true := bne_iff_ne.2 (by omega)
            have g6 : ((m : Int) != 6) = true := bne_iff_ne.2 (by omega)
            have hAP : ¬ A = P := by omega
            have hPA : ¬ P = A := by omega
            have q2 : wc.cell? ⟨P, 2, none⟩ = some (.int .u64 0) := blk_cell HRH.out rfl
            have q3 : wc.cell? ⟨P, 3, none⟩ = some (.int .i64 1) := blk_cell HRH.out rfl
            have q4 : wc.cell? ⟨P, 4, none⟩ = some (.bool false) := blk_cell HRH.out rfl
            have p4 := blk_frozen 4 HRH.out
            go_wp2
            refine bodyPost_ret (v := .tuple #[HR.val ⟨m, 31, 0, 1, true, 0⟩, .int .i64 0]) ((results_cell_tmp rfl _ _ _).trans (by go_simp; rfl)) rfl ⟨by rw [HE.out]; rfl, ?_⟩
            rw [HAA.out]
            repeat (refine below_set ?_ _ _ (by first | exact Nat.le_refl _ | exact Nat.le_of_lt hA) _)
            exact HBW.out
        · have h31' : ((i : Int) == 31) = false := beq_eq_false_iff_ne.2 (by omega)
          have HE : Hid (hrd (x :: r) = .bad 21) := hrd_info (by have := HI.out; omega) (by have := HI.out; omega)
          go_wp2
          refine bodyPost_ret (v := .tuple #[(HR.bad 21).val, .int .i64 21]) ((results_cell_tmp rfl _ _ _).trans (by go_simp; rfl)) rfl ⟨by rw [HE.out]; rfl, ?_⟩
          rw [HAA.out]
          repeat (refine below_set ?_ _ _ (by first | exact Nat.le_refl _ | exact Nat.le_of_lt hA) _)
          exact HBW.out
      · have h27' : ¬ (27 : Int) < (i : Int) := by omega
        have hAP : ¬ A = P := by omega
        have hPA : ¬ P = A := by omega
        have q2 : wc.cell? ⟨P, 2, none⟩ = some (.int .u64 0) := blk_cell HRH.out rfl
        have q3 : wc.cell? ⟨P, 3, none⟩ = some (.int .i64 1) := blk_cell HRH.out rfl
        have q4 : wc.cell? ⟨P, 4, none⟩ = some (.bool false) := blk_cell HRH.out rfl
        have p2 := blk_frozen 2 HRH.out
        have p3 := blk_frozen 3 HRH.out
        have p4 := blk_frozen 4 HRH.out
        by_cases h24 : i < 24
        · have h24' : (i : Int) < 24 := by omega
          have HE : Hid (hrd (x :: r) = ⟨m, i, i, 1, true, 0⟩) := by have h := hrd_small (x := x) (r := r) (by have := HI.out; omega); rw [HM.out, HI.out] at h; exact h
          go_wp2
          refine bodyPost_ret (v := .tuple #[HR.val ⟨m, i, i, 1, true, 0⟩, .int .i64 0]) ((results_cell_tmp rfl _ _ _).trans (by go_simp; rfl)) rfl ⟨by rw [HE.out]; rfl, ?_⟩
          rw [HAA.out]
          repeat (refine below_set ?_ _ _ (by first | exact Nat.le_refl _ | exact Nat.le_of_lt hA) _)
          exact HBW.out
        · have h24' : ¬ (i : Int) < 24 := by omega
          go_wp2
          go_loopw [6, 7] (fun sz k wr => ∃ j s : Nat, 24 + j ≤ i ∧ Hid (s = 2 ^ j) ∧ k = .int .i64 (24 + (j : Int)) ∧ sz = .int .i64 (s : Int) ∧ wr = wc) (fun _ k _ => ((i : Int) - intOf k).toNat)
          case atStart => exact ⟨0, 1, by omega, rfl, rfl, rfl, rfl⟩
          case round =>
            obtain ⟨j, s, hj, hs, rfl, rfl, rfl⟩ := hrel
            have hs8 := pow_le8g (by omega) hs.out
            by_cases hlt : 24 + j < i
            · have hlt' : 24 + (j : Int) < (i : Int) := by omega
              have HS2 : Hid (2 * s = 2 ^ (j + 1)) := by show _ = _; rw [hs.out, Nat.pow_succ]; omega
              go_wp2
              go_roundw
              case rel => exact ⟨j + 1, 2 * s, by omega, HS2, by go_num, by go_num, trivial⟩
              case measure => simp [intOf]; omega
            · have hlt' : ¬ 24 + (j : Int) < (i : Int) := by omega
              have hij : i = 24 + j := by omega
              have HW : Hid (hwide i = s) := by
                show _ = _
                rw [hij, hs.out]
                have h3 : j ≤ 3 := by omega
                match j, h3 with
                | 0, _ => rfl
                | 1, _ => rfl
                | 2, _ => rfl
                | 3, _ => rfl
              have hs1 : 1 ≤ s := by rw [hs.out]; exact Nat.pow_pos (by decide)
              by_cases hsh : r.length < s
              · have hsh' : (L : Int) < 1 + (s : Int) := by omega
                have HE : Hid (hrd (x :: r) = .bad 20) := hrd_short (by have := HI.out; omega) (by have := HI.out; omega) (by rw [HI.out, HW.out]; exact hsh)
                go_wp2
                refine bodyPost_ret (v := .tuple #[(HR.bad 20).val, .int .i64 20]) ((results_cell_tmp rfl _ _ _).trans (by go_simp; rfl)) rfl ⟨by rw [HE.out]; rfl, ?_⟩
                rw [HAA.out]
                repeat (refine below_set ?_ _ _ (by first | exact Nat.le_refl _ | exact Nat.le_of_lt hA) _)
                exact HBW.out
              · have hsh' : ¬ (L : Int) < 1 + (s : Int) := by omega
                go_wp2
                clear q2 q3 q4 p2 p3 p4 q0 q1 r0 r1 r2 r3 r4 f0 f1 f2 f3 f4
                obtain ⟨w5, rfl⟩ : ∃ w5, w5 = wr := ⟨_, rfl⟩
                go_loopw [8] (fun k wx => ∃ j : Nat, 1 ≤ j ∧ j ≤ s + 1 ∧ k = .int .i64 (j : Int) ∧ Hid (RH wx P m i (bnum 0 (r.take (j - 1))) 1 false) ∧ Hid (Kp (fun q => q = P) w5 wx)) (fun k _ => ((s : Int) + 1 - intOf k).toNat)
                case atStart => exact ⟨1, by omega, by omega, rfl, HRH, Kp.refl _ _⟩
                case round =>
                  obtain ⟨t, ht1, hts, rfl, HR2, HK2⟩ := hrel
                  have q2 : wr.cell? ⟨P, 2, none⟩ = some (.int .u64 (bnum 0 (r.take (t - 1)) : Nat)) := blk_cell HR2.out rfl
                  have p2 := blk_frozen 2 HR2.out
                  by_cases hlt2 : t ≤ s
                  · have hlt2' : (t : Int) ≤ (s : Int) := by omega
                    have cb : wr.cell? ⟨b, off + t, none⟩ = some (.int .u8 (((x :: r).getD t 0 : Nat) : Int)) := HK2.out.cell (HCW.out t (by omega)) (by show ¬ b = P; omega)
                    have hyy : (x :: r).getD t 0 = r.getD (t - 1) 0 := by
                      cases t with
                      | zero => omega
                      | succ t' => rfl
                    have hy : (x :: r).getD t 0 < 256 := getD_lt HB.out t
                    have hNl : bnum 0 (r.take (t - 1)) < 72057594037927936 := by
                      have h1 := bnum_lt (r.take (t - 1)) 0 (fun z hz => HB.out z (List.mem_cons_of_mem _ (List.mem_of_mem_take hz)))
                      have h2 : (r.take (t - 1)).length ≤ 7 := by rw [List.length_take]; omega
                      have h3 : 256 ^ (r.take (t - 1)).length ≤ 256 ^ 7 := Nat.pow_le_pow_right (by decide) h2
                      simp at h1 h3; omega
                    have hst : r.take (t + 1 - 1) = r.take (t - 1) ++ [r.getD (t - 1) 0] := by
                      rw [← take_snoc r (t - 1) (by omega)]
                      congr 1; omega
                    have HST : Hid (bnum 0 (r.take (t + 1 - 1)) = 256 * bnum 0 (r.take (t - 1)) + (x :: r).getD t 0) := by
                      show _ = _
                      rw [hst, bnum_snoc, hyy]
                    have HU : Hid _ := hide (u64_step _ _ hNl hy)
                    clear hst hyy hy hNl
                    generalize bnum 0 (r.take (t - 1)) = N at *
                    generalize (x :: r).getD t 0 = y at *
                    go_wp2
                    go_region_with (fail)
                    all_goals
                      rw [HU.out]
                      go_wp2
                      go_roundw
                      case rel => exact ⟨t + 1, by omega, by omega, by go_num, by rw [HST.out]; exact blk_set 2 _ HR2.out, (HK2.out.setCell _ _ (fun _ => rfl)).drew⟩
                      case measure => simp [intOf]; omega
                  · have hlt2' : ¬ (t : Int) ≤ (s : Int) := by omega
                    have hts' : t - 1 = s := by omega
                    rw [hts'] at HR2 q2
                    have hN : bnum 0 (r.take s) < 18446744073709551616 := by
                      have h1 := bnum_lt (r.take s) 0 (fun z hz => HB.out z (List.mem_cons_of_mem _ (List.mem_of_mem_take hz)))
                      have h2 : (r.take s).length ≤ 8 := by rw [List.length_take]; omega
                      have h3 : 256 ^ (r.take s).length ≤ 256 ^ 8 := Nat.pow_le_pow_right (by decide) h2
                      simp at h1 h3; omega
                    have HLOW := hide (fun h1 h2 h3 h4 => hrd_low (x := x) (r := r) h1 h2 h3 h4)
                    have HLNG := hide (fun h1 h2 h3 h4 => hrd_long (x := x) (r := r) h1 h2 h3 h4)
                    rw [HI.out, HM.out, HW.out] at HLOW HLNG
                    have HNN := hide hN
                    generalize bnum 0 (r.take s) = N at *
                    clear hN hts'
                    have HRES2 := hide ((HK2.out.block A (blk_lt HRES.out) (fun h => hAP h)).trans HRES.out)
                    have q0 : wr.cell? ⟨P, 0, none⟩ = some (.int .i64 (m : Nat)) := blk_cell HR2.out rfl
                    have q1 : wr.cell? ⟨P, 1, none⟩ = some (.int .i64 (i : Nat)) := blk_cell HR2.out rfl
                    have q3 : wr.cell? ⟨P, 3, none⟩ = some (.int .i64 1) := blk_cell HR2.out rfl
                    have q4 : wr.cell? ⟨P, 4, none⟩ = some (.bool false) := blk_cell HR2.out rfl
                    have p3 := blk_frozen 3 HR2.out
                    have p4 := blk_frozen 4 HR2.out
                    have r0 : wr.cell? ⟨A, 0, none⟩ = some (.int .i64 0) := blk_cell HRES2.out rfl
                    have r1 : wr.cell? ⟨A, 1, none⟩ = some (.int .i64 0) := blk_cell HRES2.out rfl
                    have r2 : wr.cell? ⟨A, 2, none⟩ = some (.int .u64 0) := blk_cell HRES2.out rfl
                    have r3 : wr.cell? ⟨A, 3, none⟩ = some (.int .i64 0) := blk_cell HRES2.out rfl
                    have r4 : wr.cell? ⟨A, 4, none⟩ = some (.bool false) := blk_cell HRES2.out rfl
                    have f0 := blk_frozen 0 HRES2.out
                    have f1 := blk_frozen 1 HRES2.out
                    have f2 := blk_frozen 2 HRES2.out
                    have f3 := blk_frozen 3 HRES2.out
                    have f4 := blk_frozen 4 HRES2.out
                    have HBX : Hid (Below A w wr) := HBW.out.trans (HK2.out.below (Nat.le_of_lt (blk_lt HRES.out)) (fun q h => by omega))
                    clear hij hj hlt hlt'
                    have HR4 := hide (rh_used (s := s) HR2.out)
                    have HA4 : Hid ((wr.setCell ⟨P, 3, none⟩ (.int .i64 (1 + (s : Int)))).heap[A]? = some (.cells #[.int .i64 0, .int .i64 0, .int .u64 0, .int .i64 0, .bool false] 99 (0, 0))) := blk_other 3 _ HRES2.out hAP
                    have HB4 : Hid (Below A w (wr.setCell ⟨P, 3, none⟩ (.int .i64 (1 + (s : Int))))) := below_set HBX.out _ _ (Nat.le_of_lt hA) _
                    by_cases hm7 : m = 7
                    · subst hm7
                      by_cases hi24 : i = 24
                      · by_cases hN32 : N < 32
                        · have hN32' : (N : Int) < 32 := by omega
                          have HE := hide (HLOW.out hi24 (by omega) rfl hN32)
                          subst hi24
                          go_wp2
                          refine bodyPost_ret (v := .tuple #[(HR.bad 21).val, .int .i64 21]) ((results_cell_tmp rfl _ _ _).trans (by go_simp; rfl)) rfl ⟨by rw [HE.out]; rfl, ?_⟩
                          rw [HAA.out]
                          repeat (refine below_set ?_ _ _ (by first | exact Nat.le_refl _ | exact Nat.le_of_lt hA) _)
                          exact HBX.out
                        · have hN32' : ¬ (N : Int) < 32 := by omega
                          have HE : Hid (hrd (x :: r) = ⟨7, 24, N, 1 + s, true, 0⟩) := by have h := HLNG.out (by omega) (by omega) (by omega) (by omega); rw [decide_eq_true rfl, Bool.true_or, hi24] at h; exact h
                          subst hi24
                          go_wp2
                          generalize wr.setCell ⟨P, 3, none⟩ (.int .i64 (1 + (s : Int))) = w4 at *
                          clear q0 q1 q2 q3 q4 p2 p3 p4 r0 r1 r2 r3 r4 f0 f1 f2 f3 f4
                          have q0 : w4.cell? ⟨P, 0, none⟩ = some (.int .i64 7) := blk_cell HR4.out rfl
                          have q1 : w4.cell? ⟨P, 1, none⟩ = some (.int .i64 24) := blk_cell HR4.out rfl
                          have q2 : w4.cell? ⟨P, 2, none⟩ = some (.int .u64 (N : Nat)) := blk_cell HR4.out rfl
                          have q3 : w4.cell? ⟨P, 3, none⟩ = some (.int .i64 (1 + s : Nat)) := blk_cell HR4.out rfl
                          have q4 : w4.cell? ⟨P, 4, none⟩ = some (.bool false) := blk_cell HR4.out rfl
                          have p4 := blk_frozen 4 HR4.out
                          have r0 : w4.cell? ⟨A, 0, none⟩ = some (.int .i64 0) := blk_cell HA4.out rfl
                          have r1 : w4.cell? ⟨A, 1, none⟩ = some (.int .i64 0) := blk_cell HA4.out rfl
                          have r2 : w4.cell? ⟨A, 2, none⟩ = some (.int .u64 0) := blk_cell HA4.out rfl
                          have r3 : w4.cell? ⟨A, 3, none⟩ = some (.int .i64 0) := blk_cell HA4.out rfl
                          have r4 : w4.cell? ⟨A, 4, none⟩ = some (.bool false) := blk_cell HA4.out rfl
                          have f0 := blk_frozen 0 HA4.out
                          have f1 := blk_frozen 1 HA4.out
                          have f2 := blk_frozen 2 HA4.out
                          have f3 := blk_frozen 3 HA4.out
                          have f4 := blk_frozen 4 HA4.out
                          go_region
                          all_goals
                            go_wp2
                            refine bodyPost_ret (v := .tuple #[HR.val ⟨7, 24, N, 1 + s, true, 0⟩, .int .i64 0]) ((results_cell_tmp rfl _ _ _).trans (by rw [HR.val]; go_simp)) rfl ⟨by rw [HE.out]; rfl, ?_⟩
                            rw [HAA.out]
                            refine Below.drew ?_
                            repeat (refine below_set ?_ _ _ (by first | exact Nat.le_refl _ | exact Nat.le_of_lt hA) _)
                            exact HB4.out
                      · have hi24' : ((i : Int) == 24) = false := beq_eq_false_iff_ne.2 (by omega)
                        have HE : Hid (hrd (x :: r) = ⟨7, i, N, 1 + s, true, 0⟩) := by have h := HLNG.out (by omega) (by omega) (by omega) (by omega); rw [decide_eq_true rfl, Bool.true_or] at h; exact h
                        go_wp2
                        generalize wr.setCell ⟨P, 3, none⟩ (.int .i64 (1 + (s : Int))) = w4 at *
                        clear q0 q1 q2 q3 q4 p2 p3 p4 r0 r1 r2 r3 r4 f0 f1 f2 f3 f4
                        have q0 : w4.cell? ⟨P, 0, none⟩ = some (.int .i64 7) := blk_cell HR4.out rfl
                        have q1 : w4.cell? ⟨P, 1, none⟩ = some (.int .i64 (i : Nat)) := blk_cell HR4.out rfl
                        have q2 : w4.cell? ⟨P, 2, none⟩ = some (.int .u64 (N : Nat)) := blk_cell HR4.out rfl
                        have q3 : w4.cell? ⟨P, 3, none⟩ = some (.int .i64 (1 + s : Nat)) := blk_cell HR4.out rfl
                        have q4 : w4.cell? ⟨P, 4, none⟩ = some (.bool false) := blk_cell HR4.out rfl
                        have p4 := blk_frozen 4 HR4.out
                        have r0 : w4.cell? ⟨A, 0, none⟩ = some (.int .i64 0) := blk_cell HA4.out rfl
                        have r1 : w4.cell? ⟨A, 1, none⟩ = some (.int .i64 0) := blk_cell HA4.out rfl
                        have r2 : w4.cell? ⟨A, 2, none⟩ = some (.int .u64 0) := blk_cell HA4.out rfl
                        have r3 : w4.cell? ⟨A, 3, none⟩ = some (.int .i64 0) := blk_cell HA4.out rfl
                        have r4 : w4.cell? ⟨A, 4, none⟩ = some (.bool false) := blk_cell HA4.out rfl
                        have f0 := blk_frozen 0 HA4.out
                        have f1 := blk_frozen 1 HA4.out
                        have f2 := blk_frozen 2 HA4.out
                        have f3 := blk_frozen 3 HA4.out
                        have f4 := blk_frozen 4 HA4.out
                        go_region
                        all_goals
                          go_wp2
                          refine bodyPost_ret (v := .tuple #[HR.val ⟨7, i, N, 1 + s, true, 0⟩, .int .i64 0]) ((results_cell_tmp rfl _ _ _).trans (by rw [HR.val]; go_simp)) rfl ⟨by rw [HE.out]; rfl, ?_⟩
                          rw [HAA.out]
                          refine Below.drew ?_
                          repeat (refine below_set ?_ _ _ (by first | exact Nat.le_refl _ | exact Nat.le_of_lt hA) _)
                          exact HB4.out
                    · have hm7' : ((m : Int) == 7) = false := beq_eq_false_iff_ne.2 (by omega)
                      have HE := hide (HLNG.out (by omega) (by omega) (by omega) (by omega))
                      go_wp2_with fail
                      generalize wr.setCell ⟨P, 3, none⟩ (.int .i64 (1 + (s : Int))) = w4 at *
                      clear q0 q1 q2 q3 q4 p2 p3 p4 r0 r1 r2 r3 r4 f0 f1 f2 f3 f4
                      have q0 : w4.cell? ⟨P, 0, none⟩ = some (.int .i64 (m : Nat)) := blk_cell HR4.out rfl
                      have q2 : w4.cell? ⟨P, 2, none⟩ = some (.int .u64 (N : Nat)) := blk_cell HR4.out rfl
                      have q3 : w4.cell? ⟨P, 3, none⟩ = some (.int .i64 (1 + s : Nat)) := blk_cell HR4.out rfl
                      have hse : (((1 + s : Nat) : Int) == ((hsize N : Nat) : Int)) = decide (1 + s = hsize N) := by
                        by_cases h : 1 + s = hsize N
                        · rw [decide_eq_true h, h]; exact beq_self_eq_true _
                        · rw [decide_eq_false h]; exact beq_eq_false_iff_ne.2 (by omega)
                      have HSE := hide hse
                      clear hse
                      go_region_with (first
                        | (go_at_call 98
                           refine (refSize_any N _ HNN.out).mono ?_
                           rintro e w6 ⟨rfl, hb6⟩
                           have HR6 : Hid (RH w6 P m i N (1 + s) false) := (hb6.block P (blk_lt HR4.out)).trans HR4.out
                           have HA6 : Hid (w6.heap[A]? = some (.cells #[.int .i64 0, .int .i64 0, .int .u64 0, .int .i64 0, .bool false] 99 (0, 0))) := (hb6.block A (blk_lt HA4.out)).trans HA4.out
                           have HB6 : Hid (Below A w w6) := HB4.out.drew.trans (hb6.mono (Nat.le_of_lt (blk_lt HA4.out)))
                           have t3 : w6.cell? ⟨P, 3, none⟩ = some (.int .i64 (1 + s : Nat)) := blk_cell HR6.out rfl
                           have t4 : w6.cell? ⟨P, 4, none⟩ = some (.bool false) := blk_cell HR6.out rfl
                           have p4 := blk_frozen 4 HR6.out
                           clear hb6))
                      all_goals
                        have u0 : w6.cell? ⟨P, 0, none⟩ = some (.int .i64 (m : Nat)) := blk_cell HR6.out rfl
                        have u1 : w6.cell? ⟨P, 1, none⟩ = some (.int .i64 (i : Nat)) := blk_cell HR6.out rfl
                        have u2 : w6.cell? ⟨P, 2, none⟩ = some (.int .u64 (N : Nat)) := blk_cell HR6.out rfl
                        have r0 : w6.cell? ⟨A, 0, none⟩ = some (.int .i64 0) := blk_cell HA6.out rfl
                        have r1 : w6.cell? ⟨A, 1, none⟩ = some (.int .i64 0) := blk_cell HA6.out rfl
                        have r2 : w6.cell? ⟨A, 2, none⟩ = some (.int .u64 0) := blk_cell HA6.out rfl
                        have r3 : w6.cell? ⟨A, 3, none⟩ = some (.int .i64 0) := blk_cell HA6.out rfl
                        have r4 : w6.cell? ⟨A, 4, none⟩ = some (.bool false) := blk_cell HA6.out rfl
                        have f0 := blk_frozen 0 HA6.out
                        have f1 := blk_frozen 1 HA6.out
                        have f2 := blk_frozen 2 HA6.out
                        have f3 := blk_frozen 3 HA6.out
                        have f4 := blk_frozen 4 HA6.out
                        go_wp2
                        refine bodyPost_ret (v := .tuple #[HR.val ⟨m, i, N, 1 + s, decide (1 + s = hsize N), 0⟩, .int .i64 0]) ((results_cell_tmp rfl _ _ _).trans (by rw [HR.val, ← HSE.out]; go_simp)) rfl ⟨?_, ?_⟩
                        · rw [HE.out, decide_eq_false hm7]; rfl
                        · rw [HAA.out]
                          repeat (refine below_set ?_ _ _ (by first | exact Nat.le_refl _ | exact Nat.le_of_lt hA) _)
                          exact HB6.out
end
end Go.Proofs.YtdejcapbggjjgaaGreatDoor

import Derived.Test.YtmcamdcgnegmmaaGreatDoorJb
set_option maxRecDepth 1000000
set_option maxHeartbeats 16000000
namespace Go.Proofs.YtmcamdcgnegmmaaGreatDoor
section
open Go.RowKit
theorem read_any (w : World) (v : Value) (xs : List Nat) (hsl : BSl w v xs) :
    Calls Tryz.prog 61 #[v] w fun e w' => e = .returned (.tuple #[(hrd xs).val, .int .i64 ((hrd xs).e : Nat)]) ∧ Below w.heap.size w w' := by
  have HBS := hide hsl
  obtain ⟨⟨a, cap, rfl, hn, hc⟩, hmax, hb⟩ := hsl
  match xs with
  | [] =>
    clear HBS
    go_enter Tryz.func61, Tryz.ntmps61
    go_wp2
    refine bodyPost_ret ((results_cell_tmp rfl _ _ _).trans (by go_simp; exact ⟨rfl, rfl⟩)) rfl ⟨rfl, ?_⟩
    exact (Below.refl _ _).alloc (Nat.le_refl _) _
  | x :: r =>
    rcases hc with hc | ⟨b, off, rfl, hc⟩
    · cases hc
    have c0 : w.cell? ⟨b, off, none⟩ = some (.int .u8 ((x : Nat) : Int)) := hc 0 (by simp)
    have hx : x < 256 := hb x (by simp)
    have HX := hide hx
    have hbA : b < w.heap.size := World.block_lt_of_cell? w _ c0
    have HC := hide hc
    have HB := hide hb
    have hlen : ((x :: r).length : Int) = (r.length : Int) + 1 := by simp
    have hl0 : 0 < (x :: r).length := by simp
    generalize hL : (x :: r).length = L at *
    have HL := hide hL
    have hcap := hn.1
    clear hL hc hb hn
    have c1 := keep_alloc w (.cells #[.int .i64 0, .int .i64 0, .int .u64 0, .int .i64 0, .bool false] 66) _ _ c0
    have b1 := heap_alloc_new w (.cells #[.int .i64 0, .int .i64 0, .int .u64 0, .int .i64 0, .bool false] 66)
    have l1 : Below w.heap.size w (w.alloc (.cells #[.int .i64 0, .int .i64 0, .int .u64 0, .int .i64 0, .bool false] 66)) := (Below.refl _ _).alloc (Nat.le_refl _) _
    go_enter Tryz.func61, Tryz.ntmps61
    go_wp2
    generalize w.alloc (.cells #[.int .i64 0, .int .i64 0, .int .u64 0, .int .i64 0, .bool false] 66) = w1 at *
    have hlt1 : b < w1.heap.size := World.block_lt_of_cell? w1 _ c1
    have hne1 : ¬ b = w1.heap.size := by omega
    have hne2 : ¬ w1.heap.size = b := by omega
    have HL1 := hide l1
    have HB1 := hide b1
    clear l1 b1
    go_cut [4] (fun p wx => p = .pointer (some ⟨w1.heap.size, 0, none⟩) ∧ PH wx w1.heap.size (x / 32) (x % 32) 0 0 false ∧ Below w1.heap.size w1 wx)
    case first =>
      go_region
      all_goals
        go_wp2_with fail
        go_meet
        case rel =>
          have e1 : (x : Int) / 32 = ((x / 32 : Nat) : Int) := by omega
          have e2 : (x : Int) % 32 = ((x % 32 : Nat) : Int) := by omega
          rw [e1, e2]
          exact ⟨rfl, heap_alloc_new w1 _, ((Below.refl _ _).alloc (Nat.le_refl _) _).drew⟩
    case rest =>
      obtain ⟨rfl, hrh, hbl⟩ := hcut
      have HRH := hide hrh
      have HBL := hide hbl
      have hA : w.heap.size < w1.heap.size := blk_lt HB1.out
      have HRES : Hid (wc.heap[w.heap.size]? = some (.cells #[.int .i64 0, .int .i64 0, .int .u64 0, .int .i64 0, .bool false] 66 (0, 0))) := (hbl.block _ hA).trans HB1.out
      have HBW : Hid (Below w.heap.size w wc) := HL1.out.trans (hbl.mono (Nat.le_of_lt hA))
      have HSW : Hid (BSl wc (.slice (some ⟨b, off, none⟩) L cap) (x :: r)) := HBS.out.move (keep_below HBW.out)
      have HNOT := hide (hrd_not (x := x) (r := r))
      have HFEW := hide (hrd_few (x := x) (r := r))
      have HTWO := hide (hrd_two (x := x) (r := r))
      have HALL := hide (hrd_all (x := x) (r := r))
      have hm8 : x / 32 ≤ 7 := by omega
      have hi32 : x % 32 ≤ 31 := by omega
      generalize hM : x / 32 = m at *
      generalize hI : x % 32 = i at *
      clear hM hI hrh hbl c0 c1 hne1 hne2 hlt1 HB1 HL1 HBS
      generalize w1.heap.size = P at *
      generalize hAA : w.heap.size = A at *
      have HAA := hide hAA
      clear hAA
      have q0 : wc.cell? ⟨P, 0, none⟩ = some (.int .i64 (m : Nat)) := blk_cell HRH.out rfl
      have q1 : wc.cell? ⟨P, 1, none⟩ = some (.int .i64 (i : Nat)) := blk_cell HRH.out rfl
      have r0 : wc.cell? ⟨A, 0, none⟩ = some (.int .i64 0) := blk_cell HRES.out rfl
      have r1 : wc.cell? ⟨A, 1, none⟩ = some (.int .i64 0) := blk_cell HRES.out rfl
      have r2 : wc.cell? ⟨A, 2, none⟩ = some (.int .u64 0) := blk_cell HRES.out rfl
      have r3 : wc.cell? ⟨A, 3, none⟩ = some (.int .i64 0) := blk_cell HRES.out rfl
      have r4 : wc.cell? ⟨A, 4, none⟩ = some (.bool false) := blk_cell HRES.out rfl
      have f0 := blk_frozen 0 HRES.out
      have f1 := blk_frozen 1 HRES.out
      have f2 := blk_frozen 2 HRES.out
      have f3 := blk_frozen 3 HRES.out
      have f4 := blk_frozen 4 HRES.out
      go_wp2_with fail
      refine (mayBe_any m i _ hm8 hi32).mono ?_
      rintro e w2 ⟨rfl, rfl⟩
      by_cases hmb : hmay m i
      · rw [decide_eq_true hmb]
        have hW8 := hwide_le i
        have p3 := blk_frozen 3 HRH.out
        have q3 : w2.cell? ⟨P, 3, none⟩ = some (.int .i64 (0 : Nat)) := blk_cell HRH.out rfl
        go_wp2_with fail
        refine (behind_any i _ (by omega)).mono ?_
        rintro e w3 ⟨rfl, rfl⟩
        generalize hWI : hwide i = W at *
        have HWI := hide hWI
        clear hWI
        by_cases hfew : r.length < W
        · have hfew' : (r.length : Int) + 1 < 1 + (W : Int) := by omega
          have HE := hide (HFEW.out hmb hfew)
          go_wp2
          refine bodyPost_ret (v := .tuple #[(HR.bad 20).val, .int .i64 20]) ((results_cell_tmp rfl _ _ _).trans (by go_simp; rfl)) rfl ⟨by rw [HE.out]; rfl, ?_⟩
          rw [HAA.out]
          repeat (refine below_set1 ?_ _ _ (by first | exact Nat.le_refl _ | exact Nat.le_of_lt hA) _)
          exact HBW.out
        · have hfew' : ¬ (r.length : Int) + 1 < 1 + (W : Int) := by omega
          have hAP : ¬ A = P := by omega
          have hPA : ¬ P = A := by omega
          have hbP : ¬ b = P := by omega
          have HSL : Hid (BSl (w3.setCell ⟨P, 3, none⟩ (.int .i64 (1 + (W : Int)))) (.slice (some ⟨b, off + 1, none⟩) W (cap - 1)) (r.take W)) := ph_arg HSW.out hfew hbP _
          go_wp2_with fail
          have HR4 := hide (ph_used (s := W) HRH.out)
          have HA4 : Hid ((w3.setCell ⟨P, 3, none⟩ (.int .i64 (1 + (W : Int)))).heap[A]? = some (.cells #[.int .i64 0, .int .i64 0, .int .u64 0, .int .i64 0, .bool false] 66 (0, 0))) := blk_other 3 _ HRES.out hAP
          have HB4 : Hid (Below A w (w3.setCell ⟨P, 3, none⟩ (.int .i64 (1 + (W : Int))))) := below_set1 HBW.out _ _ (Nat.le_of_lt hA) _
          generalize w3.setCell ⟨P, 3, none⟩ (.int .i64 (1 + (W : Int))) = w4 at *
          clear q0 q1 q3 p3 r0 r1 r2 r3 r4 f0 f1 f2 f3 f4
          have q0 : w4.cell? ⟨P, 0, none⟩ = some (.int .i64 (m : Nat)) := blk_cell HR4.out rfl
          have q1 : w4.cell? ⟨P, 1, none⟩ = some (.int .i64 (i : Nat)) := blk_cell HR4.out rfl
          have q2 : w4.cell? ⟨P, 2, none⟩ = some (.int .u64 (0 : Nat)) := blk_cell HR4.out rfl
          have q3 : w4.cell? ⟨P, 3, none⟩ = some (.int .i64 (1 + W : Nat)) := blk_cell HR4.out rfl
          have p2 := blk_frozen 2 HR4.out
          have HT8 : Hid ((r.take W).length ≤ 8) := by show _ ≤ _; rw [List.length_take]; omega
          have hWcap : (1 + W : Nat) ≤ cap := by omega
          go_cut [] (fun wx => PH wx P m i (harg i r) (1 + W) false ∧ wx.heap[A]? = some (.cells #[.int .i64 0, .int .i64 0, .int .u64 0, .int .i64 0, .bool false] 66 (0, 0)) ∧ Below A w wx)
          case first =>
            have HAR : Hid ((if i < 24 then i else bnum 0 (r.take W)) = harg i r) := by show _ = _; unfold harg; rw [HWI.out]
            by_cases hc1 : cap = 1
            · obtain rfl : W = 0 := by omega
              subst hc1
              have HSZ : Hid (BSl w4.drew (.slice (some ⟨b, off, none⟩) 0 0) (r.take 0)) := ⟨⟨_, 0, rfl, ⟨by simp, fun h => by cases h⟩, .inl rfl⟩, by simp, fun z hz => by cases hz⟩
              go_region_with (first
                | (go_at_call 86
                   refine (argument_any i _ _ (r.take 0) hi32 HSZ.out HT8.out).mono ?_
                   rintro e w6 ⟨rfl, rfl⟩
                   rw [HAR.out]))
              all_goals
                go_wp2_with fail
                go_meet
                case rel => exact ⟨blk_set 2 (.int .u64 ((harg i r : Nat) : Int)) HR4.out, blk_other 2 _ HA4.out hAP, Below.drew (below_set1 HB4.out _ _ (Nat.le_of_lt hA) _)⟩
            · have hc1' : ¬ 1 = cap := by omega
              have HSD : Hid (BSl w4.drew (.slice (some ⟨b, off + 1, none⟩) W (cap - 1)) (r.take W)) := HSL.out.move (fun _ _ h => h)
              go_region_with (first
                | (go_at_call 86
                   refine (argument_any i _ _ (r.take W) hi32 HSD.out HT8.out).mono ?_
                   rintro e w6 ⟨rfl, rfl⟩
                   rw [HAR.out]))
              all_goals
                go_wp2_with fail
                go_meet
                case rel => exact ⟨blk_set 2 (.int .u64 ((harg i r : Nat) : Int)) HR4.out, blk_other 2 _ HA4.out hAP, Below.drew (below_set1 HB4.out _ _ (Nat.le_of_lt hA) _)⟩
          case rest =>
            obtain ⟨hr5, ha5, hb5⟩ := hcut
            have HR5 := hide hr5
            have HA5 := hide ha5
            have HB5 := hide hb5
            have HNN : Hid (harg i r < 18446744073709551616) := harg_lt _ _ hi32 (fun z hz => HB.out z (List.mem_cons_of_mem _ hz))
            clear q0 q1 q2 q3 p2 HR4 HA4 HB4 HSL HT8 hr5 ha5 hb5
            generalize harg i r = N at *
            have q0 : wc.cell? ⟨P, 0, none⟩ = some (.int .i64 (m : Nat)) := blk_cell HR5.out rfl
            have q1 : wc.cell? ⟨P, 1, none⟩ = some (.int .i64 (i : Nat)) := blk_cell HR5.out rfl
            have q2 : wc.cell? ⟨P, 2, none⟩ = some (.int .u64 (N : Nat)) := blk_cell HR5.out rfl
            have q3 : wc.cell? ⟨P, 3, none⟩ = some (.int .i64 (1 + W : Nat)) := blk_cell HR5.out rfl
            have q4 : wc.cell? ⟨P, 4, none⟩ = some (.bool false) := blk_cell HR5.out rfl
            have p4 := blk_frozen 4 HR5.out
            have r0 : wc.cell? ⟨A, 0, none⟩ = some (.int .i64 0) := blk_cell HA5.out rfl
            have r1 : wc.cell? ⟨A, 1, none⟩ = some (.int .i64 0) := blk_cell HA5.out rfl
            have r2 : wc.cell? ⟨A, 2, none⟩ = some (.int .u64 0) := blk_cell HA5.out rfl
            have r3 : wc.cell? ⟨A, 3, none⟩ = some (.int .i64 0) := blk_cell HA5.out rfl
            have r4 : wc.cell? ⟨A, 4, none⟩ = some (.bool false) := blk_cell HA5.out rfl
            have f0 := blk_frozen 0 HA5.out
            have f1 := blk_frozen 1 HA5.out
            have f2 := blk_frozen 2 HA5.out
            have f3 := blk_frozen 3 HA5.out
            have f4 := blk_frozen 4 HA5.out
            by_cases hm7 : m = 7
            · subst hm7
              by_cases hi24 : i = 24
              · subst hi24
                by_cases hN32 : N < 32
                · have hN32' : (N : Int) < 32 := by omega
                  have HE := hide (HTWO.out (by omega) rfl rfl hN32)
                  go_wp2
                  refine bodyPost_ret (v := .tuple #[(HR.bad 21).val, .int .i64 21]) ((results_cell_tmp rfl _ _ _).trans (by go_simp; rfl)) rfl ⟨by rw [HE.out]; rfl, ?_⟩
                  rw [HAA.out]
                  repeat (refine below_set1 ?_ _ _ (by first | exact Nat.le_refl _ | exact Nat.le_of_lt hA) _)
                  exact HB5.out
                · have hN32' : ¬ (N : Int) < 32 := by omega
                  have HE : Hid (hrd (x :: r) = ⟨7, 24, N, 1 + W, true, 0⟩) := by have h := HALL.out hmb (by omega) (by omega); show _ = _; simpa using h
                  go_wp2
                  go_region
                  all_goals
                    go_wp2
                    refine bodyPost_ret (v := .tuple #[HR.val ⟨7, 24, N, 1 + W, true, 0⟩, .int .i64 0]) ((results_cell_tmp rfl _ _ _).trans (by rw [HR.val]; go_simp)) rfl ⟨by rw [HE.out]; rfl, ?_⟩
                    rw [HAA.out]
                    refine Below.drew ?_
                    repeat (refine below_set1 ?_ _ _ (by first | exact Nat.le_refl _ | exact Nat.le_of_lt hA) _)
                    exact HB5.out
              · have hi24' : ((i : Int) == 24) = false := beq_eq_false_iff_ne.2 (by omega)
                by_cases hi31 : i = 31
                · subst hi31
                  have HE : Hid (hrd (x :: r) = ⟨7, 31, N, 1 + W, true, 0⟩) := by have h := HALL.out hmb (by omega) (by omega); show _ = _; simpa using h
                  go_wp2
                  go_region
                  all_goals
                    go_wp2
                    refine bodyPost_ret (v := .tuple #[HR.val ⟨7, 31, N, 1 + W, true, 0⟩, .int .i64 0]) ((results_cell_tmp rfl _ _ _).trans (by rw [HR.val]; go_simp)) rfl ⟨by rw [HE.out]; rfl, ?_⟩
                    rw [HAA.out]
                    refine Below.drew ?_
                    repeat (refine below_set1 ?_ _ _ (by first | exact Nat.le_refl _ | exact Nat.le_of_lt hA) _)
                    exact HB5.out
                · have hi31' : ((i : Int) == 31) = false := beq_eq_false_iff_ne.2 (by omega)
                  have HE : Hid (hrd (x :: r) = ⟨7, i, N, 1 + W, true, 0⟩) := by have h := HALL.out hmb (by omega) (by omega); show _ = _; simpa using h
                  go_wp2
                  go_region
                  all_goals
                    go_wp2
                    refine bodyPost_ret (v := .tuple #[HR.val ⟨7, i, N, 1 + W, true, 0⟩, .int .i64 0]) ((results_cell_tmp rfl _ _ _).trans (by rw [HR.val]; go_simp)) rfl ⟨by rw [HE.out]; rfl, ?_⟩
                    rw [HAA.out]
                    refine Below.drew ?_
                    repeat (refine below_set1 ?_ _ _ (by first | exact Nat.le_refl _ | exact Nat.le_of_lt hA) _)
                    exact HB5.out
            · have hm7' : ((m : Int) == 7) = false := beq_eq_false_iff_ne.2 (by omega)
              by_cases hi31 : i = 31
              · subst hi31
                have HE : Hid (hrd (x :: r) = ⟨m, 31, N, 1 + W, true, 0⟩) := by have h := HALL.out hmb (by omega) (by omega); show _ = _; simpa using h
                go_wp2
                go_region
                all_goals
                  go_wp2
                  refine bodyPost_ret (v := .tuple #[HR.val ⟨m, 31, N, 1 + W, true, 0⟩, .int .i64 0]) ((results_cell_tmp rfl _ _ _).trans (by rw [HR.val]; go_simp)) rfl ⟨by rw [HE.out]; rfl, ?_⟩
                  rw [HAA.out]
                  refine Below.drew ?_
                  repeat (refine below_set1 ?_ _ _ (by first | exact Nat.le_refl _ | exact Nat.le_of_lt hA) _)
                  exact HB5.out
              · have hi31' : ((i : Int) == 31) = false := beq_eq_false_iff_ne.2 (by omega)
                have HE : Hid (hrd (x :: r) = ⟨m, i, N, 1 + W, decide (1 + W = hsize N), 0⟩) := by have h := HALL.out hmb (by omega) (by omega); show _ = _; simpa [hm7, hi31] using h
                have hse : (((1 + W : Nat) : Int) == ((hsize N : Nat) : Int)) = decide (1 + W = hsize N) := by
                  by_cases h : 1 + W = hsize N
                  · rw [decide_eq_true h, h]; exact beq_self_eq_true _
                  · rw [decide_eq_false h]; exact beq_eq_false_iff_ne.2 (by omega)
                have HSE := hide hse
                clear hse
                go_wp2_with fail
                go_region_with (first
                  | (go_at_call 87
                     refine (size_any N _ HNN.out).mono ?_
                     rintro e w6 ⟨rfl, rfl⟩))
                all_goals
                  go_wp2
                  refine bodyPost_ret (v := .tuple #[HR.val ⟨m, i, N, 1 + W, decide (1 + W = hsize N), 0⟩, .int .i64 0]) ((results_cell_tmp rfl _ _ _).trans (by rw [HR.val, ← HSE.out]; go_simp)) rfl ⟨by rw [HE.out]; rfl, ?_⟩
                  rw [HAA.out]
                  refine Below.drew ?_
                  repeat (refine below_set1 ?_ _ _ (by first | exact Nat.le_refl _ | exact Nat.le_of_lt hA) _)
                  exact HB5.out
      · rw [decide_eq_false hmb]
        have HE := hide (HNOT.out hmb)
        go_wp2
        refine bodyPost_ret (v := .tuple #[(HR.bad 21).val, .int .i64 21]) ((results_cell_tmp rfl _ _ _).trans (by go_simp; rfl)) rfl ⟨by rw [HE.out]; rfl, ?_⟩
        rw [HAA.out]
        repeat (refine below_set1 ?_ _ _ (by first | exact Nat.le_refl _ | exact Nat.le_of_lt hA) _)
        exact HBW.out
end
end Go.Proofs.YtmcamdcgnegmmaaGreatDoor

import Derived.Test.YtgcccndbahphaaaGreatDoorJk
import Derived.Test.YtgcccndbahphaaaGreatDoorJi
namespace Go.Proofs.YtgcccndbahphaaaGreatDoor
section
open Go.RowKit Go
/-- The first line of spare: a field that is not the kind's own. -/
def sp1 (t : Tv) : Bool := (t.f && t.k != 2) || ((t.g || ((t.n : Int) != 0)) && t.k != 3) || (((t.b : Int) != 0) && t.k != 4)
def sp2 (t : Tv) : Bool := (!decide (t.s = ⟨#[]⟩) && t.k != 5) || (decide (0 < (t.y.length : Int)) && t.k != 6) || (!decide (t.l = ⟨0, 0, 0, []⟩) && t.k != 7)
def sp3 (t : Tv) : Bool := (((t.ks.length : Int) == 0) || t.k == 9) && ((((t.is.length : Int) == 0) || t.k == 8) || t.k == 9)
def sparef (t : Tv) : Bool := !sp1 t && (!sp2 t && sp3 t)
set_option maxRecDepth 1000000 in
set_option maxHeartbeats 2000000 in
theorem spare_any (t : Tv) (w : World) (cs : Array Value) (ht : Tin w t cs) : Calls Tryz.prog 116 #[.agg cs] w fun e w' => e = .returned (.bool (sparef t)) ∧ Below w.heap.size w w' := by
  obtain ⟨vy, vk, vi, rfl, hy, hk, hv, hb⟩ := ht.parts
  obtain ⟨⟨ay, cy, rfl, _, _⟩, _, _⟩ := hy
  obtain ⟨⟨ak, ck, rfl, _, _⟩, _, _⟩ := hk
  obtain ⟨⟨ai, ci, rfl, _, _⟩, _⟩ := hv
  have HLZ := hide hb.l.d
  clear ht hb
  have HQ0 := hide (box_mk0 w (vcs t (.slice ay t.y.length cy) (.slice ak t.ks.length ck) (.slice ai t.is.length ci)))
  have q0 : (w.alloc (.cells (vcs t (.slice ay t.y.length cy) (.slice ak t.ks.length ck) (.slice ai t.is.length ci)) 55)).cell? ⟨w.heap.size, 0, none⟩ = some (.int .i64 t.k) := blk_cell HQ0.out.2 rfl
  have q1 : (w.alloc (.cells (vcs t (.slice ay t.y.length cy) (.slice ak t.ks.length ck) (.slice ai t.is.length ci)) 55)).cell? ⟨w.heap.size, 1, none⟩ = some (.bool t.f) := blk_cell HQ0.out.2 rfl
  have q2 : (w.alloc (.cells (vcs t (.slice ay t.y.length cy) (.slice ak t.ks.length ck) (.slice ai t.is.length ci)) 55)).cell? ⟨w.heap.size, 2, none⟩ = some (.bool t.g) := blk_cell HQ0.out.2 rfl
  have q3 : (w.alloc (.cells (vcs t (.slice ay t.y.length cy) (.slice ak t.ks.length ck) (.slice ai t.is.length ci)) 55)).cell? ⟨w.heap.size, 3, none⟩ = some (.int .u64 (t.n : Nat)) := blk_cell HQ0.out.2 rfl
  have q4 : (w.alloc (.cells (vcs t (.slice ay t.y.length cy) (.slice ak t.ks.length ck) (.slice ai t.is.length ci)) 55)).cell? ⟨w.heap.size, 4, none⟩ = some (.int .u64 (t.b : Nat)) := blk_cell HQ0.out.2 rfl
  have q5 : (w.alloc (.cells (vcs t (.slice ay t.y.length cy) (.slice ak t.ks.length ck) (.slice ai t.is.length ci)) 55)).cell? ⟨w.heap.size, 5, none⟩ = some (.string t.s) := blk_cell HQ0.out.2 rfl
  have q6 : (w.alloc (.cells (vcs t (.slice ay t.y.length cy) (.slice ak t.ks.length ck) (.slice ai t.is.length ci)) 55)).cell? ⟨w.heap.size, 6, none⟩ = some (.slice ay t.y.length cy) := blk_cell HQ0.out.2 rfl
  have q11 : (w.alloc (.cells (vcs t (.slice ay t.y.length cy) (.slice ak t.ks.length ck) (.slice ai t.is.length ci)) 55)).cell? ⟨w.heap.size, 11, none⟩ = some (.slice ak t.ks.length ck) := blk_cell HQ0.out.2 rfl
  have q12 : (w.alloc (.cells (vcs t (.slice ay t.y.length cy) (.slice ak t.ks.length ck) (.slice ai t.is.length ci)) 55)).cell? ⟨w.heap.size, 12, none⟩ = some (.slice ai t.is.length ci) := blk_cell HQ0.out.2 rfl
  have HA : Hid (∀ j x, (lcs t.l)[j]? = some x → (w.alloc (.cells (vcs t (.slice ay t.y.length cy) (.slice ak t.ks.length ck) (.slice ai t.is.length ci)) 55)).cell? ⟨w.heap.size, 7 + j, none⟩ = some x) := fun _ _ hx => lk_in HQ0.out.2 hx
  generalize hcs : vcs t (.slice ay t.y.length cy) (.slice ak t.ks.length ck) (.slice ai t.is.length ci) = cs at *
  have HCS := hide hcs
  clear hcs
  go_enter Tryz.func116, Tryz.ntmps116
  go_upto_region 2 with fail
  generalize w.alloc (.cells cs 55) = w1 at *
  go_cut [33] from 6 to 32 (fun xx wx => xx = .bool (sp1 t) ∧ wx = w1)
  case first => as_aux_lemma =>

    rcases Bool.eq_false_or_eq_true (t.f) with hf | hf
    · rcases Bool.eq_false_or_eq_true (t.k != 2) with h2 | h2
      · as_aux_lemma =>
          go_wp2_with fail
          go_meet
          case rel => exact ⟨by unfold sp1; rw [hf, h2]; rfl, rfl⟩
      · rcases Bool.eq_false_or_eq_true (t.g) with hg | hg
        · rcases Bool.eq_false_or_eq_true (t.k != 3) with h3 | h3
          · as_aux_lemma =>
              go_wp2_with fail
              go_meet
              case rel => exact ⟨by unfold sp1; rw [hf, h2, hg, h3]; rfl, rfl⟩
          · rcases Bool.eq_false_or_eq_true (((t.b : Int) != 0)) with hb | hb
            · rcases Bool.eq_false_or_eq_true (t.k != 4) with h4 | h4
              · as_aux_lemma =>
                  go_wp2_with fail
                  go_meet
                  case rel => exact ⟨by unfold sp1; rw [hf, h2, hg, h3, hb, h4]; rfl, rfl⟩
              · as_aux_lemma =>
                  go_wp2_with fail
                  go_meet
                  case rel => exact ⟨by unfold sp1; rw [hf, h2, hg, h3, hb, h4]; rfl, rfl⟩
            · as_aux_lemma =>
                go_wp2_with fail
                go_meet
                case rel => exact ⟨by unfold sp1; rw [hf, h2, hg, h3, hb]; rfl, rfl⟩
        · rcases Bool.eq_false_or_eq_true (((t.n : Int) != 0)) with hn | hn
          · rcases Bool.eq_false_or_eq_true (t.k != 3) with h3 | h3
            · as_aux_lemma =>
                go_wp2_with fail
                go_meet
                case rel => exact ⟨by unfold sp1; rw [hf, h2, hg, hn, h3]; rfl, rfl⟩
            · rcases Bool.eq_false_or_eq_true (((t.b : Int) != 0)) with hb | hb
              · rcases Bool.eq_false_or_eq_true (t.k != 4) with h4 | h4
                · as_aux_lemma =>
                    go_wp2_with fail
                    go_meet
                    case rel => exact ⟨by unfold sp1; rw [hf, h2, hg, hn, h3, hb, h4]; rfl, rfl⟩
                · as_aux_lemma =>
                    go_wp2_with fail
                    go_meet
                    case rel => exact ⟨by unfold sp1; rw [hf, h2, hg, hn, h3, hb, h4]; rfl, rfl⟩
              · as_aux_lemma =>
                  go_wp2_with fail
                  go_meet
                  case rel => exact ⟨by unfold sp1; rw [hf, h2, hg, hn, h3, hb]; rfl, rfl⟩
          · rcases Bool.eq_false_or_eq_true (((t.b : Int) != 0)) with hb | hb
            · rcases Bool.eq_false_or_eq_true (t.k != 4) with h4 | h4
              · as_aux_lemma =>
                  go_wp2_with fail
                  go_meet
                  case rel => exact ⟨by unfold sp1; rw [hf, h2, hg, hn, hb, h4]; rfl, rfl⟩
              · as_aux_lemma =>
                  go_wp2_with fail
                  go_meet
                  case rel => exact ⟨by unfold sp1; rw [hf, h2, hg, hn, hb, h4]; rfl, rfl⟩
            · as_aux_lemma =>
                go_wp2_with fail
                go_meet
                case rel => exact ⟨by unfold sp1; rw [hf, h2, hg, hn, hb]; rfl, rfl⟩
    · rcases Bool.eq_false_or_eq_true (t.g) with hg | hg
      · rcases Bool.eq_false_or_eq_true (t.k != 3) with h3 | h3
        · as_aux_lemma =>
            go_wp2_with fail
            go_meet
            case rel => exact ⟨by unfold sp1; rw [hf, hg, h3]; rfl, rfl⟩
        · rcases Bool.eq_false_or_eq_true (((t.b : Int) != 0)) with hb | hb
          · rcases Bool.eq_false_or_eq_true (t.k != 4) with h4 | h4
            · as_aux_lemma =>
                go_wp2_with fail
                go_meet
                case rel => exact ⟨by unfold sp1; rw [hf, hg, h3, hb, h4]; rfl, rfl⟩
            · as_aux_lemma =>
                go_wp2_with fail
                go_meet
                case rel => exact ⟨by unfold sp1; rw [hf, hg, h3, hb, h4]; rfl, rfl⟩
          · as_aux_lemma =>
              go_wp2_with fail
              go_meet
              case rel => exact ⟨by unfold sp1; rw [hf, hg, h3, hb]; rfl, rfl⟩
      · rcases Bool.eq_false_or_eq_true (((t.n : Int) != 0)) with hn | hn
        · rcases Bool.eq_false_or_eq_true (t.k != 3) with h3 | h3
          · as_aux_lemma =>
              go_wp2_with fail
              go_meet
              case rel => exact ⟨by unfold sp1; rw [hf, hg, hn, h3]; rfl, rfl⟩
          · rcases Bool.eq_false_or_eq_true (((t.b : Int) != 0)) with hb | hb
            · rcases Bool.eq_false_or_eq_true (t.k != 4) with h4 | h4
              · as_aux_lemma =>
                  go_wp2_with fail
                  go_meet
                  case rel => exact ⟨by unfold sp1; rw [hf, hg, hn, h3, hb, h4]; rfl, rfl⟩
              · as_aux_lemma =>
                  go_wp2_with fail
                  go_meet
                  case rel => exact ⟨by unfold sp1; rw [hf, hg, hn, h3, hb, h4]; rfl, rfl⟩
            · as_aux_lemma =>
                go_wp2_with fail
                go_meet
                case rel => exact ⟨by unfold sp1; rw [hf, hg, hn, h3, hb]; rfl, rfl⟩
        · rcases Bool.eq_false_or_eq_true (((t.b : Int) != 0)) with hb | hb
          · rcases Bool.eq_false_or_eq_true (t.k != 4) with h4 | h4
            · as_aux_lemma =>
                go_wp2_with fail
                go_meet
                case rel => exact ⟨by unfold sp1; rw [hf, hg, hn, hb, h4]; rfl, rfl⟩
            · as_aux_lemma =>
                go_wp2_with fail
                go_meet
                case rel => exact ⟨by unfold sp1; rw [hf, hg, hn, hb, h4]; rfl, rfl⟩
          · as_aux_lemma =>
              go_wp2_with fail
              go_meet
              case rel => exact ⟨by unfold sp1; rw [hf, hg, hn, hb]; rfl, rfl⟩
  case rest =>
    obtain ⟨rfl, hww⟩ := hcut
    have hww := hww.symm
    subst hww
    rcases Bool.eq_false_or_eq_true (sp1 t) with h1 | h1
    · as_aux_lemma =>
      have H1 := hide h1
      rw [h1]
      go_wp2_with fail
      go_ret
      exact ⟨by unfold sparef; rw [H1.out]; rfl, HQ0.out.1⟩
    have H1 := hide h1
    rw [h1]
    clear h1
    go_upto_region 4 with fail
    go_cut [60] from 34 to 59 (fun xx wx => xx = .bool (sp2 t) ∧ wx = w1)
    case first => as_aux_lemma =>
      have HEQ : Hid (∀ wx : World, (Op.equalIn 10000 53 (.agg (lcs t.l)) (.agg (lcs ⟨0, 0, 0, []⟩))).run Tryz.prog wx = .ok (decide (t.l = ⟨0, 0, 0, []⟩)) wx) := fun wx => eqlk wx HLZ.out (b := ⟨0, 0, 0, []⟩) (by simp)
      by_cases h0 : t.s = ⟨#[]⟩
      · have hsT : decide (t.s = ⟨#[]⟩) = true := decide_eq_true h0
        have k4 : t.s.toList = [] := by rw [h0]; exact toList_nil
        clear h0
        by_cases h0 : 0 < (t.y.length : Int)
        · have gy := h0
          have hyT : decide (0 < (t.y.length : Int)) = true := decide_eq_true h0
          clear h0
          rcases Bool.eq_false_or_eq_true (t.k != 6) with h6 | h6
          · as_aux_lemma =>
              go_wp2_with fail
              go_meet
              case rel => exact ⟨by unfold sp2; rw [hsT, hyT, h6]; rfl, rfl⟩
          · rcases Bool.eq_false_or_eq_true (decide (t.l = ⟨0, 0, 0, []⟩)) with hlT | hlF
            · rw [hlT] at HEQ
              as_aux_lemma =>
                go_wp2_with (first | (refine wpList_lkAt rfl rfl w.heap.size 7 t.l rfl HA.out ?_) | (refine wpList_nelk rfl rfl (lcs t.l) (lcs ⟨0, 0, 0, []⟩) true rfl rfl (HEQ.out _) ?_))
                go_meet
                case rel => exact ⟨by unfold sp2; rw [hsT, hyT, h6, hlT]; rfl, rfl⟩
            · rw [hlF] at HEQ
              rcases Bool.eq_false_or_eq_true (t.k != 7) with h7 | h7
              · as_aux_lemma =>
                  go_wp2_with (first | (refine wpList_lkAt rfl rfl w.heap.size 7 t.l rfl HA.out ?_) | (refine wpList_nelk rfl rfl (lcs t.l) (lcs ⟨0, 0, 0, []⟩) false rfl rfl (HEQ.out _) ?_))
                  go_meet
                  case rel => exact ⟨by unfold sp2; rw [hsT, hyT, h6, hlF, h7]; rfl, rfl⟩
              · as_aux_lemma =>
                  go_wp2_with (first | (refine wpList_lkAt rfl rfl w.heap.size 7 t.l rfl HA.out ?_) | (refine wpList_nelk rfl rfl (lcs t.l) (lcs ⟨0, 0, 0, []⟩) false rfl rfl (HEQ.out _) ?_))
                  go_meet
                  case rel => exact ⟨by unfold sp2; rw [hsT, hyT, h6, hlF, h7]; rfl, rfl⟩
        · have gy := h0
          have hyF : decide (0 < (t.y.length : Int)) = false := decide_eq_false h0
          clear h0
          rcases Bool.eq_false_or_eq_true (decide (t.l = ⟨0, 0, 0, []⟩)) with hlT | hlF
          · rw [hlT] at HEQ
            as_aux_lemma =>
              go_wp2_with (first | (refine wpList_lkAt rfl rfl w.heap.size 7 t.l rfl HA.out ?_) | (refine wpList_nelk rfl rfl (lcs t.l) (lcs ⟨0, 0, 0, []⟩) true rfl rfl (HEQ.out _) ?_))
              go_meet
              case rel => exact ⟨by unfold sp2; rw [hsT, hyF, hlT]; rfl, rfl⟩
          · rw [hlF] at HEQ
            rcases Bool.eq_false_or_eq_true (t.k != 7) with h7 | h7
            · as_aux_lemma =>
                go_wp2_with (first | (refine wpList_lkAt rfl rfl w.heap.size 7 t.l rfl HA.out ?_) | (refine wpList_nelk rfl rfl (lcs t.l) (lcs ⟨0, 0, 0, []⟩) false rfl rfl (HEQ.out _) ?_))
                go_meet
                case rel => exact ⟨by unfold sp2; rw [hsT, hyF, hlF, h7]; rfl, rfl⟩
            · as_aux_lemma =>
                go_wp2_with (first | (refine wpList_lkAt rfl rfl w.heap.size 7 t.l rfl HA.out ?_) | (refine wpList_nelk rfl rfl (lcs t.l) (lcs ⟨0, 0, 0, []⟩) false rfl rfl (HEQ.out _) ?_))
                go_meet
                case rel => exact ⟨by unfold sp2; rw [hsT, hyF, hlF, h7]; rfl, rfl⟩
      · have hsF : decide (t.s = ⟨#[]⟩) = false := decide_eq_false h0
        have k4 : ¬ t.s.toList = [] := fun e => by have h := str_beq_no h0; rw [e, toList_nil] at h; exact absurd h (by simp)
        clear h0
        rcases Bool.eq_false_or_eq_true (t.k != 5) with h5 | h5
        · as_aux_lemma =>
            go_wp2_with fail
            go_meet
            case rel => exact ⟨by unfold sp2; rw [hsF, h5]; rfl, rfl⟩
        · by_cases h0 : 0 < (t.y.length : Int)
          · have gy := h0
            have hyT : decide (0 < (t.y.length : Int)) = true := decide_eq_true h0
            clear h0
            rcases Bool.eq_false_or_eq_true (t.k != 6) with h6 | h6
            · as_aux_lemma =>
                go_wp2_with fail
                go_meet
                case rel => exact ⟨by unfold sp2; rw [hsF, h5, hyT, h6]; rfl, rfl⟩
            · rcases Bool.eq_false_or_eq_true (decide (t.l = ⟨0, 0, 0, []⟩)) with hlT | hlF
              · rw [hlT] at HEQ
                as_aux_lemma =>
                  go_wp2_with (first | (refine wpList_lkAt rfl rfl w.heap.size 7 t.l rfl HA.out ?_) | (refine wpList_nelk rfl rfl (lcs t.l) (lcs ⟨0, 0, 0, []⟩) true rfl rfl (HEQ.out _) ?_))
                  go_meet
                  case rel => exact ⟨by unfold sp2; rw [hsF, h5, hyT, h6, hlT]; rfl, rfl⟩
              · rw [hlF] at HEQ
                rcases Bool.eq_false_or_eq_true (t.k != 7) with h7 | h7
                · as_aux_lemma =>
                    go_wp2_with (first | (refine wpList_lkAt rfl rfl w.heap.size 7 t.l rfl HA.out ?_) | (refine wpList_nelk rfl rfl (lcs t.l) (lcs ⟨0, 0, 0, []⟩) false rfl rfl (HEQ.out _) ?_))
                    go_meet
                    case rel => exact ⟨by unfold sp2; rw [hsF, h5, hyT, h6, hlF, h7]; rfl, rfl⟩
                · as_aux_lemma =>
                    go_wp2_with (first | (refine wpList_lkAt rfl rfl w.heap.size 7 t.l rfl HA.out ?_) | (refine wpList_nelk rfl rfl (lcs t.l) (lcs ⟨0, 0, 0, []⟩) false rfl rfl (HEQ.out _) ?_))
                    go_meet
                    case rel => exact ⟨by unfold sp2; rw [hsF, h5, hyT, h6, hlF, h7]; rfl, rfl⟩
          · have gy := h0
            have hyF : decide (0 < (t.y.length : Int)) = false := decide_eq_false h0
            clear h0
            rcases Bool.eq_false_or_eq_true (decide (t.l = ⟨0, 0, 0, []⟩)) with hlT | hlF
            · rw [hlT] at HEQ
              as_aux_lemma =>
                go_wp2_with (first | (refine wpList_lkAt rfl rfl w.heap.size 7 t.l rfl HA.out ?_) | (refine wpList_nelk rfl rfl (lcs t.l) (lcs ⟨0, 0, 0, []⟩) true rfl rfl (HEQ.out _) ?_))
                go_meet
                case rel => exact ⟨by unfold sp2; rw [hsF, h5, hyF, hlT]; rfl, rfl⟩
            · rw [hlF] at HEQ
              rcases Bool.eq_false_or_eq_true (t.k != 7) with h7 | h7
              · as_aux_lemma =>
                  go_wp2_with (first | (refine wpList_lkAt rfl rfl w.heap.size 7 t.l rfl HA.out ?_) | (refine wpList_nelk rfl rfl (lcs t.l) (lcs ⟨0, 0, 0, []⟩) false rfl rfl (HEQ.out _) ?_))
                  go_meet
                  case rel => exact ⟨by unfold sp2; rw [hsF, h5, hyF, hlF, h7]; rfl, rfl⟩
              · as_aux_lemma =>
                  go_wp2_with (first | (refine wpList_lkAt rfl rfl w.heap.size 7 t.l rfl HA.out ?_) | (refine wpList_nelk rfl rfl (lcs t.l) (lcs ⟨0, 0, 0, []⟩) false rfl rfl (HEQ.out _) ?_))
                  go_meet
                  case rel => exact ⟨by unfold sp2; rw [hsF, h5, hyF, hlF, h7]; rfl, rfl⟩
    case rest =>
      obtain ⟨rfl, hww⟩ := hcut
      have hww := hww.symm
      subst hww
      rcases Bool.eq_false_or_eq_true (sp2 t) with h1 | h1
      · as_aux_lemma =>
        have H2 := hide h1
        rw [h1]
        go_wp2_with fail
        go_ret
        exact ⟨by unfold sparef; rw [H1.out, H2.out]; rfl, HQ0.out.1⟩
      have H2 := hide h1
      rw [h1]
      clear h1
      rcases Bool.eq_false_or_eq_true (((t.ks.length : Int) == 0)) with hk | hk
      · rcases Bool.eq_false_or_eq_true (((t.is.length : Int) == 0)) with hi | hi
        · as_aux_lemma =>
            go_wp2_with fail
            go_ret
            exact ⟨by unfold sparef sp3; rw [H1.out, H2.out, hk, hi]; rfl, HQ0.out.1⟩
        · rcases Bool.eq_false_or_eq_true (t.k == 8) with h8 | h8
          · as_aux_lemma =>
              go_wp2_with fail
              go_ret
              exact ⟨by unfold sparef sp3; rw [H1.out, H2.out, hk, hi, h8]; rfl, HQ0.out.1⟩
          · rcases Bool.eq_false_or_eq_true (t.k == 9) with h9 | h9
            · as_aux_lemma =>
                go_wp2_with fail
                go_ret
                exact ⟨by unfold sparef sp3; rw [H1.out, H2.out, hk, hi, h8, h9]; rfl, HQ0.out.1⟩
            · as_aux_lemma =>
                go_wp2_with fail
                go_ret
                exact ⟨by unfold sparef sp3; rw [H1.out, H2.out, hk, hi, h8, h9]; rfl, HQ0.out.1⟩
      · rcases Bool.eq_false_or_eq_true (t.k == 9) with h9 | h9
        · rcases Bool.eq_false_or_eq_true (((t.is.length : Int) == 0)) with hi | hi
          · as_aux_lemma =>
              go_wp2_with fail
              go_ret
              exact ⟨by unfold sparef sp3; rw [H1.out, H2.out, hk, h9, hi]; rfl, HQ0.out.1⟩
          · rcases Bool.eq_false_or_eq_true (t.k == 8) with h8 | h8
            · as_aux_lemma =>
                go_wp2_with fail
                go_ret
                exact ⟨by unfold sparef sp3; rw [H1.out, H2.out, hk, h9, hi, h8]; rfl, HQ0.out.1⟩
            · as_aux_lemma =>
                go_wp2_with fail
                go_ret
                exact ⟨by unfold sparef sp3; rw [H1.out, H2.out, hk, h9, hi, h8]; rfl, HQ0.out.1⟩
        · as_aux_lemma =>
            go_wp2_with fail
            go_ret
            exact ⟨by unfold sparef sp3; rw [H1.out, H2.out, hk, h9]; rfl, HQ0.out.1⟩
end
section
open Go.RowKit Go
theorem beq_len {α : Type} (l : List α) : (((l.length : Nat) : Int) == 0) = l.isEmpty := by cases l <;> simp <;> omega
theorem pos_len (l : List Nat) [h : Decidable (0 < ((l.length : Nat) : Int))] : @decide (0 < ((l.length : Nat) : Int)) h = !l.isEmpty := by cases l <;> simp <;> omega
theorem bne_nat (n : Nat) : (((n : Nat) : Int) != 0) = !decide (n = 0) := by rw [Bool.eq_iff_iff]; simp
theorem nil_empty (l : List Nat) [h : Decidable (l = [])] : @decide (l = []) h = l.isEmpty := by cases l <;> simp
theorem nil_emptyS (l : List ByteArray) [h : Decidable (l = [])] : @decide (l = []) h = l.isEmpty := by cases l <;> simp
def dstr (s : ByteArray) : Bool := decide (s = ⟨#[]⟩)
def dlk (l : Lk) : Bool := decide (l = ⟨0, 0, 0, []⟩)
def dnt (n : Nat) : Bool := decide (n = 0)
theorem to_dstr (s : ByteArray) [h : Decidable (s = ⟨#[]⟩)] : @decide (s = ⟨#[]⟩) h = dstr s := by unfold dstr; congr
theorem to_dlk (l : Lk) [h : Decidable (l = ⟨0, 0, 0, []⟩)] : @decide (l = ⟨0, 0, 0, []⟩) h = dlk l := by unfold dlk; congr
theorem to_dnt (n : Nat) [h : Decidable (n = 0)] : @decide (n = 0) h = dnt n := by unfold dnt; congr
theorem dstr0 : dstr ⟨#[]⟩ = true := decide_eq_true rfl
theorem dlk0 : dlk ⟨0, 0, 0, []⟩ = true := decide_eq_true rfl
theorem dnt0 : dnt 0 = true := decide_eq_true rfl
theorem sparef_eq {t : Tv} (hk : 1 ≤ t.k ∧ t.k ≤ 9) : sparef t = t.zr.cl := by
  obtain ⟨k, f, g, n, b, s, y, l, ks, is⟩ := t
  have h9 : k = 1 ∨ k = 2 ∨ k = 3 ∨ k = 4 ∨ k = 5 ∨ k = 6 ∨ k = 7 ∨ k = 8 ∨ k = 9 := by simp only [Tv.k] at hk; omega
  clear hk
  unfold sparef sp1 sp2 sp3 Tv.zr Tv.cl
  simp only [pos_len, to_dstr, to_dlk, to_dnt, bne_nat, nil_empty, nil_emptyS, beq_len]
  simp only [Tv.k, Tv.f, Tv.g, Tv.n, Tv.b, Tv.s, Tv.y, Tv.l, Tv.ks, Tv.is]
  rcases h9 with rfl | rfl | rfl | rfl | rfl | rfl | rfl | rfl | rfl <;> simp only [Int.reduceEq, ite_true, ite_false, bne_self_eq_false, dstr0, dlk0, dnt0, List.isEmpty_nil] <;> generalize dnt n = dn <;> generalize dnt b = db <;> generalize dstr s = ds <;> generalize dlk l = dl <;> generalize y.isEmpty = dy <;> generalize ks.isEmpty = dk <;> generalize is.isEmpty = di <;> revert f g dn db ds dl dy dk di <;> decide +kernel
end
end Go.Proofs.YtgcccndbahphaaaGreatDoor

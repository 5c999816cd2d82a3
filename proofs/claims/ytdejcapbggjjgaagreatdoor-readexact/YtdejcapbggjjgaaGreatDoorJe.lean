import Derived.Test.YtdejcapbggjjgaaGreatDoorJd
import Derived.Test.YtdejcapbggjjgaaGreatDoorJa
import Derived.Laws.MakeOwn
import Derived.Lib.AppendZerosOnto
import Derived.Lib.SliceRun
import Derived.Test.YtdejcapbggjjgaaGreatDoorJc
import Derived.Test.YtdejcapbggjjgaaGreatDoorJb
import Derived.Laws.Concat
namespace Go.Proofs.YtdejcapbggjjgaaGreatDoor
section
open Go.RowKit Go
/-- Digits that the table tells. -/
def tells (t : List Nat) : Prop := ∀ c, c < 256 → (plt t t.length).getD c 0 = (match look t c with | some i => i + 1 | none => 0)
end
section
open Go.RowKit Go

end
section
open Go.RowKit Go
theorem take_at (xs : List Nat) (k : Nat) (h : k < xs.length) : xs.take (k + 1) = xs.take k ++ [xs.getD k 0] := by
  rw [List.take_succ_eq_append_getElem h, List.getD_eq_getElem?_getD, List.getElem?_eq_getElem h]
  rfl
end
section
open Go.RowKit Go

end
section
open Go.RowKit Go

end
section
open Go.RowKit Go

end
section
open Go.RowKit Go

end
section
open Go.RowKit Go

end
section
open Go.RowKit Go

end
section
open Go.RowKit Go

end
section
open Go.RowKit Go

end
section
open Go.RowKit Go

end
section
open Go.RowKit Go
/-- What ending tells. -/
def lend (xs : List Nat) : Nat × List Nat × Nat × Nat := if (dread xs).2.2.2 = 0 then dread xs else (0, [], 0, lerr (dread xs).2.2.2)
theorem lend_third (v : Int) (c at' : Nat) (b : List Nat) : lthird v c at' b = if (lend (b.drop at')).2.2.2 = 0 then (⟨v, c, (lend (b.drop at')).1, (lend (b.drop at')).2.1⟩, at' + (lend (b.drop at')).2.2.1, 0) else (Lk.none, 0, (lend (b.drop at')).2.2.2) := by
  unfold lthird lend
  by_cases h : (dread (b.drop at')).2.2.2 = 0
  · rw [if_pos h, if_pos h, if_pos h]
  · rw [if_neg h, if_neg h, if_neg]
    unfold lerr
    simp only
    split <;> omega
set_option maxRecDepth 1000000 in
set_option maxHeartbeats 1000000 in
theorem lending_any (w : World) (v : Value) (xs : List Nat) (hb : BSl w v xs) :
    Calls Tryz.prog 123 #[v] w fun e w' => ∃ v', e = .returned (.tuple #[.int .u64 ((lend xs).1 : Nat), v', .int .i64 ((lend xs).2.2.1 : Nat), .int .i64 ((lend xs).2.2.2 : Nat)]) ∧ w'.ownsRow w.heap.size 5 1 v' (lend xs).2.1.length (bv (lend xs).2.1) ∧ Below w.heap.size w w' := by
  have HB := hide hb
  obtain ⟨⟨a, cap, rfl, hn, hc⟩, hmax, hby⟩ := hb
  have HLE : Hid (lend xs = if (dread xs).2.2.2 = 0 then dread xs else (0, [], 0, lerr (dread xs).2.2.2)) := rfl
  clear hn hc hby
  go_enter Tryz.func123, Tryz.ntmps123
  go_wp2_with fail
  refine (dread_any w _ xs HB.out).mono ?_
  rintro e w1 ⟨v1, rfl, ho1, hb1⟩
  have HB1 := hide hb1
  generalize dread xs = r at *
  obtain ⟨rh, rdd, rn, re⟩ := r
  simp only at ho1 HLE ⊢
  have HO1 := hide ho1
  obtain ⟨a1, c1, hv1, _⟩ := own_form ho1
  subst hv1
  clear ho1 hb1
  by_cases h0 : re = 0
  · subst h0
    have HZ : Hid (lend xs = (rh, rdd, rn, 0)) := by show _ = _; rw [HLE.out, if_pos rfl]
    clear HLE
    go_wp2_with fail
    exact bodyPost_ret (results_four rfl _ _ _) rfl ⟨_, by rw [HZ.out]; rfl, by rw [HZ.out]; exact HO1.out, HB1.out⟩
  · have g0 : ((re : Int) == 0) = false := beq_eq_false_iff_ne.2 (by omega)
    by_cases h1 : re = 32
    · subst h1
      have HZ : Hid (lend xs = (0, [], 0, 42)) := by show _ = _; rw [HLE.out]; rfl
      clear HLE
      go_wp2_with fail
      exact bodyPost_ret (results_four rfl _ _ _) rfl ⟨_, by rw [HZ.out]; rfl, by rw [HZ.out]; exact World.ownsRow_nil _ _ _ _, HB1.out⟩
    · have g1 : ((re : Int) == 32) = false := beq_eq_false_iff_ne.2 (by omega)
      by_cases h2 : re = 33
      · subst h2
        have HZ : Hid (lend xs = (0, [], 0, 42)) := by show _ = _; rw [HLE.out]; rfl
        clear HLE
        go_wp2_with fail
        exact bodyPost_ret (results_four rfl _ _ _) rfl ⟨_, by rw [HZ.out]; rfl, by rw [HZ.out]; exact World.ownsRow_nil _ _ _ _, HB1.out⟩
      · have g2 : ((re : Int) == 33) = false := beq_eq_false_iff_ne.2 (by omega)
        have HZ : Hid (lend xs = (0, [], 0, 43)) := by show _ = _; rw [HLE.out, if_neg h0]; unfold lerr; rw [if_neg (by omega)]
        clear HLE
        go_wp2_with fail
        exact bodyPost_ret (results_four rfl _ _ _) rfl ⟨_, by rw [HZ.out]; rfl, by rw [HZ.out]; exact World.ownsRow_nil _ _ _ _, HB1.out⟩
end
section
open Go.RowKit Go
/-- A link's block that is none yet. -/
structure Fz (w wx : World) : Prop where
  r : wx.heap[w.heap.size]? = some (.cells zlk 57 (0, 0))
  b : Below w.heap.size w wx
theorem Fz.below {w wx wy : World} (h : Fz w wx) (hb : Below wx.heap.size wx wy) : Fz w wy := ⟨(hb.block _ (blk_lt h.r)).trans h.r, h.b.trans (hb.mono h.b.size)⟩
theorem Fz.start (w : World) : Fz w (w.alloc (.cells #[.int .i64 0, .int .u64 0, .int .u64 0, .string ⟨#[]⟩] 57)) := ⟨heap_alloc_new w _, below_alloc4 w _⟩
theorem rd_bound4 (xs : List Nat) (h : (rd 0 0 xs).2.2 = 0) : (rd 0 0 xs).1 < 9223372036854775808 ∧ (rd 0 0 xs).2.1 ≤ xs.length := by
  have h1 := dnum_bound xs
  unfold dnum at h1
  rw [if_pos h] at h1
  have := h1 h
  exact ⟨this.1, this.2.1⟩
theorem lend_bound (xs : List Nat) : (lend xs).2.2.1 ≤ xs.length := by
  unfold lend
  by_cases h0 : (dread xs).2.2.2 = 0
  · rw [if_pos h0]
    exact (dread_back h0).1
  · rw [if_neg h0]
    simp
theorem dread_first {xs : List Nat} (h : (dread xs).2.2.2 = 0) : (dread xs).1 = (dnum xs).1 := by
  unfold dread at h ⊢
  split
  · rename_i h1
    rw [if_pos h1] at h
    exact absurd h h1
  · rename_i h1
    rw [if_neg h1] at h
    split
    · rename_i h2
      rw [if_pos h2] at h
      exact absurd h h2
    · rename_i h2
      rw [if_neg h2] at h
      split
      · rename_i h3
        rw [if_pos h3] at h
        simp at h
      · rename_i h3
        rw [if_neg h3] at h
        split
        · rename_i h4
          rw [if_pos h4] at h
          simp at h
        · rename_i h4
          rw [if_neg h4] at h
          split
          · rename_i h5
            rw [if_pos h5] at h
            simp at h
          · rfl
theorem lend_byte {xs : List Nat} (h : ∀ x ∈ xs, x < 256) : ∀ x ∈ (lend xs).2.1, x < 256 := by
  unfold lend
  split
  · exact dread_bytes4 h
  · simp
set_option maxRecDepth 1000000 in
set_option maxHeartbeats 2000000 in
theorem first4_any (w : World) (v : Value) (b : List Nat) (hb : BSl w v b) :
    Calls Tryz.prog 117 #[v] w fun e w' => e = .returned (.tuple #[lkv (lfirst b).1, .int .i64 ((lfirst b).2.1 : Nat), .int .i64 ((lfirst b).2.2 : Nat)]) ∧ Below w.heap.size w w' := by
  have HB := hide hb
  obtain ⟨⟨a, cap, rfl, hn, hc⟩, hmax, hby⟩ := hb
  have HBY := hide hby
  have HF0 := hide (Fz.start w)
  have HBV := hide (HB.out.move (keep_below HF0.out.b))
  by_cases h18 : b.head? = some 18
  · obtain ⟨r, rfl⟩ : ∃ r, b = 18 :: r := by
      cases b with
      | nil => simp at h18
      | cons x r => simp at h18; exact ⟨r, by rw [h18]⟩
    obtain ⟨bb, off, rfl, hcell⟩ := hc.resolve_left (by simp)
    have hc0 := hcell 0 (by simp)
    rw [Nat.add_zero] at hc0
    have cx := keep_below HF0.out.b _ _ hc0
    have g00 : (0 : Int) < ((18 :: r).length : Int) := by simp
    have HLF : Hid (lfirst (18 :: r) = lthird 0 112 0 (18 :: r)) := by
      show _ = _
      unfold lfirst
      rw [if_pos (show (18 :: r).head? = some 18 from rfl)]
    have HLD : Hid (lthird 0 112 0 (18 :: r) = if (lend (18 :: r)).2.2.2 = 0 then (⟨0, 112, 18, (lend (18 :: r)).2.1⟩, (lend (18 :: r)).2.2.1, 0) else (Lk.none, 0, (lend (18 :: r)).2.2.2)) := by
      show _ = _
      rw [lend_third, List.drop_zero, Nat.zero_add]
      by_cases h0 : (lend (18 :: r)).2.2.2 = 0
      · rw [if_pos h0, if_pos h0]
        have : (lend (18 :: r)).1 = 18 := by
          unfold lend at h0 ⊢
          by_cases h1 : (dread (18 :: r)).2.2.2 = 0
          · rw [if_pos h1]
            rw [dread_first h1, dnum_small (by decide)]
          · rw [if_neg h1] at h0
            unfold lerr at h0
            simp only at h0
            split at h0 <;> omega
        rw [this]
      · rw [if_neg h0, if_neg h0]
    simp only [List.getD_cons_zero] at cx
    clear hc hcell hc0 h18 hn
    generalize hLL : (18 :: r).length = LL at *
    have HLL := hide hLL
    clear hLL
    generalize hBL : 18 :: r = bl at *
    have HBLE := hide hBL
    clear hBL
    go_enter Tryz.func117, Tryz.ntmps117
    go_wp2_with fail
    generalize w.alloc (.cells #[.int .i64 0, .int .u64 0, .int .u64 0, .string ⟨#[]⟩] 57) = w0 at *
    refine (lending_any w0 _ bl HBV.out).mono ?_
    rintro e w1 ⟨v1, rfl, ho1, hb1⟩
    have HF1 := hide (HF0.out.below hb1)
    have HV1 := hide (BSl.own ho1 (lend_byte HBY.out))
    obtain ⟨a1, c1, hv1, _⟩ := own_form ho1
    subst hv1
    have HBD := hide (lend_bound bl)
    clear ho1 hb1 cx
    generalize lend bl = le at *
    obtain ⟨lh, ld, lu, lee⟩ := le
    simp only at HV1 HLD HBD ⊢
    by_cases he : lee = 0
    · subst he
      as_aux_lemma =>
      rw [if_pos rfl] at HLD
      have cv := HV1.out.text
      go_wp2_with fail
      clear cv
      refine (old_any w1 (nstr ld)).mono ?_
      rintro e w2 ⟨rfl, hb2⟩
      have HF2 := hide (HF1.out.below hb2)
      have HR2 := hide HF2.out.r
      clear hb2
      go_wp2_with (refine wpList_storeLk rfl rfl w.heap.size zlk ⟨0, 112, 18, ld⟩ rfl rfl rfl HR2.out ?_)
      exact bodyPost_ret (end_c3 rfl Tryz.underlying57 info61 rfl (row_same HR2.out) rfl rfl rfl) rfl ⟨by rw [HLF.out, HLD.out]; rfl, HF2.out.b.trans ((row_kp _ _ _).below HF2.out.b.size (fun q e => by omega))⟩
    · as_aux_lemma =>
      rw [if_neg he] at HLD
      have g1 : ((lee : Int) == 0) = false := beq_eq_false_iff_ne.2 (by omega)
      have HR1 := hide HF1.out.r
      go_wp2_with (refine wpList_zero rfl rfl w.heap.size rfl rfl HR1.out ?_)
      exact bodyPost_ret (end_c3 rfl Tryz.underlying57 info61 rfl HR1.out rfl rfl rfl) rfl ⟨by rw [HLF.out, HLD.out]; rfl, HF1.out.b⟩
  · have HNE := hide h18
    have HDN : Hid (∀ xs : List Nat, (dnum xs).2.2 ≠ 0 ↔ (rd 0 0 xs).2.2 ≠ 0) := by
      intro xs
      unfold dnum
      by_cases h : (rd 0 0 xs).2.2 = 0
      · rw [if_pos h]
      · rw [if_neg h]
        simp only
        constructor
        · intro _
          exact h
        · intro _
          split <;> decide
    have HDE : Hid (∀ xs : List Nat, (rd 0 0 xs).2.2 = 0 → dnum xs = rd 0 0 xs) := by
      intro xs h
      unfold dnum
      rw [if_pos h]
    clear h18 hn hmax
    have HML := hide HB.out.max
    by_cases h0 : b = []
    · subst h0
      as_aux_lemma =>
      clear hc
      have HLF : Hid (lfirst [] = (Lk.none, 0, 42)) := rfl
      have HR1 := hide HF0.out.r
      have HV : Hid (rd 0 0 [] = (0, 0, 10)) := rfl
      simp only [List.length_nil] at HBV ⊢
      go_enter Tryz.func117, Tryz.ntmps117
      go_wp2_with fail
      generalize w.alloc (.cells #[.int .i64 0, .int .u64 0, .int .u64 0, .string ⟨#[]⟩] 57) = w0 at *
      refine HBV.out.vread.mono ?_
      rintro e w1 ⟨rfl, rfl⟩
      rw [HV.out]
      go_wp2_with (refine wpList_zero rfl rfl w.heap.size rfl rfl HR1.out ?_)
      exact bodyPost_ret (end_c3 rfl Tryz.underlying57 info61 rfl HR1.out rfl rfl rfl) rfl ⟨by rw [HLF.out]; rfl, HF0.out.b⟩
    have hpos : 0 < b.length := List.length_pos_iff.2 h0
    have g00 : (0 : Int) < (b.length : Int) := by omega
    obtain ⟨bb, off, rfl, hcell⟩ := hc.resolve_left h0
    have hc0 := hcell 0 hpos
    rw [Nat.add_zero] at hc0
    have cx := keep_below HF0.out.b _ _ hc0
    have g18 : (((b.getD 0 0 : Nat) : Int) == 18) = false := by
      have := HNE.out
      rw [beq_eq_false_iff_ne]
      cases b with
      | nil => exact absurd rfl h0
      | cons x r => simp at this ⊢; omega
    clear hc hcell hc0 hby h0 hpos
    generalize b.getD 0 0 = x0 at cx g18
    go_enter Tryz.func117, Tryz.ntmps117
    go_wp2_with fail
    generalize w.alloc (.cells #[.int .i64 0, .int .u64 0, .int .u64 0, .string ⟨#[]⟩] 57) = w0 at *
    refine HBV.out.vread.mono ?_
    rintro e w1 ⟨rfl, rfl⟩
    have HD1 := hide (HDN.out b)
    have HE1 := hide (HDE.out b)
    have HRB := hide (rd_bound4 b)
    obtain ⟨vn, un, en, hD⟩ : ∃ vn un en, rd 0 0 b = (vn, un, en) := ⟨_, _, _, rfl⟩
    rw [hD] at HD1 HE1 HRB ⊢
    clear hD
    simp only at HD1 HE1 HRB ⊢
    have HR1 := hide HF0.out.r
    by_cases hen : en = 0
    · subst hen
      have HE2 := hide (HE1.out rfl)
      have hrb := HRB.out rfl
      by_cases hvn : vn = 1
      · subst hvn
        have HUN : Hid (un ≤ b.length) := hrb.2
        clear hrb HRB HD1 HE1
        go_wp2_with (refine wpList_drop rfl 54 55 rfl _ b un rfl rfl HBV.out HUN.out ?_)
        intro ad1 nd1 cd1 hbd1 hnd1
        have HBD1 := hide hbd1
        clear hbd1 hnd1
        go_wp2_with fail
        refine HBD1.out.vread.mono ?_
        rintro e w2 ⟨rfl, rfl⟩
        have HD3 := hide (HDN.out (b.drop un))
        have HE3 := hide (HDE.out (b.drop un))
        have HRB := hide (rd_bound4 (b.drop un))
        obtain ⟨c2, u2, e2, hD2⟩ : ∃ c2 u2 e2, rd 0 0 (b.drop un) = (c2, u2, e2) := ⟨_, _, _, rfl⟩
        rw [hD2] at HD3 HE3 HRB ⊢
        clear hD2
        simp only at HD3 HE3 HRB ⊢
        by_cases he2 : e2 = 0
        · subst he2
          have HE4 := hide (HE3.out rfl)
          have hdb2 := HRB.out rfl
          have HLF : Hid (lfirst b = lthird 1 c2 (un + u2) b) := by
            show _ = _
            unfold lfirst
            rw [if_neg HNE.out, HE2.out]
            simp only [ne_eq, not_true_eq_false, if_false]
            rw [HE4.out]
            simp
          have HAT : Hid (un + u2 ≤ b.length) := by have h1 := hdb2.2; rw [List.length_drop] at h1; have := HUN.out; show _ ≤ _; omega
          have hun : (un : Int) + (u2 : Int) ≤ 9223372036854775807 := by have := HAT.out; have := HML.out; omega
          have hsum : (un : Int) + (u2 : Int) = ((un + u2 : Nat) : Int) := by omega
          have HLD := hide (lend_third 1 c2 (un + u2) b)
          clear HRB hdb2 HUN HNE HE3 HE4 HE2 HD3 HBD1
          generalize hat4 : un + u2 = at4 at HLF HAT hsum HLD
          clear hat4
          go_wp2_with (refine wpList_drop rfl 68 69 rfl _ b at4 rfl rfl HBV.out HAT.out ?_)
          intro ad nd cd hbd hnd
          have HBD := hide hbd
          clear hbd hnd
          go_wp2_with fail
          refine (lending_any w2 _ (b.drop at4) HBD.out).mono ?_
          rintro e w5 ⟨vd, rfl, ho5, hb5⟩
          have HF5 := hide (HF0.out.below hb5)
          have HVD := hide (BSl.own ho5 (lend_byte (fun x hx => HBY.out x (List.mem_of_mem_drop hx))))
          have HLB := hide (lend_bound (b.drop at4))
          rw [List.length_drop] at HLB
          obtain ⟨ae, ce, hve, _⟩ := own_form ho5
          subst hve
          clear ho5 hb5
          generalize lend (b.drop at4) = le at *
          obtain ⟨lh, ld, lu, lee⟩ := le
          simp only at HVD HLD HLB ⊢
          by_cases he : lee = 0
          · subst he
            as_aux_lemma =>
            rw [if_pos rfl] at HLD
            have cv := HVD.out.text
            have HR5 := hide HF5.out.r
            have hnr : (at4 : Int) + (lu : Int) ≤ 9223372036854775807 := by have := HLB.out; have := HAT.out; have := HML.out; omega
            go_wp2_with (refine wpList_storeLk rfl rfl w.heap.size zlk ⟨1, c2, lh, ld⟩ rfl rfl rfl HR5.out ?_)
            exact bodyPost_ret (end_c3 rfl Tryz.underlying57 info61 rfl (row_same HR5.out) rfl rfl rfl) rfl ⟨by rw [HLF.out, HLD.out]; simp only [Int.natCast_add]; rfl, HF5.out.b.trans ((row_kp _ _ _).below HF5.out.b.size (fun q e => by omega))⟩
          · as_aux_lemma =>
            rw [if_neg he] at HLD
            have g1 : ((lee : Int) == 0) = false := beq_eq_false_iff_ne.2 (by omega)
            have HR5 := hide HF5.out.r
            go_wp2_with (refine wpList_zero rfl rfl w.heap.size rfl rfl HR5.out ?_)
            exact bodyPost_ret (end_c3 rfl Tryz.underlying57 info61 rfl HR5.out rfl rfl rfl) rfl ⟨by rw [HLF.out, HLD.out]; rfl, HF5.out.b⟩
        · as_aux_lemma =>
          have HLF : Hid (lfirst b = (Lk.none, 0, 42)) := by
            show _ = _
            unfold lfirst
            rw [if_neg HNE.out, HE2.out]
            simp only [ne_eq, not_true_eq_false, if_false]
            rw [if_pos (HD3.out.2 he2)]
          have g2 : ((e2 : Int) == 0) = false := beq_eq_false_iff_ne.2 (by omega)
          clear HRB HD3 HE3 HNE HE2
          go_wp2_with (refine wpList_zero rfl rfl w.heap.size rfl rfl HR1.out ?_)
          exact bodyPost_ret (end_c3 rfl Tryz.underlying57 info61 rfl HR1.out rfl rfl rfl) rfl ⟨by rw [HLF.out]; rfl, HF0.out.b⟩
      · as_aux_lemma =>
        have HLF : Hid (lfirst b = (Lk.none, 0, 41)) := by
          show _ = _
          unfold lfirst
          rw [if_neg HNE.out, HE2.out]
          simp [hvn]
        have g2 : ((vn : Int) == 1) = false := beq_eq_false_iff_ne.2 (by omega)
        clear HRB HD1 HE1 HE2 HNE hrb
        go_wp2_with (refine wpList_zero rfl rfl w.heap.size rfl rfl HR1.out ?_)
        exact bodyPost_ret (end_c3 rfl Tryz.underlying57 info61 rfl HR1.out rfl rfl rfl) rfl ⟨by rw [HLF.out]; rfl, HF0.out.b⟩
    · as_aux_lemma =>
      have HLF : Hid (lfirst b = (Lk.none, 0, 42)) := by
        show _ = _
        unfold lfirst
        rw [if_neg HNE.out, if_pos (HD1.out.2 hen)]
      have g2 : ((en : Int) == 0) = false := beq_eq_false_iff_ne.2 (by omega)
      clear HRB HD1 HE1 HNE
      go_wp2_with (refine wpList_zero rfl rfl w.heap.size rfl rfl HR1.out ?_)
      exact bodyPost_ret (end_c3 rfl Tryz.underlying57 info61 rfl HR1.out rfl rfl rfl) rfl ⟨by rw [HLF.out]; rfl, HF0.out.b⟩
end
section
open Go.RowKit Go
theorem sl_extract (s : ByteArray) (i j : Nat) : sl (s.extract i j) = ((sl s).take j).drop i := by
  unfold sl
  rw [ByteArray.data_extract, Array.toList_extract, List.extract_eq_take_drop, List.map_take, List.map_drop, ← List.drop_take]
theorem below_drewN (w : World) (n : Nat) : Below w.heap.size w (w.drewN n) := ((Kp.refl (fun _ => False) w).drewN n).below (Nat.le_refl _) (fun _ h => h.elim)
end
section
open Go.RowKit Go

end
section
open Go.RowKit Go
set_option maxRecDepth 1000000 in
set_option maxHeartbeats 1000000 in
theorem parse4_any (w : World) (v : Value) (b : List Nat) (hb : BSl w v b) :
    Calls Tryz.prog 110 #[v] w fun e w' => e = .returned (.tuple #[lkv (lparse b).1, .int .i64 ((lparse b).2 : Nat)]) ∧ Below w.heap.size w w' := by
  have HB := hide hb
  obtain ⟨⟨a, cap, rfl, hn, hc⟩, hmax, hby⟩ := hb
  have HF0 := hide (Fz.start w)
  clear hn hc hby
  go_enter Tryz.func110, Tryz.ntmps110
  go_wp2_with fail
  generalize w.alloc (.cells #[.int .i64 0, .int .u64 0, .int .u64 0, .string ⟨#[]⟩] 57) = w0 at *
  refine (first4_any w0 _ b (HB.out.move (keep_below HF0.out.b))).mono ?_
  rintro e w1 ⟨rfl, hb1⟩
  have HF1 := hide (HF0.out.below hb1)
  have HPR : Hid (lparse b = if (lfirst b).2.2 ≠ 0 then (Lk.none, (lfirst b).2.2) else if (lfirst b).2.1 < b.length then (Lk.none, 44) else ((lfirst b).1, 0)) := rfl
  clear hb1
  generalize lfirst b = r at *
  obtain ⟨⟨lv, lc, lh, ld⟩, n, er⟩ := r
  simp only at HPR ⊢
  have HL2 : Hid ((w1.alloc (.cells #[.int .i64 lv, .int .u64 (lc : Nat), .int .u64 (lh : Nat), .string (nstr ld)] 57)).heap[w1.heap.size]? = some (.cells (lcs ⟨lv, lc, lh, ld⟩) 57 (0, 0))) := heap_alloc_new w1 _
  have HF2 : Hid (Fz w (w1.alloc (.cells #[.int .i64 lv, .int .u64 (lc : Nat), .int .u64 (lh : Nat), .string (nstr ld)] 57))) := HF1.out.below (below_alloc4 w1 _)
  have HR2 := hide HF2.out.r
  clear HF1 HF0
  simp only [lkv]
  by_cases he : er = 0
  · subst he
    by_cases hlt : n < b.length
    · as_aux_lemma =>
      have g1 : (n : Int) < (b.length : Int) := by omega
      have HP2 : Hid (lparse b = (Lk.none, 44)) := by show _ = _; rw [HPR.out]; simp [hlt]
      clear HPR hlt
      go_wp2_with (refine wpList_zero rfl rfl w.heap.size rfl rfl HR2.out ?_)
      exact bodyPost_ret (end_c2 rfl Tryz.underlying57 info61 rfl HR2.out rfl rfl) rfl ⟨by rw [HP2.out]; rfl, HF2.out.b⟩
    · as_aux_lemma =>
      have g1 : ¬ (n : Int) < (b.length : Int) := by omega
      have HP2 : Hid (lparse b = (⟨lv, lc, lh, ld⟩, 0)) := by show _ = _; rw [HPR.out]; simp [hlt]
      clear HPR hlt
      go_wp2_with (first
        | (refine wpList_loadLk rfl rfl w1.heap.size _ rfl rfl HL2.out ?_)
        | (refine wpList_storeLk rfl rfl w.heap.size zlk ⟨lv, lc, lh, ld⟩ rfl rfl rfl HR2.out ?_))
      exact bodyPost_ret (end_c2 rfl Tryz.underlying57 info61 rfl (row_same HR2.out) rfl rfl) rfl ⟨by rw [HP2.out]; rfl, HF2.out.b.trans ((row_kp _ _ _).below HF2.out.b.size (fun q e => by omega))⟩
  · as_aux_lemma =>
    have g1 : ((er : Int) == 0) = false := beq_eq_false_iff_ne.2 (by omega)
    have HP2 : Hid (lparse b = (Lk.none, er)) := by show _ = _; rw [HPR.out]; simp [he]
    clear HPR he
    go_wp2_with (refine wpList_zero rfl rfl w.heap.size rfl rfl HR2.out ?_)
    exact bodyPost_ret (end_c2 rfl Tryz.underlying57 info61 rfl HR2.out rfl rfl) rfl ⟨by rw [HP2.out]; rfl, HF2.out.b⟩
end
section
open Go.RowKit Go

end
end Go.Proofs.YtdejcapbggjjgaaGreatDoor

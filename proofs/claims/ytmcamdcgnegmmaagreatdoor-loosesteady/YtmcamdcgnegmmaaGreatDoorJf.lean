import Derived.Test.YtmcamdcgnegmmaaGreatDoorJe
import Derived.Test.YtmcamdcgnegmmaaGreatDoorJb
import Derived.Test.YtmcamdcgnegmmaaGreatDoorSllz
import Derived.Laws.Bits64
import Derived.Laws.Bits64b
import Derived.BigQuiet
import Derived.Deep.QuietTactic
import Derived.Test.YtmcamdcgnegmmaaGreatDoorJa
import Derived.Sort.Defs
import Derived.Deep.LoopGhost
import Derived.Test.YtmcamdcgnegmmaaGreatDoorSlbl
import Derived.Sort.LotD5
import Derived.Sort.Row
set_option maxRecDepth 1000000
set_option maxHeartbeats 16000000
namespace Go.Proofs.YtmcamdcgnegmmaaGreatDoor
section
open Go.RowKit Go
structure Fz (w wx : World) : Prop where
  r : wx.heap[w.heap.size]? = some (.cells zlk 37 (0, 0))
  b : Below w.heap.size w wx
theorem Fz.below {w wx wy : World} (h : Fz w wx) (hb : Below wx.heap.size wx wy) : Fz w wy := ⟨(hb.block _ (blk_lt h.r)).trans h.r, h.b.trans (hb.mono h.b.size)⟩
theorem Fz.start (w : World) : Fz w (w.alloc (.cells #[.int .i64 0, .int .u64 0, .int .u64 0, .string ⟨#[]⟩] 37)) := ⟨heap_alloc_new w _, below_alloc4 w _⟩
theorem rd_bound4 (xs : List Nat) (h : (rd 0 0 xs).2.2 = 0) : (rd 0 0 xs).1 < 9223372036854775808 ∧ (rd 0 0 xs).2.1 ≤ xs.length := by
  have h1 := dnum_bound xs
  unfold dnum at h1
  rw [if_pos h] at h1
  have := h1 h
  exact ⟨this.1, this.2.1⟩
theorem lend_bound (xs : List Nat) : (lend xs).2.2.1 ≤ xs.length := by
  unfold lend
  by_cases h0 : (dread xs).2.2.2 = 0
  · rw [if_pos h0]
    exact (dread_back h0).1
  · rw [if_neg h0]
    simp
theorem dread_first {xs : List Nat} (h : (dread xs).2.2.2 = 0) : (dread xs).1 = (dnum xs).1 := by
  unfold dread at h ⊢
  split
  · rename_i h1
    rw [if_pos h1] at h
    exact absurd h h1
  · rename_i h1
    rw [if_neg h1] at h
    split
    · rename_i h2
      rw [if_pos h2] at h
      exact absurd h h2
    · rename_i h2
      rw [if_neg h2] at h
      split
      · rename_i h3
        rw [if_pos h3] at h
        simp at h
      · rename_i h3
        rw [if_neg h3] at h
        split
        · rename_i h4
          rw [if_pos h4] at h
          simp at h
        · rename_i h4
          rw [if_neg h4] at h
          split
          · rename_i h5
            rw [if_pos h5] at h
            simp at h
          · rfl
theorem lend_byte {xs : List Nat} (h : ∀ x ∈ xs, x < 256) : ∀ x ∈ (lend xs).2.1, x < 256 := by
  unfold lend
  split
  · exact dread_bytes4 h
  · simp
theorem first4_any (w : World) (v : Value) (b : List Nat) (hb : BSl w v b) :
    Calls Tryz.prog 71 #[v] w fun e w' => e = .returned (.tuple #[lkv (lfirst b).1, .int .i64 ((lfirst b).2.1 : Nat), .int .i64 ((lfirst b).2.2 : Nat)]) ∧ Below w.heap.size w w' := by
  have HB := hide hb
  obtain ⟨⟨a, cap, rfl, hn, hc⟩, hmax, hby⟩ := hb
  have HBY := hide hby
  have HF0 := hide (Fz.start w)
  have HBV := hide (HB.out.move (keep_below HF0.out.b))
  by_cases h18 : b.head? = some 18
  · obtain ⟨r, rfl⟩ : ∃ r, b = 18 :: r := by
      cases b with
      | nil => simp at h18
      | cons x r => simp at h18; exact ⟨r, by rw [h18]⟩
    obtain ⟨bb, off, rfl, hcell⟩ := hc.resolve_left (by simp)
    have hc0 := hcell 0 (by simp)
    rw [Nat.add_zero] at hc0
    have cx := keep_below HF0.out.b _ _ hc0
    have g00 : (0 : Int) < ((18 :: r).length : Int) := by simp
    have HLF : Hid (lfirst (18 :: r) = lthird 0 112 0 (18 :: r)) := by
      show _ = _
      unfold lfirst
      rw [if_pos (show (18 :: r).head? = some 18 from rfl)]
    have HLD : Hid (lthird 0 112 0 (18 :: r) = if (lend (18 :: r)).2.2.2 = 0 then (⟨0, 112, 18, (lend (18 :: r)).2.1⟩, (lend (18 :: r)).2.2.1, 0) else (Lk.none, 0, (lend (18 :: r)).2.2.2)) := by
      show _ = _
      rw [lend_third, List.drop_zero, Nat.zero_add]
      by_cases h0 : (lend (18 :: r)).2.2.2 = 0
      · rw [if_pos h0, if_pos h0]
        have : (lend (18 :: r)).1 = 18 := by
          unfold lend at h0 ⊢
          by_cases h1 : (dread (18 :: r)).2.2.2 = 0
          · rw [if_pos h1]
            rw [dread_first h1, dnum_small (by decide)]
          · rw [if_neg h1] at h0
            unfold lerr at h0
            simp only at h0
            split at h0 <;> omega
        rw [this]
      · rw [if_neg h0, if_neg h0]
    simp only [List.getD_cons_zero] at cx
    clear hc hcell hc0 h18 hn
    generalize hLL : (18 :: r).length = LL at *
    have HLL := hide hLL
    clear hLL
    generalize hBL : 18 :: r = bl at *
    have HBLE := hide hBL
    clear hBL
    go_enter Tryz.func71, Tryz.ntmps71
    go_wp2_with fail
    generalize w.alloc (.cells #[.int .i64 0, .int .u64 0, .int .u64 0, .string ⟨#[]⟩] 37) = w0 at *
    refine (lending_any w0 _ bl HBV.out).mono ?_
    rintro e w1 ⟨v1, rfl, ho1, hb1⟩
    have HF1 := hide (HF0.out.below hb1)
    have HV1 := hide (BSl.own ho1 (lend_byte HBY.out))
    obtain ⟨a1, c1, hv1, _⟩ := own_form ho1
    subst hv1
    have HBD := hide (lend_bound bl)
    clear ho1 hb1 cx
    generalize lend bl = le at *
    obtain ⟨lh, ld, lu, lee⟩ := le
    simp only at HV1 HLD HBD ⊢
    by_cases he : lee = 0
    · subst he
      as_aux_lemma =>
      rw [if_pos rfl] at HLD
      have cv := HV1.out.text
      go_wp2_with fail
      clear cv
      refine (old_any w1 (nstr ld)).mono ?_
      rintro e w2 ⟨rfl, hb2⟩
      have HF2 := hide (HF1.out.below hb2)
      have HR2 := hide HF2.out.r
      clear hb2
      go_wp2_with (refine wpList_storeLk rfl rfl w.heap.size zlk ⟨0, 112, 18, ld⟩ rfl rfl rfl HR2.out ?_)
      exact bodyPost_ret (end_c3 rfl Tryz.underlying37 info61 rfl (row_same HR2.out) rfl rfl rfl) rfl ⟨by rw [HLF.out, HLD.out]; rfl, HF2.out.b.trans ((row_kp _ _ _).below HF2.out.b.size (fun q e => by omega))⟩
    · as_aux_lemma =>
      rw [if_neg he] at HLD
      have g1 : ((lee : Int) == 0) = false := beq_eq_false_iff_ne.2 (by omega)
      have HR1 := hide HF1.out.r
      go_wp2_with (refine wpList_zero rfl rfl w.heap.size rfl rfl HR1.out ?_)
      exact bodyPost_ret (end_c3 rfl Tryz.underlying37 info61 rfl HR1.out rfl rfl rfl) rfl ⟨by rw [HLF.out, HLD.out]; rfl, HF1.out.b⟩
  · have HNE := hide h18
    have HDN : Hid (∀ xs : List Nat, (dnum xs).2.2 ≠ 0 ↔ (rd 0 0 xs).2.2 ≠ 0) := by
      intro xs
      unfold dnum
      by_cases h : (rd 0 0 xs).2.2 = 0
      · rw [if_pos h]
      · rw [if_neg h]
        simp only
        constructor
        · intro _
          exact h
        · intro _
          split <;> decide
    have HDE : Hid (∀ xs : List Nat, (rd 0 0 xs).2.2 = 0 → dnum xs = rd 0 0 xs) := by
      intro xs h
      unfold dnum
      rw [if_pos h]
    clear h18 hn hmax
    have HML := hide HB.out.max
    by_cases h0 : b = []
    · subst h0
      as_aux_lemma =>
      clear hc
      have HLF : Hid (lfirst [] = (Lk.none, 0, 42)) := rfl
      have HR1 := hide HF0.out.r
      have HV : Hid (rd 0 0 [] = (0, 0, 10)) := rfl
      simp only [List.length_nil] at HBV ⊢
      go_enter Tryz.func71, Tryz.ntmps71
      go_wp2_with fail
      generalize w.alloc (.cells #[.int .i64 0, .int .u64 0, .int .u64 0, .string ⟨#[]⟩] 37) = w0 at *
      refine HBV.out.vread.mono ?_
      rintro e w1 ⟨rfl, rfl⟩
      rw [HV.out]
      go_wp2_with (refine wpList_zero rfl rfl w.heap.size rfl rfl HR1.out ?_)
      exact bodyPost_ret (end_c3 rfl Tryz.underlying37 info61 rfl HR1.out rfl rfl rfl) rfl ⟨by rw [HLF.out]; rfl, HF0.out.b⟩
    have hpos : 0 < b.length := List.length_pos_iff.2 h0
    have g00 : (0 : Int) < (b.length : Int) := by omega
    obtain ⟨bb, off, rfl, hcell⟩ := hc.resolve_left h0
    have hc0 := hcell 0 hpos
    rw [Nat.add_zero] at hc0
    have cx := keep_below HF0.out.b _ _ hc0
    have g18 : (((b.getD 0 0 : Nat) : Int) == 18) = false := by
      have := HNE.out
      rw [beq_eq_false_iff_ne]
      cases b with
      | nil => exact absurd rfl h0
      | cons x r => simp at this ⊢; omega
    clear hc hcell hc0 hby h0 hpos
    generalize b.getD 0 0 = x0 at cx g18
    go_enter Tryz.func71, Tryz.ntmps71
    go_wp2_with fail
    generalize w.alloc (.cells #[.int .i64 0, .int .u64 0, .int .u64 0, .string ⟨#[]⟩] 37) = w0 at *
    refine HBV.out.vread.mono ?_
    rintro e w1 ⟨rfl, rfl⟩
    have HD1 := hide (HDN.out b)
    have HE1 := hide (HDE.out b)
    have HRB := hide (rd_bound4 b)
    obtain ⟨vn, un, en, hD⟩ : ∃ vn un en, rd 0 0 b = (vn, un, en) := ⟨_, _, _, rfl⟩
    rw [hD] at HD1 HE1 HRB ⊢
    clear hD
    simp only at HD1 HE1 HRB ⊢
    have HR1 := hide HF0.out.r
    by_cases hen : en = 0
    · subst hen
      have HE2 := hide (HE1.out rfl)
      have hrb := HRB.out rfl
      by_cases hvn : vn = 1
      · subst hvn
        have HUN : Hid (un ≤ b.length) := hrb.2
        clear hrb HRB HD1 HE1
        go_wp2_with (refine wpList_drop rfl 54 55 rfl _ b un rfl rfl HBV.out HUN.out ?_)
        intro ad1 nd1 cd1 hbd1 hnd1
        have HBD1 := hide hbd1
        clear hbd1 hnd1
        go_wp2_with fail
        refine HBD1.out.vread.mono ?_
        rintro e w2 ⟨rfl, rfl⟩
        have HD3 := hide (HDN.out (b.drop un))
        have HE3 := hide (HDE.out (b.drop un))
        have HRB := hide (rd_bound4 (b.drop un))
        obtain ⟨c2, u2, e2, hD2⟩ : ∃ c2 u2 e2, rd 0 0 (b.drop un) = (c2, u2, e2) := ⟨_, _, _, rfl⟩
        rw [hD2] at HD3 HE3 HRB ⊢
        clear hD2
        simp only at HD3 HE3 HRB ⊢
        by_cases he2 : e2 = 0
        · subst he2
          have HE4 := hide (HE3.out rfl)
          have hdb2 := HRB.out rfl
          have HLF : Hid (lfirst b = lthird 1 c2 (un + u2) b) := by
            show _ = _
            unfold lfirst
            rw [if_neg HNE.out, HE2.out]
            simp only [ne_eq, not_true_eq_false, if_false]
            rw [HE4.out]
            simp
          have HAT : Hid (un + u2 ≤ b.length) := by have h1 := hdb2.2; rw [List.length_drop] at h1; have := HUN.out; show _ ≤ _; omega
          have hun : (un : Int) + (u2 : Int) ≤ 9223372036854775807 := by have := HAT.out; have := HML.out; omega
          have hsum : (un : Int) + (u2 : Int) = ((un + u2 : Nat) : Int) := by omega
          have HLD := hide (lend_third 1 c2 (un + u2) b)
          clear HRB hdb2 HUN HNE HE3 HE4 HE2 HD3 HBD1
          generalize hat4 : un + u2 = at4 at HLF HAT hsum HLD
          clear hat4
          go_wp2_with (refine wpList_drop rfl 68 69 rfl _ b at4 rfl rfl HBV.out HAT.out ?_)
          intro ad nd cd hbd hnd
          have HBD := hide hbd
          clear hbd hnd
          go_wp2_with fail
          refine (lending_any w2 _ (b.drop at4) HBD.out).mono ?_
          rintro e w5 ⟨vd, rfl, ho5, hb5⟩
          have HF5 := hide (HF0.out.below hb5)
          have HVD := hide (BSl.own ho5 (lend_byte (fun x hx => HBY.out x (List.mem_of_mem_drop hx))))
          have HLB := hide (lend_bound (b.drop at4))
          rw [List.length_drop] at HLB
          obtain ⟨ae, ce, hve, _⟩ := own_form ho5
          subst hve
          clear ho5 hb5
          generalize lend (b.drop at4) = le at *
          obtain ⟨lh, ld, lu, lee⟩ := le
          simp only at HVD HLD HLB ⊢
          by_cases he : lee = 0
          · subst he
            as_aux_lemma =>
            rw [if_pos rfl] at HLD
            have cv := HVD.out.text
            have HR5 := hide HF5.out.r
            have hnr : (at4 : Int) + (lu : Int) ≤ 9223372036854775807 := by have := HLB.out; have := HAT.out; have := HML.out; omega
            go_wp2_with (refine wpList_storeLk rfl rfl w.heap.size zlk ⟨1, c2, lh, ld⟩ rfl rfl rfl HR5.out ?_)
            exact bodyPost_ret (end_c3 rfl Tryz.underlying37 info61 rfl (row_same HR5.out) rfl rfl rfl) rfl ⟨by rw [HLF.out, HLD.out]; simp only [Int.natCast_add]; rfl, HF5.out.b.trans ((row_kp _ _ _).below HF5.out.b.size (fun q e => by omega))⟩
          · as_aux_lemma =>
            rw [if_neg he] at HLD
            have g1 : ((lee : Int) == 0) = false := beq_eq_false_iff_ne.2 (by omega)
            have HR5 := hide HF5.out.r
            go_wp2_with (refine wpList_zero rfl rfl w.heap.size rfl rfl HR5.out ?_)
            exact bodyPost_ret (end_c3 rfl Tryz.underlying37 info61 rfl HR5.out rfl rfl rfl) rfl ⟨by rw [HLF.out, HLD.out]; rfl, HF5.out.b⟩
        · as_aux_lemma =>
          have HLF : Hid (lfirst b = (Lk.none, 0, 42)) := by
            show _ = _
            unfold lfirst
            rw [if_neg HNE.out, HE2.out]
            simp only [ne_eq, not_true_eq_false, if_false]
            rw [if_pos (HD3.out.2 he2)]
          have g2 : ((e2 : Int) == 0) = false := beq_eq_false_iff_ne.2 (by omega)
          clear HRB HD3 HE3 HNE HE2
          go_wp2_with (refine wpList_zero rfl rfl w.heap.size rfl rfl HR1.out ?_)
          exact bodyPost_ret (end_c3 rfl Tryz.underlying37 info61 rfl HR1.out rfl rfl rfl) rfl ⟨by rw [HLF.out]; rfl, HF0.out.b⟩
      · as_aux_lemma =>
        have HLF : Hid (lfirst b = (Lk.none, 0, 41)) := by
          show _ = _
          unfold lfirst
          rw [if_neg HNE.out, HE2.out]
          simp [hvn]
        have g2 : ((vn : Int) == 1) = false := beq_eq_false_iff_ne.2 (by omega)
        clear HRB HD1 HE1 HE2 HNE hrb
        go_wp2_with (refine wpList_zero rfl rfl w.heap.size rfl rfl HR1.out ?_)
        exact bodyPost_ret (end_c3 rfl Tryz.underlying37 info61 rfl HR1.out rfl rfl rfl) rfl ⟨by rw [HLF.out]; rfl, HF0.out.b⟩
    · as_aux_lemma =>
      have HLF : Hid (lfirst b = (Lk.none, 0, 42)) := by
        show _ = _
        unfold lfirst
        rw [if_neg HNE.out, if_pos (HD1.out.2 hen)]
      have g2 : ((en : Int) == 0) = false := beq_eq_false_iff_ne.2 (by omega)
      clear HRB HD1 HE1 HNE
      go_wp2_with (refine wpList_zero rfl rfl w.heap.size rfl rfl HR1.out ?_)
      exact bodyPost_ret (end_c3 rfl Tryz.underlying37 info61 rfl HR1.out rfl rfl rfl) rfl ⟨by rw [HLF.out]; rfl, HF0.out.b⟩
end
section
open Go.RowKit Go
theorem parse4_any (w : World) (v : Value) (b : List Nat) (hb : BSl w v b) :
    Calls Tryz.prog 47 #[v] w fun e w' => e = .returned (.tuple #[lkv (lparse b).1, .int .i64 ((lparse b).2 : Nat)]) ∧ Below w.heap.size w w' := by
  have HB := hide hb
  obtain ⟨⟨a, cap, rfl, hn, hc⟩, hmax, hby⟩ := hb
  have HF0 := hide (Fz.start w)
  clear hn hc hby
  go_enter Tryz.func47, Tryz.ntmps47
  go_wp2_with fail
  generalize w.alloc (.cells #[.int .i64 0, .int .u64 0, .int .u64 0, .string ⟨#[]⟩] 37) = w0 at *
  refine (first4_any w0 _ b (HB.out.move (keep_below HF0.out.b))).mono ?_
  rintro e w1 ⟨rfl, hb1⟩
  have HF1 := hide (HF0.out.below hb1)
  have HPR : Hid (lparse b = if (lfirst b).2.2 ≠ 0 then (Lk.none, (lfirst b).2.2) else if (lfirst b).2.1 < b.length then (Lk.none, 44) else ((lfirst b).1, 0)) := rfl
  clear hb1
  generalize lfirst b = r at *
  obtain ⟨⟨lv, lc, lh, ld⟩, n, er⟩ := r
  simp only at HPR ⊢
  have HL2 : Hid ((w1.alloc (.cells #[.int .i64 lv, .int .u64 (lc : Nat), .int .u64 (lh : Nat), .string (nstr ld)] 37)).heap[w1.heap.size]? = some (.cells (lcs ⟨lv, lc, lh, ld⟩) 37 (0, 0))) := heap_alloc_new w1 _
  have HF2 : Hid (Fz w (w1.alloc (.cells #[.int .i64 lv, .int .u64 (lc : Nat), .int .u64 (lh : Nat), .string (nstr ld)] 37))) := HF1.out.below (below_alloc4 w1 _)
  have HR2 := hide HF2.out.r
  clear HF1 HF0
  simp only [lkv]
  by_cases he : er = 0
  · subst he
    by_cases hlt : n < b.length
    · as_aux_lemma =>
      have g1 : (n : Int) < (b.length : Int) := by omega
      have HP2 : Hid (lparse b = (Lk.none, 44)) := by show _ = _; rw [HPR.out]; simp [hlt]
      clear HPR hlt
      go_wp2_with (refine wpList_zero rfl rfl w.heap.size rfl rfl HR2.out ?_)
      exact bodyPost_ret (end_c2 rfl Tryz.underlying37 info61 rfl HR2.out rfl rfl) rfl ⟨by rw [HP2.out]; rfl, HF2.out.b⟩
    · as_aux_lemma =>
      have g1 : ¬ (n : Int) < (b.length : Int) := by omega
      have HP2 : Hid (lparse b = (⟨lv, lc, lh, ld⟩, 0)) := by show _ = _; rw [HPR.out]; simp [hlt]
      clear HPR hlt
      go_wp2_with (first
        | (refine wpList_loadLk rfl rfl w1.heap.size _ rfl rfl HL2.out ?_)
        | (refine wpList_storeLk rfl rfl w.heap.size zlk ⟨lv, lc, lh, ld⟩ rfl rfl rfl HR2.out ?_))
      exact bodyPost_ret (end_c2 rfl Tryz.underlying37 info61 rfl (row_same HR2.out) rfl rfl) rfl ⟨by rw [HP2.out]; rfl, HF2.out.b.trans ((row_kp _ _ _).below HF2.out.b.size (fun q e => by omega))⟩
  · as_aux_lemma =>
    have g1 : ((er : Int) == 0) = false := beq_eq_false_iff_ne.2 (by omega)
    have HP2 : Hid (lparse b = (Lk.none, er)) := by show _ = _; rw [HPR.out]; simp [he]
    clear HPR he
    go_wp2_with (refine wpList_zero rfl rfl w.heap.size rfl rfl HR2.out ?_)
    exact bodyPost_ret (end_c2 rfl Tryz.underlying37 info61 rfl HR2.out rfl rfl) rfl ⟨by rw [HP2.out]; rfl, HF2.out.b⟩
end
section
open Go.RowKit Go
section
variable {w wx wy : World} {N0 g : Nat} {v : Value} {b : List Nat} {dp p op p' op' : Nat} {vn vx vx' : Value} {ns ns' : List (Nat × Nat)}
theorem Itp.keptB {H : Nat} {c : Array Value} {T : TypeId} (h : Itp wx N0 g v b dp p op vx ns) (hH : wx.heap[H]? = some (.cells c T (0, 0))) (hT : T ≠ 60 ∧ T ≠ 55) (hk : Kp (fun q => q = g ∨ vx.ownBlock = some q) wx wy) : wy.heap[H]? = some (.cells c T (0, 0)) := by
  refine (hk.block _ (blk_lt hH) (fun e => ?_)).trans hH
  rcases e with e | e
  · have h1 := h.r.blk
    rw [← e, hH] at h1
    injection h1 with h1
    injection h1 with _ h2 _
    exact hT.1 h2
  · exact own_not h.o hH (fun e => hT.2 e.symm) e
theorem Itg.setB {H : Nat} {c c' : Array Value} {T : TypeId} (h : Itg w wx N0 g v b dp p op vn vx ns) (hH : wx.heap[H]? = some (.cells c T (0, 0))) (hT : T ≠ 60 ∧ T ≠ 55) (hw : w.heap.size ≤ H) (hN : N0 ≤ w.heap.size) : Itg w (wx.setRow H c') N0 g v b dp p op vn vx ns := by
  have hkr := row_kp wx H c'
  have hg := h.i.g
  have h1 : H ≠ g := fun e => by
    have h1 := h.i.r.blk
    rw [← e, hH] at h1
    injection h1 with h1
    injection h1 with _ h2 _
    exact hT.1 h2
  have hks : Kp (fun q => N0 ≤ q) wx (wx.setRow H c') := hkr.mono (fun q _ e => by omega)
  exact ⟨⟨⟨(hkr.block _ (blk_lt h.i.r.blk) (fun e => h1 e.symm)).trans h.i.r.blk, h.i.r.z, h.i.r.c0, h.i.r.c2, fun wy hy => h.i.bs wy (hks.trans hy (fun q _ e => by omega)), h.i.r.hb, h.i.r.hp, h.i.r.ho⟩, hkr.owns h.i.o (fun q e eq => own_not h.i.o hH (fun e => hT.2 e.symm) (eq ▸ e)), hg, fun wy hy => h.i.bs wy (hks.trans hy (fun _ _ e => e))⟩, h.k.trans hkr (fun q hq e => by omega), h.n⟩
end
theorem Itg.kout {w wx wy : World} {N0 g : Nat} {v : Value} {b : List Nat} {dp p op : Nat} {vn vx : Value} {ns : List (Nat × Nat)} (h : Itg w wx N0 g v b dp p op vn vx ns) (hk : Kp (fun q => q = g ∨ vx.ownBlock = some q) wx wy) : Kp (fun q => q = g ∨ vn.ownBlock = some q) w wy := by
  refine h.k.trans hk (fun q hq e => ?_)
  rcases e with e | e
  · exact .inl e
  · rcases h.n with hn | hn
    · exact .inr (hn ▸ e)
    · have := hn q e
      omega
theorem oct_256 {b : List Nat} {dp J op p : Nat} {h : HR} {ns : List (Nat × Nat)} {x : List Nat × List (Nat × Nat) × Nat} (hq : ∀ x ∈ b, x < 256) (hx : lallg (fun xs _ ys => xs ++ ys) b dp J op p h [] ns = .ok x) : ∀ y ∈ x.1, y < 256 :=
  lallg_inv (P := fun s : List Nat => ∀ y ∈ s, y < 256) (fun s _ ys hy hs y hm => (List.mem_append.1 hm).elim (hs y) (fun h => hq y (hy y h))) (fun y hy => by cases hy) hx
theorem item9_ok {w : World} {g : Nat} {T : TypeId} {C : Array Value} {v : Value} {b : List Nat} {dp p op : Nat} (hR : Rdr w g T C v b dp p op) {x : HR × Nat} (hx : litem b dp p op = .ok x) : Calls Tryz.prog 23 #[.pointer (some ⟨g, 0, none⟩)] w fun e w' => e = .returned x.1.val ∧ Rdr w' g T C v b dp x.2 op ∧ Kp (fun q => q = g) w w' := by
  refine (item9_any hR).mono ?_
  rintro e w' ⟨hk, ⟨y, hy, rfl, hr⟩ | ⟨c, q, hy, rfl⟩⟩
  · rw [hx] at hy
    injection hy with hy
    subst hy
    exact ⟨rfl, hr, hk⟩
  · rw [hx] at hy
    cases hy
theorem item9_no {w : World} {g : Nat} {T : TypeId} {C : Array Value} {v : Value} {b : List Nat} {dp p op : Nat} (hR : Rdr w g T C v b dp p op) {c q : Nat} (hx : litem b dp p op = .error (c, q)) : Calls Tryz.prog 23 #[.pointer (some ⟨g, 0, none⟩)] w fun e w' => e = .panicked [{ v := .iface 31 (.agg #[.int .i64 (c : Nat), .int .i64 (q : Nat)]), recovered := false }] ∧ Kp (fun q => q = g) w w' := by
  refine (item9_any hR).mono ?_
  rintro e w' ⟨hk, ⟨y, hy, rfl, hr⟩ | ⟨c, q, hy, rfl⟩⟩
  · rw [hx] at hy
    cases hy
  · rw [hx] at hy
    injection hy with hy
    injection hy with h1 h2
    subst h1 h2
    exact ⟨rfl, hk⟩
theorem item_ok {b : List Nat} {dp p op : Nat} {x : HR × Nat} (h : litem b dp p op = .ok x) : x.1.u ≤ x.2 ∧ p ≤ x.2 := by
  unfold litem lbind at h
  split at h
  · cases h
  · dsimp only at h
    split at h
    · cases h
    · injection h with h
      subst h
      exact ⟨by simp, by simp⟩
theorem end_l9 {wx : World} {R : Nat} {c : Array Value} {fn : Func} {p : Tmp} {tmps : Array Value} (hf : fn.results = #[.cell p 37]) (hr : wx.heap[R]? = some (.cells c 37 (0, 0))) (hp : tmps.getD p undef = .pointer (some ⟨R, 0, none⟩)) (hn : c.size = 4) : (results fn tmps).run Tryz.prog wx = .ok (.agg c) wx :=
  results_cell_row hf tmps wx R 37 c (0, 0) _ hp hr Tryz.underlying37 rfl (by rw [hn]; exact info61)
def llnk (b : List Nat) (dp J op at' p n : Nat) (ns : List (Nat × Nat)) : Lx (Lk × List (Nat × Nat) × Nat) := if n ≠ 42 then .error (95, at') else lbind (litem b dp p op) fun y => if y.1.m ≠ 2 then .error (95, at') else lbind (lallg (fun xs _ ys => xs ++ ys) b dp J op y.2 y.1 [] (lnot y.2 y.1 ns)) fun x => if x.1.head? ≠ some 0 then .error (95, at') else if (lparse (x.1.drop 1)).2 ≠ 0 then .error (95, at') else .ok ((lparse (x.1.drop 1)).1, x.2.1, x.2.2)
def LnkP (w : World) (N0 g : Nat) (v : Value) (b : List Nat) (dp op : Nat) (vn : Value) (r : Lx (Lk × List (Nat × Nat) × Nat)) (e : Ending) (w' : World) : Prop := (∃ x vx, r = .ok x ∧ e = .returned (lkv x.1) ∧ Itg w w' N0 g v b dp x.2.2 op vn vx x.2.1) ∨ ∃ c q, r = .error (c, q) ∧ e = gup c q ∧ Kp (fun q => q = g ∨ vn.ownBlock = some q) w w'
theorem lkv_lcs (l : Lk) : lkv l = .agg (lcs l) := rfl
theorem link9_any {w : World} {N0 g : Nat} {v : Value} {b : List Nat} {dp p op : Nat} {vn : Value} {ns : List (Nat × Nat)} (hI : Itp w N0 g v b dp p op vn ns) (hq : ∀ x ∈ b, x < 256) (at' : Nat) (h : HR) (J : Nat) (hJ : b.length + 1 ≤ J) (hn : ns.length + 2 * (b.length - p) ≤ 999990) : Calls Tryz.prog 31 #[.pointer (some ⟨g, 0, none⟩), .int .i64 (at' : Nat), h.val] w (LnkP w N0 g v b dp op vn (llnk b dp J op at' p h.n ns)) := by
  obtain ⟨LS, hLS⟩ : ∃ LS, LS = llnk b dp J op at' p h.n ns := ⟨_, rfl⟩
  rw [← hLS]
  obtain ⟨hm', hi, hn', hu', hs, he⟩ := h
  replace hLS : LS = llnk b dp J op at' p hn' ns := hLS
  unfold llnk at hLS
  have HLS := hide hLS
  obtain ⟨w1, hw1⟩ : ∃ w1, w1 = w.alloc (.cells #[.int .i64 (hm' : Nat), .int .i64 (hi : Nat), .int .u64 (hn' : Nat), .int .i64 (hu' : Nat), .bool hs] 66) := ⟨_, rfl⟩
  obtain ⟨w2, hw2⟩ : ∃ w2, w2 = w1.alloc (.cells #[.int .i64 0, .int .u64 0, .int .u64 0, .string ⟨#[]⟩] 37) := ⟨_, rfl⟩
  have hb1 : Below w.heap.size w w1 := hw1 ▸ below_alloc4 w _
  have hb2 : Below w1.heap.size w1 w2 := hw2 ▸ below_alloc4 w1 _
  have hz1 : w1.heap.size = w.heap.size + 1 := by rw [hw1]; simp
  have hg1 := heap_alloc_new w (.cells #[.int .i64 (hm' : Nat), .int .i64 (hi : Nat), .int .u64 (hn' : Nat), .int .i64 (hu' : Nat), .bool hs] 66)
  rw [← hw1] at hg1
  have hg2 := heap_alloc_new w1 (.cells #[.int .i64 0, .int .u64 0, .int .u64 0, .string ⟨#[]⟩] 37)
  rw [← hw2, hz1] at hg2
  have HL0 := hide hg2
  have HH0 := hide ((hb2.block _ (blk_lt hg1)).trans hg1)
  have d2 : w2.cell? ⟨w.heap.size, 2, none⟩ = some (.int .u64 (hn' : Nat)) := blk_cell (j := 2) HH0.out rfl
  have HI2 := hide (hI.next (hb1.trans (hb2.mono hb1.size)))
  have HN0 : Hid (N0 ≤ w.heap.size) := by have h1 := hI.g; have h2 := blk_lt hI.r.blk; show _ ≤ _; omega
  have HNN := hide hn
  have HJJ := hide hJ
  have HQ := hide hq
  simp only [HR.val]
  clear hI hq hJ hn hLS hb1 hb2 hz1 hg1 hg2
  go_enter Tryz.func31, Tryz.ntmps31
  go_upto_region 1 with fail
  rw [← hw1, ← hw2]
  clear hw1 hw2
  by_cases h42 : hn' = 42
  · have g1 : ((hn' : Int) != 42) = false := by rw [bne_eq_false_iff_eq]; omega
    have HL2 := hide (HLS.out.trans (if_neg (fun h => h h42)))
    clear h42 HLS
    obtain ⟨PC, hpc⟩ : ∃ PC, PC = litem b dp p op := ⟨_, rfl⟩
    have HHD : Hid (∀ x, PC = .ok x → Hdo b dp op x ∧ p < x.2 ∧ x.2 ≤ b.length ∧ x.1.u ≤ x.2) := fun x hx => by rw [hpc] at hx; exact ⟨(item_ris b dp p op).2 x hx, ((item_ris b dp p op).1.ok x hx).1, ((item_ris b dp p op).1.ok x hx).2, (item_ok hx).1⟩
    rw [← hpc] at HL2
    have HPC := hide hpc.symm
    clear hpc
    cases PC with
    | error x =>
      as_aux_lemma =>
      obtain ⟨c, q⟩ := x
      have HL3 : Hid (LS = .error (c, q)) := HL2.out
      have HCI := hide (item9_no HI2.out.i.r HPC.out)
      clear HL2 HHD
      go_wp2_with fail
      refine HCI.out.mono ?_
      rintro e w3 ⟨rfl, hk3⟩
      have HKE : Hid (Kp (fun q => q = g ∨ vn.ownBlock = some q) w w3) := HI2.out.k.trans hk3 (fun _ _ e => .inl e)
      clear hk3 HCI
      go_wp2_with fail
      exact ⟨rfl, .inr ⟨c, q, HL3.out, rfl, HKE.out⟩⟩
    | ok x =>
      obtain ⟨⟨ym, yi, yn, yu, ys, ye⟩, yp⟩ := x
      have HHY := hide (HHD.out _ rfl)
      have HL3 : Hid (LS = if ym ≠ 2 then .error (95, at') else lbind (lallg (fun xs _ ys => xs ++ ys) b dp J op yp ⟨ym, yi, yn, yu, ys, ye⟩ [] (lnot yp ⟨ym, yi, yn, yu, ys, ye⟩ ns)) fun x => if x.1.head? ≠ some 0 then .error (95, at') else if (lparse (x.1.drop 1)).2 ≠ 0 then .error (95, at') else .ok ((lparse (x.1.drop 1)).1, x.2.1, x.2.2)) := HL2.out
      have HCI := hide (item9_ok HI2.out.i.r HPC.out)
      clear HL2 HHD
      go_wp2_with fail
      refine HCI.out.mono ?_
      rintro e w3 ⟨rfl, hr3, hk3⟩
      have h33 := HI2.out.i.rdr hr3 hk3
      have HI3 := hide (HI2.out.trans h33)
      have HL1 := hide (HI2.out.i.keptB HL0.out (by decide) h33.k)
      have HYV : Hid (HR.val ⟨ym, yi, yn, yu, ys, ye⟩ = .agg #[.int .i64 (ym : Nat), .int .i64 (yi : Nat), .int .u64 (yn : Nat), .int .i64 (yu : Nat), .bool ys]) := rfl
      have HNO := hide (noted9_any HI3.out.i (by have h1 := HNN.out; omega) ⟨ym, yi, yn, yu, ys, ye⟩ HHY.out.2.2.2)
      rw [HYV.out] at HNO
      clear hr3 hk3 h33 HCI HL0 HI2 d2
      simp only [HYV.out]
      go_wp2_with fail
      refine HNO.out.mono ?_
      rintro e w4 ⟨rfl, hP⟩
      obtain ⟨vx4, h44⟩ := hP.out
      have hI4 := HI3.out.trans h44
      have hL4 := HI3.out.i.keptB HL1.out (by decide) h44.k
      have hba := below_alloc4 w4 (.cells #[.int .i64 0, .int .i64 0, .int .u64 0, .int .i64 0, .bool false] 66)
      have hIa := hI4.trans (hI4.i.next hba)
      have hLa := (hba.block _ (blk_lt hL4)).trans hL4
      have HAL := hide (heap_alloc_new w4 (.cells #[.int .i64 0, .int .i64 0, .int .u64 0, .int .i64 0, .bool false] 66))
      have HI5s : Hid ((Tryz.prog.info? 66).map (·.size) = some (#[.int .i64 (ym : Nat), .int .i64 (yi : Nat), .int .u64 (yn : Nat), .int .i64 (yu : Nat), .bool ys] : Array Value).size) := infoHd
      have HA5 : Hid ((#[.int .i64 (ym : Nat), .int .i64 (yi : Nat), .int .u64 (yn : Nat), .int .i64 (yu : Nat), .bool ys] : Array Value).all (·.oneCell') = true) := by show _ = _; simp [Value.oneCell']
      have hws : w.heap.size + 1 < w4.heap.size := blk_lt hL4
      have HI5 := hide (hIa.setB (c' := #[.int .i64 (ym : Nat), .int .i64 (yi : Nat), .int .u64 (yn : Nat), .int .i64 (yu : Nat), .bool ys]) HAL.out (by decide) (by omega) HN0.out)
      have HL5 := hide (((row_kp (w4.alloc (.cells #[.int .i64 0, .int .i64 0, .int .u64 0, .int .i64 0, .bool false] 66)) w4.heap.size #[.int .i64 (ym : Nat), .int .i64 (yi : Nat), .int .u64 (yn : Nat), .int .i64 (yu : Nat), .bool ys]).block _ (blk_lt hLa) (by omega)).trans hLa)
      have HY5 := hide (row_same (cs := #[.int .i64 (ym : Nat), .int .i64 (yi : Nat), .int .u64 (yn : Nat), .int .i64 (yu : Nat), .bool ys]) HAL.out)
      clear hP h44 hI4 hL4 hba hIa hLa hws HI3 HL1 HNO HH0
      go_upto_region 4 with (refine wpList_storeRow rfl rfl w4.heap.size #[.int .i64 0, .int .i64 0, .int .u64 0, .int .i64 0, .bool false] #[.int .i64 (ym : Nat), .int .i64 (yi : Nat), .int .u64 (yn : Nat), .int .i64 (yu : Nat), .bool ys] 66 rfl rfl HAL.out HI5s.out rfl HA5.out ?_)
      clear HAL HI5s HA5
      generalize (w4.alloc (.cells #[.int .i64 0, .int .i64 0, .int .u64 0, .int .i64 0, .bool false] 66)).setRow w4.heap.size #[.int .i64 (ym : Nat), .int .i64 (yi : Nat), .int .u64 (yn : Nat), .int .i64 (yu : Nat), .bool ys] = w5 at *
      have c0 : w5.cell? ⟨w4.heap.size, 0, none⟩ = some (.int .i64 (ym : Nat)) := blk_cell (j := 0) HY5.out rfl
      by_cases hy2 : ym = 2
      · have g2 : ((ym : Int) != 2) = false := by rw [bne_eq_false_iff_eq]; omega
        have HL6 := hide (HL3.out.trans (if_neg (fun h => h hy2)))
        have HCO := hide (octets9_any HI5.out.i HQ.out ⟨ym, yi, yn, yu, ys, ye⟩ J HJJ.out (.inl hy2) HHY.out.1 HHY.out.2.2.2 (by have h1 := HNN.out; have h2 := HHY.out.2; have h3 := not_len yp ⟨ym, yi, yn, yu, ys, ye⟩ ns; omega))
        rw [HYV.out] at HCO
        have HI := hide infoHd
        have HAG : Hid (∀ w, (isAgg 66).run Tryz.prog w = .ok true w) := aggHd
        have HCA : Hid (∀ j x, (#[.int .i64 (ym : Nat), .int .i64 (yi : Nat), .int .u64 (yn : Nat), .int .i64 (yu : Nat), .bool ys] : Array Value)[j]? = some x → w5.cell? ⟨w4.heap.size, 0 + j, none⟩ = some x) := fun j x hj => by rw [Nat.zero_add]; exact blk_cell HY5.out hj
        clear hy2 HL3
        go_wp2_with (refine wpList_aggAt rfl rfl HI.out HAG.out w4.heap.size 0 #[.int .i64 (ym : Nat), .int .i64 (yi : Nat), .int .u64 (yn : Nat), .int .i64 (yu : Nat), .bool ys] rfl rfl HCA.out ?_)
        refine HCO.out.mono ?_
        rintro e w6 (⟨x, va, vx6, hx, rfl, h66, how⟩ | ⟨c, q, hx, he', hk⟩)
        · have HB6 := hide (BSl.own how (oct_256 HQ.out hx))
          have HI6 := hide (HI5.out.trans h66)
          have HL7 := hide (HI5.out.i.keptB HL5.out (by decide) h66.k)
          obtain ⟨xs, ms, q⟩ := x
          rw [hx] at HL6
          have HL8 : Hid (LS = if xs.head? ≠ some 0 then .error (95, at') else if (lparse (xs.drop 1)).2 ≠ 0 then .error (95, at') else .ok ((lparse (xs.drop 1)).1, ms, q)) := HL6.out
          obtain ⟨a0, cap0, hvn, -⟩ := own_formG how
          subst hvn
          replace HB6 : Hid (BSl w6 (.slice a0 xs.length cap0) xs) := HB6.out
          clear hx h66 how HCO HCA HI5 HL5 HY5 HL6 c0 g1 g2 HI HAG HYV
          have HGU := hide (giveUp_any w6 95 at')
          have HKE := hide HI6.out.k
          cases xs with
          | nil =>
            as_aux_lemma =>
            have HL9 : Hid (LS = .error (95, at')) := by show _ = _; rw [HL8.out, if_pos (by simp)]
            clear HL8
            go_wp2_with fail
            refine HGU.out.mono ?_
            rintro e w7 ⟨rfl, rfl⟩
            go_wp2_with fail
            exact ⟨rfl, .inr ⟨95, at', HL9.out, rfl, HKE.out⟩⟩
          | cons x0 xt =>
            obtain ⟨⟨a1, cap1, hv1, hn1, hc1⟩, -, -⟩ := id HB6.out
            injection hv1 with e1 _ e3
            subst e1 e3
            rcases hc1 with hc1 | ⟨bk, off, rfl, hc1⟩
            · cases hc1
            have c00 : w6.cell? ⟨bk, off, none⟩ = some (.int .u8 (x0 : Nat)) := hc1 0 (by simp)
            have HNC := hide hn1.1
            clear hn1 hc1
            obtain ⟨N, hN⟩ : ∃ N, N = (x0 :: xt).length := ⟨_, rfl⟩
            have HN1 : Hid (1 ≤ N) := by show _ ≤ _; rw [hN]; simp
            have gN : ((N : Int) == 0) = false := by rw [beq_eq_false_iff_ne]; have := HN1.out; omega
            have gl : (0 : Int) < (N : Int) := by have := HN1.out; omega
            rw [← hN] at HB6 HNC
            rw [← hN]
            by_cases hx0 : x0 = 0
            · have g3 : ((x0 : Int) != 0) = false := by rw [bne_eq_false_iff_eq]; omega
              have HL9 := hide (HL8.out.trans (if_neg (by simp [hx0])))
              clear HL8 hx0
              have HBD := hide (bsl_drop8 (k := 1) HB6.out (by rw [← hN]; exact HN1.out))
              replace HBD : Hid (BSl w6 (dropS (some ⟨bk, off, none⟩) N cap0 1) xt) := HBD.out
              replace HL9 : Hid (LS = if (lparse xt).2 ≠ 0 then .error (95, at') else .ok ((lparse xt).1, ms, q)) := HL9.out
              have HPA := hide (parse4_any w6 _ xt HBD.out)
              clear hN
              have HDR : Hid (∀ (o : Oper) (a : Act) (x y : Operand), o.op = .slice 26 x (some y) none none → a.eval x = .slice (some ⟨bk, off, none⟩) N cap0 → a.eval y = .int .i64 1 → (execOp a.eval o).run Tryz.prog w6 = .ok (.value (dropS (some ⟨bk, off, none⟩) N cap0 1)) w6) := fun o a x y h1 h2 h3 => exec_drop h1 h2 h3 HN1.out HNC.out (fun h => by cases h)
              generalize dropS (some ⟨bk, off, none⟩) N cap0 1 = dv at *
              generalize lparse xt = lp at *
              obtain ⟨⟨lv, lc, lh, ld⟩, er⟩ := lp
              go_wp2_with (refine wpList_exec rfl (HDR.out _ _ _ _ rfl rfl rfl) ?_)
              refine HPA.out.mono ?_
              rintro e w7 ⟨rfl, hb7⟩
              have hI7 := HI6.out.trans (HI6.out.i.next hb7)
              have hL8 := (hb7.block _ (blk_lt HL7.out)).trans HL7.out
              have hba := below_alloc4 w7 (.cells #[.int .i64 0, .int .u64 0, .int .u64 0, .string ⟨#[]⟩] 37)
              have hIa := hI7.trans (hI7.i.next hba)
              have hLa := (hba.block _ (blk_lt hL8)).trans hL8
              have HAL := hide (heap_alloc_new w7 (.cells #[.int .i64 0, .int .u64 0, .int .u64 0, .string ⟨#[]⟩] 37))
              have hws : w.heap.size + 1 < w7.heap.size := blk_lt hL8
              have HI8 := hide (hIa.setB (c' := lcs ⟨lv, lc, lh, ld⟩) HAL.out (by decide) (by omega) HN0.out)
              have HL9' := hide (((row_kp (w7.alloc (.cells #[.int .i64 0, .int .u64 0, .int .u64 0, .string ⟨#[]⟩] 37)) w7.heap.size (lcs ⟨lv, lc, lh, ld⟩)).block _ (blk_lt hLa) (by omega)).trans hLa)
              have HY8 := hide (row_same (cs := lcs ⟨lv, lc, lh, ld⟩) HAL.out)
              have HE9 : Hid (Itg w ((((w7.alloc (.cells #[.int .i64 0, .int .u64 0, .int .u64 0, .string ⟨#[]⟩] 37)).setRow w7.heap.size (lcs ⟨lv, lc, lh, ld⟩))).setRow (w.heap.size + 1) (lcs ⟨lv, lc, lh, ld⟩)) N0 g v b dp q op vn vx6 ms) := HI8.out.setB HL9'.out (by decide) (by omega) HN0.out
              clear hI7 hL8 hba hIa hLa hb7 HGU HKE HPA HDR HI6 HL7 HB6 HBD c00
              simp only [lkv_lcs]
              go_upto_region 10 with (refine wpList_storeLk rfl rfl w7.heap.size #[.int .i64 0, .int .u64 0, .int .u64 0, .string ⟨#[]⟩] ⟨lv, lc, lh, ld⟩ rfl rfl rfl HAL.out ?_)
              clear HAL hws
              generalize (w7.alloc (.cells #[.int .i64 0, .int .u64 0, .int .u64 0, .string ⟨#[]⟩] 37)).setRow w7.heap.size (lcs ⟨lv, lc, lh, ld⟩) = w8 at *
              by_cases he0 : er = 0
              · as_aux_lemma =>
                have g4 : ((er : Int) != 0) = false := by rw [bne_eq_false_iff_eq]; omega
                have HLA : Hid (LS = .ok (⟨lv, lc, lh, ld⟩, ms, q)) := by show _ = _; rw [HL9.out, if_neg (fun h => h he0)]
                clear HL9 he0
                go_wp2_with (first
                  | (refine wpList_loadLk rfl rfl w7.heap.size _ rfl rfl HY8.out ?_)
                  | (refine wpList_storeLk rfl rfl (w.heap.size + 1) _ ⟨lv, lc, lh, ld⟩ rfl rfl rfl HL9'.out ?_))
                exact bodyPost_ret (end_l9 rfl (row_same HL9'.out) rfl rfl) rfl (.inl ⟨_, _, HLA.out, rfl, HE9.out⟩)
              · as_aux_lemma =>
                have g4 : ((er : Int) != 0) = true := by rw [bne_iff_ne]; omega
                have HLA : Hid (LS = .error (95, at')) := by show _ = _; rw [HL9.out, if_pos he0]
                have HKE := hide HI8.out.k
                have HGU := hide (giveUp_any w8 95 at')
                clear HL9 he0
                go_wp2_with fail
                refine HGU.out.mono ?_
                rintro e w9 ⟨rfl, rfl⟩
                go_wp2_with fail
                exact ⟨rfl, .inr ⟨95, at', HLA.out, rfl, HKE.out⟩⟩
            · as_aux_lemma =>
              have g3 : ((x0 : Int) != 0) = true := by rw [bne_iff_ne]; omega
              have HL9 : Hid (LS = .error (95, at')) := by show _ = _; rw [HL8.out, if_pos (by simpa using hx0)]
              clear HL8 hx0
              go_wp2_with fail
              refine HGU.out.mono ?_
              rintro e w7 ⟨rfl, rfl⟩
              go_wp2_with fail
              exact ⟨rfl, .inr ⟨95, at', HL9.out, rfl, HKE.out⟩⟩
        · as_aux_lemma =>
          rw [hx] at HL6
          have HL7 : Hid (LS = .error (c, q)) := HL6.out
          have HKE : Hid (Kp (fun q => q = g ∨ vn.ownBlock = some q) w w6) := HI5.out.kout hk
          unfold gup at he'
          subst he'
          clear hk hx HCO HCA HI5 HL6
          go_wp2_with fail
          exact ⟨rfl, .inr ⟨c, q, HL7.out, rfl, HKE.out⟩⟩
      · as_aux_lemma =>
        have g2 : ((ym : Int) != 2) = true := by rw [bne_iff_ne]; omega
        have HL6 : Hid (LS = .error (95, at')) := by show _ = _; rw [HL3.out, if_pos hy2]
        have HKE := hide HI5.out.k
        have HGU := hide (giveUp_any w5 95 at')
        clear hy2 HL3
        go_wp2_with fail
        refine HGU.out.mono ?_
        rintro e w6 ⟨rfl, rfl⟩
        go_wp2_with fail
        exact ⟨rfl, .inr ⟨95, at', HL6.out, rfl, HKE.out⟩⟩
  · have g1 : ((hn' : Int) != 42) = true := by rw [bne_iff_ne]; omega
    as_aux_lemma =>
    have HL2 : Hid (LS = .error (95, at')) := by show _ = _; rw [HLS.out, if_pos h42]
    have HKE := hide HI2.out.k
    have HGU := hide (giveUp_any w2 95 at')
    clear h42 HLS
    go_wp2_with fail
    refine HGU.out.mono ?_
    rintro e w3 ⟨rfl, rfl⟩
    go_wp2_with fail
    exact ⟨rfl, .inr ⟨95, at', HL2.out, rfl, HKE.out⟩⟩
end
section
open Go.RowKit Go
theorem infoFm : (Tryz.prog.info? 135).map (·.size) = some 2 := by kernel_rfl
theorem aggFm (w : World) : (isAgg 135).run Tryz.prog w = .ok true w := by kernel_rfl
theorem box_fm {w w1 : World} {a b : Value} (h : w1 = w.alloc (.cells #[a, b] 135)) : ∀ wx, (∃ t : Ext w1, wx = t.w') → ∀ j u, (#[a, b] : Array Value)[j]? = some u → wx.cell? ⟨w.heap.size, 0 + j, none⟩ = some u := by
  rintro _ ⟨t, rfl⟩ j u hu
  refine keep_below t.h _ _ ?_
  have hg := heap_alloc_new w (.cells #[a, b] 135)
  rw [← h] at hg
  rw [cell_of_row _ _ _ _ _ _ hg, Nat.zero_add]
  exact hu
theorem end_fm9 {wx : World} {R : Nat} {c : Array Value} {fn : Func} {p : Tmp} {tmps : Array Value} (hf : fn.results = #[.cell p 135]) (hr : wx.heap[R]? = some (.cells c 135 (0, 0))) (hp : tmps.getD p undef = .pointer (some ⟨R, 0, none⟩)) (hn : c.size = 2) : (results fn tmps).run Tryz.prog wx = .ok (.agg c) wx :=
  results_cell_row hf tmps wx R 135 c (0, 0) _ hp hr Tryz.underlying135 rfl (by rw [hn]; exact infoFm)
theorem fmH9 (w : World) : Calls Tryz.prog 73 #[] w fun e w' => e = .returned (.agg #[.int .i64 5, .int .i64 10]) ∧ Below w.heap.size w w' := by
  go_enter Tryz.func73, Tryz.ntmps73
  go_wp2_with fail
  exact bodyPost_ret (end_fm9 (R := w.heap.size) (c := #[.int .i64 5, .int .i64 10]) rfl (heap_alloc_new w _) rfl rfl) rfl ⟨rfl, below_alloc4 w _⟩
theorem fmD9 (w : World) : Calls Tryz.prog 74 #[] w fun e w' => e = .returned (.agg #[.int .i64 11, .int .i64 52]) ∧ Below w.heap.size w w' := by
  go_enter Tryz.func74, Tryz.ntmps74
  go_wp2_with fail
  exact bodyPost_ret (end_fm9 (R := w.heap.size) (c := #[.int .i64 11, .int .i64 52]) rfl (heap_alloc_new w _) rfl rfl) rfl ⟨rfl, below_alloc4 w _⟩
theorem greatestH9 (w : World) : Calls Tryz.prog 125 #[.agg #[.int .i64 5, .int .i64 10]] w fun e w' => e = .returned (.int .i64 31) ∧ Below w.heap.size w w' := by
  go_enter Tryz.func125, Tryz.ntmps125
  go_wp2_with fail
  go_ret
  exact ⟨rfl, below_alloc4 w _⟩
theorem greatestD9 (w : World) : Calls Tryz.prog 125 #[.agg #[.int .i64 11, .int .i64 52]] w fun e w' => e = .returned (.int .i64 2047) ∧ Below w.heap.size w w' := by
  go_enter Tryz.func125, Tryz.ntmps125
  go_wp2_with fail
  go_ret
  exact ⟨rfl, below_alloc4 w _⟩
theorem signH9 (w : World) : Calls Tryz.prog 105 #[.agg #[.int .i64 5, .int .i64 10]] w fun e w' => e = .returned (.int .u64 32768) ∧ Below w.heap.size w w' := by
  go_enter Tryz.func105, Tryz.ntmps105
  go_wp2_with fail
  go_ret
  exact ⟨rfl, below_alloc4 w _⟩
theorem signD9 (w : World) : Calls Tryz.prog 105 #[.agg #[.int .i64 11, .int .i64 52]] w fun e w' => e = .returned (.int .u64 9223372036854775808) ∧ Below w.heap.size w w' := by
  go_enter Tryz.func105, Tryz.ntmps105
  go_wp2_with fail
  go_ret
  exact ⟨rfl, below_alloc4 w _⟩
theorem infH9 (w : World) : Calls Tryz.prog 106 #[.agg #[.int .i64 5, .int .i64 10]] w fun e w' => e = .returned (.int .u64 31744) ∧ Below w.heap.size w w' := by
  obtain ⟨w1, hw1⟩ : ∃ w1, w1 = w.alloc (.cells #[.int .i64 5, .int .i64 10] 135) := ⟨_, rfl⟩
  have HB1 : Hid (Below w.heap.size w w1) := hw1 ▸ below_alloc4 w _
  have HC := hide (box_fm hw1)
  have HI := hide infoFm
  have HA : Hid (∀ w, (isAgg 135).run Tryz.prog w = .ok true w) := aggFm
  have HG : Hid (∀ t : Ext w1, _) := fun t => Calls.ext_below (greatestH9 t.w')
  go_enter Tryz.func106, Tryz.ntmps106
  go_upto_region 1 with fail
  rw [← hw1]
  refine region_ext (by kernel_rfl) (by kernel_rfl) ?_
  with_reducible refine wpQuiet_step (fun K hK => ?_)
  refine qstep_exec rfl (.agg #[.int .i64 5, .int .i64 10]) (fun wq hq => exec_aggAt HI.out HA.out rfl rfl rfl (HC.out wq hq)) (hK _ ?_)
  clear hK K
  with_reducible refine wpQuiet_step (fun K hK => ?_)
  go_simp
  apply Exists.intro
  refine ⟨fun _ => ?_, hK _ ?_⟩
  (go_at_call 125; exact Hid.out HG _)
  clear hK K
  with_reducible refine wpQuiet_step (fun K hK => ?_)
  go_simp
  with_reducible refine hK _ ?_
  clear hK K
  with_reducible refine wpQuiet_step (fun K hK => ?_)
  go_simp
  with_reducible refine hK _ ?_
  clear hK K
  with_reducible refine wpQuiet_step (fun K hK => ?_)
  refine qstep_exec rfl (.int .i64 10) (fun wq hq => by have h0 := HC.out wq hq 1 _ rfl; first | (go_simp; done) | (go_simp; rfl)) (hK _ ?_)
  clear hK K
  with_reducible refine wpQuiet_step (fun K hK => ?_)
  go_simp
  with_reducible refine hK _ ?_
  clear hK K
  with_reducible refine wpQuiet_step (fun K hK => ?_)
  go_simp
  with_reducible refine hK _ ?_
  clear hK K
  refine wpQuiet_nil ?_
  rintro _ ⟨tq, rfl⟩
  have HBn : Hid (Below w.heap.size w tq.w') := HB1.out.trans (tq.h.mono HB1.out.size)
  clear HC HI HA HB1 hw1 HG
  generalize tq.w' = wc at *
  go_wp2_with fail
  go_ret
  exact ⟨rfl, HBn.out⟩
theorem infD9 (w : World) : Calls Tryz.prog 106 #[.agg #[.int .i64 11, .int .i64 52]] w fun e w' => e = .returned (.int .u64 9218868437227405312) ∧ Below w.heap.size w w' := by
  obtain ⟨w1, hw1⟩ : ∃ w1, w1 = w.alloc (.cells #[.int .i64 11, .int .i64 52] 135) := ⟨_, rfl⟩
  have HB1 : Hid (Below w.heap.size w w1) := hw1 ▸ below_alloc4 w _
  have HC := hide (box_fm hw1)
  have HI := hide infoFm
  have HA : Hid (∀ w, (isAgg 135).run Tryz.prog w = .ok true w) := aggFm
  have HG : Hid (∀ t : Ext w1, _) := fun t => Calls.ext_below (greatestD9 t.w')
  go_enter Tryz.func106, Tryz.ntmps106
  go_upto_region 1 with fail
  rw [← hw1]
  refine region_ext (by kernel_rfl) (by kernel_rfl) ?_
  with_reducible refine wpQuiet_step (fun K hK => ?_)
  refine qstep_exec rfl (.agg #[.int .i64 11, .int .i64 52]) (fun wq hq => exec_aggAt HI.out HA.out rfl rfl rfl (HC.out wq hq)) (hK _ ?_)
  clear hK K
  with_reducible refine wpQuiet_step (fun K hK => ?_)
  go_simp
  apply Exists.intro
  refine ⟨fun _ => ?_, hK _ ?_⟩
  (go_at_call 125; exact Hid.out HG _)
  clear hK K
  with_reducible refine wpQuiet_step (fun K hK => ?_)
  go_simp
  with_reducible refine hK _ ?_
  clear hK K
  with_reducible refine wpQuiet_step (fun K hK => ?_)
  go_simp
  with_reducible refine hK _ ?_
  clear hK K
  with_reducible refine wpQuiet_step (fun K hK => ?_)
  refine qstep_exec rfl (.int .i64 52) (fun wq hq => by have h0 := HC.out wq hq 1 _ rfl; first | (go_simp; done) | (go_simp; rfl)) (hK _ ?_)
  clear hK K
  with_reducible refine wpQuiet_step (fun K hK => ?_)
  go_simp
  with_reducible refine hK _ ?_
  clear hK K
  with_reducible refine wpQuiet_step (fun K hK => ?_)
  go_simp
  with_reducible refine hK _ ?_
  clear hK K
  refine wpQuiet_nil ?_
  rintro _ ⟨tq, rfl⟩
  have HBn : Hid (Below w.heap.size w tq.w') := HB1.out.trans (tq.h.mono HB1.out.size)
  clear HC HI HA HB1 hw1 HG
  generalize tq.w' = wc at *
  go_wp2_with fail
  go_ret
  exact ⟨rfl, HBn.out⟩
theorem lowH9 (w : World) : Calls Tryz.prog 127 #[.agg #[.int .i64 5, .int .i64 10]] w fun e w' => e = .returned (.int .i64 (-24)) ∧ Below w.heap.size w w' := by
  obtain ⟨w1, hw1⟩ : ∃ w1, w1 = w.alloc (.cells #[.int .i64 5, .int .i64 10] 135) := ⟨_, rfl⟩
  have HB1 : Hid (Below w.heap.size w w1) := hw1 ▸ below_alloc4 w _
  have HC := hide (box_fm hw1)
  have HI := hide infoFm
  have HA : Hid (∀ w, (isAgg 135).run Tryz.prog w = .ok true w) := aggFm
  have HG : Hid (∀ t : Ext w1, _) := fun t => Calls.ext_below (greatestH9 t.w')
  go_enter Tryz.func127, Tryz.ntmps127
  go_upto_region 1 with fail
  rw [← hw1]
  refine region_ext (by kernel_rfl) (by kernel_rfl) ?_
  with_reducible refine wpQuiet_step (fun K hK => ?_)
  refine qstep_exec rfl (.agg #[.int .i64 5, .int .i64 10]) (fun wq hq => exec_aggAt HI.out HA.out rfl rfl rfl (HC.out wq hq)) (hK _ ?_)
  clear hK K
  with_reducible refine wpQuiet_step (fun K hK => ?_)
  go_simp
  apply Exists.intro
  refine ⟨fun _ => ?_, hK _ ?_⟩
  (go_at_call 125; exact Hid.out HG _)
  clear hK K
  with_reducible refine wpQuiet_step (fun K hK => ?_)
  go_simp
  with_reducible refine hK _ ?_
  clear hK K
  with_reducible refine wpQuiet_step (fun K hK => ?_)
  go_simp
  with_reducible refine hK _ ?_
  clear hK K
  with_reducible refine wpQuiet_step (fun K hK => ?_)
  go_simp
  with_reducible refine hK _ ?_
  clear hK K
  with_reducible refine wpQuiet_step (fun K hK => ?_)
  refine qstep_exec rfl (.int .i64 10) (fun wq hq => by have h0 := HC.out wq hq 1 _ rfl; first | (go_simp; done) | (go_simp; rfl)) (hK _ ?_)
  clear hK K
  with_reducible refine wpQuiet_step (fun K hK => ?_)
  go_simp
  with_reducible refine hK _ ?_
  clear hK K
  with_reducible refine wpQuiet_step (fun K hK => ?_)
  go_simp
  with_reducible refine hK _ ?_
  clear hK K
  refine wpQuiet_nil ?_
  rintro _ ⟨tq, rfl⟩
  have HBn : Hid (Below w.heap.size w tq.w') := HB1.out.trans (tq.h.mono HB1.out.size)
  clear HC HI HA HB1 hw1 HG
  generalize tq.w' = wc at *
  go_wp2_with fail
  go_ret
  exact ⟨rfl, HBn.out⟩
theorem lowD9 (w : World) : Calls Tryz.prog 127 #[.agg #[.int .i64 11, .int .i64 52]] w fun e w' => e = .returned (.int .i64 (-1074)) ∧ Below w.heap.size w w' := by
  obtain ⟨w1, hw1⟩ : ∃ w1, w1 = w.alloc (.cells #[.int .i64 11, .int .i64 52] 135) := ⟨_, rfl⟩
  have HB1 : Hid (Below w.heap.size w w1) := hw1 ▸ below_alloc4 w _
  have HC := hide (box_fm hw1)
  have HI := hide infoFm
  have HA : Hid (∀ w, (isAgg 135).run Tryz.prog w = .ok true w) := aggFm
  have HG : Hid (∀ t : Ext w1, _) := fun t => Calls.ext_below (greatestD9 t.w')
  go_enter Tryz.func127, Tryz.ntmps127
  go_upto_region 1 with fail
  rw [← hw1]
  refine region_ext (by kernel_rfl) (by kernel_rfl) ?_
  with_reducible refine wpQuiet_step (fun K hK => ?_)
  refine qstep_exec rfl (.agg #[.int .i64 11, .int .i64 52]) (fun wq hq => exec_aggAt HI.out HA.out rfl rfl rfl (HC.out wq hq)) (hK _ ?_)
  clear hK K
  with_reducible refine wpQuiet_step (fun K hK => ?_)
  go_simp
  apply Exists.intro
  refine ⟨fun _ => ?_, hK _ ?_⟩
  (go_at_call 125; exact Hid.out HG _)
  clear hK K
  with_reducible refine wpQuiet_step (fun K hK => ?_)
  go_simp
  with_reducible refine hK _ ?_
  clear hK K
  with_reducible refine wpQuiet_step (fun K hK => ?_)
  go_simp
  with_reducible refine hK _ ?_
  clear hK K
  with_reducible refine wpQuiet_step (fun K hK => ?_)
  go_simp
  with_reducible refine hK _ ?_
  clear hK K
  with_reducible refine wpQuiet_step (fun K hK => ?_)
  refine qstep_exec rfl (.int .i64 52) (fun wq hq => by have h0 := HC.out wq hq 1 _ rfl; first | (go_simp; done) | (go_simp; rfl)) (hK _ ?_)
  clear hK K
  with_reducible refine wpQuiet_step (fun K hK => ?_)
  go_simp
  with_reducible refine hK _ ?_
  clear hK K
  with_reducible refine wpQuiet_step (fun K hK => ?_)
  go_simp
  with_reducible refine hK _ ?_
  clear hK K
  refine wpQuiet_nil ?_
  rintro _ ⟨tq, rfl⟩
  have HBn : Hid (Below w.heap.size w tq.w') := HB1.out.trans (tq.h.mono HB1.out.size)
  clear HC HI HA HB1 hw1 HG
  generalize tq.w' = wc at *
  go_wp2_with fail
  go_ret
  exact ⟨rfl, HBn.out⟩
theorem noneD9 (w : World) : Calls Tryz.prog 107 #[.agg #[.int .i64 11, .int .i64 52]] w fun e w' => e = .returned (.int .u64 9221120237041090560) ∧ Below w.heap.size w w' := by
  obtain ⟨w1, hw1⟩ : ∃ w1, w1 = w.alloc (.cells #[.int .i64 11, .int .i64 52] 135) := ⟨_, rfl⟩
  have HB1 : Hid (Below w.heap.size w w1) := hw1 ▸ below_alloc4 w _
  have HC := hide (box_fm hw1)
  have HI := hide infoFm
  have HA : Hid (∀ w, (isAgg 135).run Tryz.prog w = .ok true w) := aggFm
  have HG : Hid (∀ t : Ext w1, _) := fun t => Calls.ext_below (infD9 t.w')
  go_enter Tryz.func107, Tryz.ntmps107
  go_upto_region 1 with fail
  rw [← hw1]
  refine region_ext (by kernel_rfl) (by kernel_rfl) ?_
  with_reducible refine wpQuiet_step (fun K hK => ?_)
  refine qstep_exec rfl (.agg #[.int .i64 11, .int .i64 52]) (fun wq hq => exec_aggAt HI.out HA.out rfl rfl rfl (HC.out wq hq)) (hK _ ?_)
  clear hK K
  with_reducible refine wpQuiet_step (fun K hK => ?_)
  go_simp
  apply Exists.intro
  refine ⟨fun _ => ?_, hK _ ?_⟩
  (go_at_call 106; exact Hid.out HG _)
  clear hK K
  with_reducible refine wpQuiet_step (fun K hK => ?_)
  go_simp
  with_reducible refine hK _ ?_
  clear hK K
  with_reducible refine wpQuiet_step (fun K hK => ?_)
  refine qstep_exec rfl (.int .i64 52) (fun wq hq => by have h0 := HC.out wq hq 1 _ rfl; first | (go_simp; done) | (go_simp; rfl)) (hK _ ?_)
  clear hK K
  with_reducible refine wpQuiet_step (fun K hK => ?_)
  refine qstep_exec rfl (.int .i64 51) (fun wq hq => by go_simp; rfl) (hK _ ?_)
  clear hK K
  with_reducible refine wpQuiet_step (fun K hK => ?_)
  go_simp
  with_reducible refine hK _ ?_
  clear hK K
  with_reducible refine wpQuiet_step (fun K hK => ?_)
  go_simp
  with_reducible refine hK _ ?_
  clear hK K
  with_reducible refine wpQuiet_step (fun K hK => ?_)
  go_simp
  with_reducible refine hK _ ?_
  clear hK K
  refine wpQuiet_nil ?_
  rintro _ ⟨tq, rfl⟩
  have HBn : Hid (Below w.heap.size w tq.w') := HB1.out.trans (tq.h.mono HB1.out.size)
  clear HC HI HA HB1 hw1 HG
  generalize tq.w' = wc at *
  go_wp2_with fail
  go_ret
  exact ⟨rfl, HBn.out⟩
end
section
open Go.RowKit Go
structure Srt {α : Type} [Inhabited α] (T : TypeId) (rv : Value) (gl gs : FuncId) (lt : α → α → Bool) (St : World → Array α → Prop) : Prop where
  ml : ∀ w, (method 342 T rv "Less").run Tryz.prog w = .ok (gl, rv) w
  ms : ∀ w, (method 342 T rv "Swap").run Tryz.prog w = .ok (gs, rv) w
  el : ∀ args w, (callFunc gl args).run Tryz.prog w = .ok (.enter gl args) w
  es : ∀ args w, (callFunc gs args).run Tryz.prog w = .ok (.enter gs args) w
  less : ∀ {w : World} {d : Array α} (i j : Nat), St w d → i < d.size → j < d.size → Calls Tryz.prog gl #[rv, .int .i64 (i : Nat), .int .i64 (j : Nat)] w fun e w' => e = .returned (.bool (lt d[i]! d[j]!)) ∧ Hid (St w' d)
  swap : ∀ {w : World} {d : Array α} (i j : Nat), St w d → i < d.size → j < d.size → Calls Tryz.prog gs #[rv, .int .i64 (i : Nat), .int .i64 (j : Nat)] w fun e w' => e = .returned (.tuple #[]) ∧ Hid (St w' (Sort.swp d i j))
theorem swp_size {α : Type} [Inhabited α] (d : Array α) (i j : Nat) : (Sort.swp d i j).size = d.size := by simp [Sort.swp]
theorem insInner_size {α : Type} [Inhabited α] (lt : α → α → Bool) (a : Nat) : ∀ (j : Nat) (d : Array α), (Sort.insInner lt a j d).size = d.size
  | 0, d => rfl
  | j + 1, d => by
    unfold Sort.insInner
    split
    · rw [insInner_size lt a j, swp_size]
    · rfl
theorem insInner_go {α : Type} [Inhabited α] {lt : α → α → Bool} {a j : Nat} {d : Array α} (h : a < j + 1) (hl : lt d[j + 1]! d[j]! = true) : Sort.insInner lt a (j + 1) d = Sort.insInner lt a j (Sort.swp d (j + 1) j) := by
  conv => lhs; unfold Sort.insInner
  rw [if_pos (by simp [hl]; omega)]
theorem insInner_no {α : Type} [Inhabited α] {lt : α → α → Bool} {a j : Nat} {d : Array α} (h : ¬ (a < j ∧ lt d[j]! d[j - 1]! = true)) : Sort.insInner lt a j d = d := by
  cases j with
  | zero => rfl
  | succ j =>
    unfold Sort.insInner
    rw [if_neg]
    simp only [Bool.and_eq_true, decide_eq_true_eq]
    exact h
theorem ins_go9 {α : Type} [Inhabited α] {lt : α → α → Bool} {a j j' : Nat} {d : Array α} (e : j = j' + 1) (h : a < j) (hl : lt d[j]! d[j']! = true) : Sort.insInner lt a j d = Sort.insInner lt a j' (Sort.swp d j j') := by
  subst e
  exact insInner_go h hl
theorem insOuter_go {α : Type} [Inhabited α] {lt : α → α → Bool} {a b i : Nat} {d : Array α} (h : i < b) : Sort.insOuter lt a b i d = Sort.insOuter lt a b (i + 1) (Sort.insInner lt a i d) := by
  conv => lhs; unfold Sort.insOuter
  rw [if_pos h]
theorem insOuter_no {α : Type} [Inhabited α] {lt : α → α → Bool} {a b i : Nat} {d : Array α} (h : ¬ i < b) : Sort.insOuter lt a b i d = d := by
  unfold Sort.insOuter
  rw [if_neg h]
theorem insertionSort_any {α : Type} [Inhabited α] {T : TypeId} {rv : Value} {gl gs : FuncId} {lt : α → α → Bool} {St : World → Array α → Prop} (hM : Srt T rv gl gs lt St) {w : World} {d : Array α} (h : St w d) (a b : Nat) (hb : b ≤ d.size) (hab : a ≤ b) (hsz : d.size < 4611686018427387904) : Calls Tryz.prog 94 #[.iface T rv, .int .i64 (a : Nat), .int .i64 (b : Nat)] w fun e w' => e = .returned (.tuple #[]) ∧ Hid (St w' (Sort.insertionSort lt d a b)) := by
  obtain ⟨LS, hLS⟩ : ∃ LS, LS = Sort.insertionSort lt d a b := ⟨_, rfl⟩
  rw [← hLS]
  have HLS : Hid (LS = Sort.insOuter lt a b (a + 1) d) := hLS
  have HM := hide hM
  have ml : ∀ w, (method 342 T rv "Less").run Tryz.prog w = .ok (gl, rv) w := hM.ml
  have ms : ∀ w, (method 342 T rv "Swap").run Tryz.prog w = .ok (gs, rv) w := hM.ms
  have el := hM.el
  have es := hM.es
  have HS := hide h
  obtain ⟨n, hn⟩ : ∃ n, n = d.size := ⟨_, rfl⟩
  have HN : Hid (n = d.size ∧ b ≤ n ∧ a ≤ b ∧ n < 4611686018427387904) := ⟨hn, by omega, hab, by omega⟩
  obtain ⟨a1, ha1⟩ : ∃ a1, a1 = a + 1 := ⟨_, rfl⟩
  have k1 : (a : Int) + 1 = (a1 : Int) := by omega
  have k2 : wrap64 (a1 : Int) = (a1 : Int) := by have h1 := HN.out; unfold wrap64; omega
  have HA1 := hide ha1
  clear hM h hLS hb hab hsz hn ha1
  go_enter Tryz.func94, Tryz.ntmps94
  go_wp2_with fail
  rw [k2]
  go_loopg [6] (b - a) (fun gk s6 wx => ∃ i : Nat, s6 = .int .i64 (i : Nat) ∧ Hid (∃ d' : Array α, St wx d' ∧ d'.size = n ∧ LS = Sort.insOuter lt a b i d' ∧ b - i ≤ gk ∧ a < i ∧ i ≤ b + 1))
  case atStart => exact ⟨a1, rfl, d, HS.out, HN.out.1.symm, by rw [HLS.out, HA1.out], by have := HA1.out; omega, by have := HA1.out; omega, by have h1 := HA1.out; have h2 := HN.out; omega⟩
  case round =>
    obtain ⟨i, rfl, hrel⟩ := hrel
    obtain ⟨d1, hs1, hd1, hl1, hg1, hai, hib⟩ := hrel.out
    by_cases hlt : i < b
    · obtain ⟨g', rfl⟩ : ∃ g', gk = g' + 1 := ⟨gk - 1, by omega⟩
      have gi : (i : Int) < (b : Int) := by omega
      have HL1 : Hid (LS = Sort.insOuter lt a b (i + 1) (Sort.insInner lt a i d1)) := by show _ = _; rw [hl1, insOuter_go hlt]
      have HX : Hid (∃ e : Array α, St wr e ∧ e.size = n ∧ Sort.insInner lt a i d1 = Sort.insInner lt a i e ∧ i ≤ i) := ⟨d1, hs1, hd1, rfl, Nat.le_refl _⟩
      have HB1 : Hid (b - i ≤ g' + 1 ∧ a < i ∧ i < b) := ⟨hg1, hai, hlt⟩
      obtain ⟨i2, hi2⟩ : ∃ i2, i2 = i + 1 := ⟨_, rfl⟩
      have k3 : (i : Int) + 1 = (i2 : Int) := by omega
      have k4 : wrap64 (i2 : Int) = (i2 : Int) := by have h1 := HN.out; unfold wrap64; omega
      have HI2 := hide hi2
      have HIX : Hid (b - i2 ≤ g' ∧ a < i2 ∧ i2 ≤ b + 1) := by
        clear k1 k2 k3 k4
        show _ ∧ _ ∧ _
        omega
      clear hs1 hl1 hg1 hai hib hlt hrel hi2
      go_wp2_with fail
      go_loopg [7] i (fun gj s7 wx => ∃ j : Nat, s7 = .int .i64 (j : Nat) ∧ Hid (∃ e : Array α, St wx e ∧ e.size = n ∧ Sort.insInner lt a i d1 = Sort.insInner lt a j e ∧ j ≤ gj ∧ j ≤ i))
      case atStart =>
        obtain ⟨e, h1, h2, h3, h4⟩ := HX.out
        exact ⟨i, rfl, e, h1, h2, h3, Nat.le_refl _, h4⟩
      case round =>
        obtain ⟨j, rfl, hrel⟩ := hrel
        obtain ⟨e, hs2, he2, hl2, hgj, hji⟩ := hrel.out
        have HS2 := hide hs2
        have HE2 : Hid (e.size = n ∧ j ≤ gk ∧ j ≤ i) := ⟨he2, hgj, hji⟩
        have HL2 := hide hl2
        clear hs2 he2 hl2 hgj hji hrel
        by_cases haj : a < j
        · have gj2 : (j : Int) > (a : Int) := by omega
          obtain ⟨j', hjj⟩ : ∃ j', j = j' + 1 := ⟨j - 1, by omega⟩
          have k5 : (j : Int) - 1 = (j' : Int) := by omega
          have k6 : wrap64 (j' : Int) = (j' : Int) := by have h1 := HN.out; have h2 := HE2.out; have h3 := HB1.out; unfold wrap64; omega
          have b1 : j < e.size := HE2.out.1 ▸ Nat.lt_of_le_of_lt HE2.out.2.2 (Nat.lt_of_lt_of_le HB1.out.2.2 HN.out.2.1)
          have b2 : j' < e.size := Nat.lt_trans (by rw [hjj]; exact Nat.lt_succ_self _) b1
          have HCL := hide (HM.out.less (d := e) j j' HS2.out b1 b2)
          have HAJ := hide haj
          have HBB : Hid (j < e.size ∧ j' < e.size) := ⟨b1, b2⟩
          clear b1 b2
          have HJJ := hide hjj
          have HJX : Hid (j' ≤ gk - 1 ∧ j' ≤ i ∧ gk = gk - 1 + 1) := by
            have h1 := HE2.out.2
            clear k1 k2 k3 k4 k5 k6
            show _ ∧ _ ∧ _
            omega
          clear hjj haj
          go_wp2_with fail
          refine HCL.out.mono ?_
          rintro _ w2 ⟨rfl, hs3⟩
          generalize hlv : lt e[j]! e[j']! = lv at *
          have HLV := hide hlv
          clear hlv HCL HS2
          cases lv with
          | true =>
            have HCS := hide (HM.out.swap (d := e) j j' hs3.out HBB.out.1 HBB.out.2)
            clear hs3
            go_wp2_with fail
            refine HCS.out.mono ?_
            rintro _ w3 ⟨rfl, hs4⟩
            have HNX : Hid (∃ e' : Array α, St w3 e' ∧ e'.size = n ∧ Sort.insInner lt a i d1 = Sort.insInner lt a j' e' ∧ j' ≤ gk - 1 ∧ j' ≤ i) := ⟨_, hs4.out, (swp_size _ _ _).trans HE2.out.1, HL2.out.trans (ins_go9 HJJ.out HAJ.out HLV.out), HJX.out.1, HJX.out.2.1⟩
            clear HCS hs4
            go_wp2_with fail
            go_roundg (gk - 1)
            case measure => exact Nat.lt_of_succ_le (Nat.le_of_eq HJX.out.2.2.symm)
            case rel => exact ⟨j', by first | rfl | rw [k6], HNX⟩
          | false =>
            as_aux_lemma =>
            have HE3 : Hid (Sort.insInner lt a i d1 = e) := HL2.out.trans (insInner_no (fun h => by have h1 := h.2; rw [HJJ.out, Nat.add_sub_cancel, ← HJJ.out, HLV.out] at h1; cases h1))
            have HNX : Hid (∃ d' : Array α, St w2 d' ∧ d'.size = n ∧ LS = Sort.insOuter lt a b i2 d' ∧ b - i2 ≤ g' ∧ a < i2 ∧ i2 ≤ b + 1) := ⟨e, hs3.out, HE2.out.1, by rw [HL1.out, HE3.out, HI2.out], HIX.out⟩
            go_wp2_with fail
            go_roundg g'
            case measure => exact Nat.lt_succ_self _
            case rel => exact ⟨i2, by first | rfl | rw [k4], HNX⟩
        · as_aux_lemma =>
          have gj2 : ¬ ((j : Int) > (a : Int)) := by omega
          have gjb : decide ((j : Int) > (a : Int)) = false := decide_eq_false gj2
          have HE3 : Hid (Sort.insInner lt a i d1 = e) := HL2.out.trans (insInner_no (fun h => haj h.1))
          have hs3 := HS2
          clear haj
          have HNX : Hid (∃ d' : Array α, St wr d' ∧ d'.size = n ∧ LS = Sort.insOuter lt a b i2 d' ∧ b - i2 ≤ g' ∧ a < i2 ∧ i2 ≤ b + 1) := ⟨e, hs3.out, HE2.out.1, by rw [HL1.out, HE3.out, HI2.out], HIX.out⟩
          go_wp2_with fail
          go_roundg g'
          case measure => exact Nat.lt_succ_self _
          case rel => exact ⟨i2, by first | rfl | rw [k4], HNX⟩
    · as_aux_lemma =>
      have gi : ¬ ((i : Int) < (b : Int)) := by omega
      have HE : Hid (St wr LS) := by show St _ _; rw [hl1, insOuter_no hlt]; exact hs1
      clear hs1 hl1 hg1 hai hib hlt hrel
      go_wp2_with fail
      first
        | (go_end0; exact ⟨rfl, HE⟩)
        | exact bodyPost_ret (results_none rfl _ _ _) rfl ⟨rfl, HE⟩
end
section
open Go.RowKit Go
theorem Srt.lz {α : Type} [Inhabited α] {T : TypeId} {rv : Value} {gl gs : FuncId} {lt : α → α → Bool} {St : World → Array α → Prop} (hM : Srt T rv gl gs lt St) {w : World} {d : Array α} (h : Hid (St w d)) (i j : Nat) (x y : Int) (hx : x = (i : Int)) (hy : y = (j : Int)) (hi : i < d.size) (hj : j < d.size) : Calls Tryz.prog gl #[rv, .int .i64 x, .int .i64 y] w fun e w' => e = .returned (.bool (lt d[i]! d[j]!)) ∧ Hid (St w' d) := by
  subst hx hy
  exact hM.less i j h.out hi hj
theorem Srt.sz {α : Type} [Inhabited α] {T : TypeId} {rv : Value} {gl gs : FuncId} {lt : α → α → Bool} {St : World → Array α → Prop} (hM : Srt T rv gl gs lt St) {w : World} {d : Array α} (h : Hid (St w d)) (i j : Nat) (x y : Int) (hx : x = (i : Int)) (hy : y = (j : Int)) (hi : i < d.size) (hj : j < d.size) : Calls Tryz.prog gs #[rv, .int .i64 x, .int .i64 y] w fun e w' => e = .returned (.tuple #[]) ∧ Hid (St w' (Sort.swp d i j)) := by
  subst hx hy
  exact hM.swap i j h.out hi hj
section
variable {α : Type} [Inhabited α] {lt : α → α → Bool} {hi first root : Nat} {d : Array α}
theorem sift_end (h : hi ≤ 2 * root + 1) : Sort.siftDown lt hi first root d = d := by
  unfold Sort.siftDown
  rw [dif_pos h]
theorem sift_up (h : 2 * root + 2 < hi) (hl : lt d[first + (2 * root + 1)]! d[first + (2 * root + 2)]! = true) : Sort.siftDown lt hi first root d = if !lt d[first + root]! d[first + (2 * root + 2)]! then d else Sort.siftDown lt hi first (2 * root + 2) (Sort.swp d (first + root) (first + (2 * root + 2))) := by
  conv => lhs; unfold Sort.siftDown
  rw [dif_neg (by omega), if_pos (by rw [show first + (2 * root + 1) + 1 = first + (2 * root + 2) by omega, hl]; simp; omega), dif_pos (by omega)]
theorem sift_lo (h0 : ¬ hi ≤ 2 * root + 1) (h : ¬ (2 * root + 2 < hi ∧ lt d[first + (2 * root + 1)]! d[first + (2 * root + 2)]! = true)) : Sort.siftDown lt hi first root d = if !lt d[first + root]! d[first + (2 * root + 1)]! then d else Sort.siftDown lt hi first (2 * root + 1) (Sort.swp d (first + root) (first + (2 * root + 1))) := by
  conv => lhs; unfold Sort.siftDown
  rw [dif_neg (by omega), if_neg]
  rw [show first + (2 * root + 1) + 1 = first + (2 * root + 2) by omega]
  simpa using h
theorem sift_size (hi first : Nat) : ∀ (k root : Nat) (d : Array α), hi - root ≤ k → (Sort.siftDown lt hi first root d).size = d.size
  | 0, root, d, hk => by rw [sift_end (by omega)]
  | k + 1, root, d, hk => by
    by_cases h0 : hi ≤ 2 * root + 1
    · rw [sift_end h0]
    · by_cases h : 2 * root + 2 < hi ∧ lt d[first + (2 * root + 1)]! d[first + (2 * root + 2)]! = true
      · rw [sift_up h.1 h.2]
        split
        · rfl
        · rw [sift_size hi first k _ _ (by omega), swp_size]
      · rw [sift_lo h0 h]
        split
        · rfl
        · rw [sift_size hi first k _ _ (by omega), swp_size]
end
theorem siftDown_any {α : Type} [Inhabited α] {T : TypeId} {rv : Value} {gl gs : FuncId} {lt : α → α → Bool} {St : World → Array α → Prop} (hM : Srt T rv gl gs lt St) {w : World} {d : Array α} (h : St w d) (lo hi first : Nat) (hb : first + hi ≤ d.size) (hlo : lo ≤ hi) (hsz : d.size < 4611686018427387904) : Calls Tryz.prog 119 #[.iface T rv, .int .i64 (lo : Nat), .int .i64 (hi : Nat), .int .i64 (first : Nat)] w fun e w' => e = .returned (.tuple #[]) ∧ Hid (St w' (Sort.siftDown lt hi first lo d)) := by
  obtain ⟨LS, hLS⟩ : ∃ LS, LS = Sort.siftDown lt hi first lo d := ⟨_, rfl⟩
  rw [← hLS]
  have HLS := hide hLS
  have HM := hide hM
  have ml : ∀ w, (method 342 T rv "Less").run Tryz.prog w = .ok (gl, rv) w := hM.ml
  have ms : ∀ w, (method 342 T rv "Swap").run Tryz.prog w = .ok (gs, rv) w := hM.ms
  have el := hM.el
  have es := hM.es
  have HS := hide h
  obtain ⟨n, hn⟩ : ∃ n, n = d.size := ⟨_, rfl⟩
  rw [← hn] at hb hsz
  have HN := hide hn
  clear hM h hLS hn
  go_enter Tryz.func119, Tryz.ntmps119
  go_wp2_with fail
  go_loopg [8] (hi - lo) (fun gk s8 wx => ∃ root : Nat, s8 = .int .i64 (root : Nat) ∧ (∃ d' : Array α, St wx d' ∧ d'.size = n ∧ LS = Sort.siftDown lt hi first root d' ∧ hi - root ≤ gk ∧ root ≤ hi))
  case atStart => exact ⟨lo, rfl, d, HS.out, HN.out.symm, HLS.out, Nat.le_refl _, hlo⟩
  case round =>
    obtain ⟨root, rfl, e, hs1, hd1, hl1, hg1, hrh⟩ := hrel
    have HS1 := hide hs1
    have HL1 := hide hl1
    clear hs1 hl1
    by_cases hce : hi ≤ 2 * root + 1
    · as_aux_lemma =>
      have ge1 : (hi : Int) ≤ 2 * (root : Int) + 1 := by omega
      have HE : Hid (St wr LS) := by show St _ _; rw [HL1.out, sift_end hce]; exact HS1.out
      clear HS1 HL1
      go_wp2_with fail
      first
        | (go_end0; exact ⟨rfl, HE⟩)
        | exact bodyPost_ret (results_none rfl _ _ _) rfl ⟨rfl, HE⟩
    have ge1 : ¬ ((hi : Int) ≤ 2 * (root : Int) + 1) := by omega
    by_cases h2 : 2 * root + 2 < hi
    · have gc2 : 2 * (root : Int) + 1 + 1 < (hi : Int) := by omega
      go_wp2_with fail
      refine (HM.out.lz HS1 (first + (2 * root + 1)) (first + (2 * root + 2)) _ _ (by omega) (by omega) (by omega) (by omega)).mono ?_
      rintro _ w2 ⟨rfl, hs2⟩
      generalize hlv : lt e[first + (2 * root + 1)]! e[first + (2 * root + 2)]! = lv at *
      have HLV := hide hlv
      clear hlv HS1
      cases lv with
      | true =>
        as_aux_lemma =>
        have HEQ := hide (HL1.out.trans (sift_up h2 HLV.out))
        clear HL1 HLV
        go_wp2_with fail
        refine (HM.out.lz hs2 (first + root) (first + (2 * root + 2)) _ _ (by omega) (by omega) (by omega) (by omega)).mono ?_
        rintro _ wU ⟨rfl, hsY⟩
        generalize hlv2 : lt e[first + root]! e[first + (2 * root + 2)]! = lv2 at *
        have HLV2 := hide hlv2
        clear hlv2 hs2
        cases lv2 with
        | false =>
          have HE : Hid (St wU LS) := by show St _ _; rw [HEQ.out]; exact hsY.out
          clear HEQ HLV2 hsY
          go_wp2_with fail
          first
            | (go_end0; exact ⟨rfl, HE⟩)
            | exact bodyPost_ret (results_none rfl _ _ _) rfl ⟨rfl, HE⟩
        | true =>
          have HLN : Hid (LS = Sort.siftDown lt hi first (2 * root + 2) (Sort.swp e (first + root) (first + (2 * root + 2)))) := by show _ = _; rw [HEQ.out]; rfl
          clear HEQ HLV2
          go_wp2_with fail
          refine (HM.out.sz hsY (first + root) (first + (2 * root + 2)) _ _ (by omega) (by omega) (by omega) (by omega)).mono ?_
          rintro _ wV ⟨rfl, hsZ⟩
          clear hsY
          go_wp2_with fail
          go_roundg (hi - (2 * root + 2))
          case measure => omega
          case rel => exact ⟨2 * root + 2, by first | rfl | go_num | (congr 1; omega), _, hsZ.out, (swp_size _ _ _).trans hd1, HLN.out, Nat.le_refl _, by omega⟩
      | false =>
        as_aux_lemma =>
        have HEQ := hide (HL1.out.trans (sift_lo hce (fun h => by rw [HLV.out] at h; cases h.2)))
        clear HL1 HLV
        go_wp2_with fail
        refine (HM.out.lz hs2 (first + root) (first + (2 * root + 1)) _ _ (by omega) (by omega) (by omega) (by omega)).mono ?_
        rintro _ wU ⟨rfl, hsY⟩
        generalize hlv2 : lt e[first + root]! e[first + (2 * root + 1)]! = lv2 at *
        have HLV2 := hide hlv2
        clear hlv2 hs2
        cases lv2 with
        | false =>
          have HE : Hid (St wU LS) := by show St _ _; rw [HEQ.out]; exact hsY.out
          clear HEQ HLV2 hsY
          go_wp2_with fail
          first
            | (go_end0; exact ⟨rfl, HE⟩)
            | exact bodyPost_ret (results_none rfl _ _ _) rfl ⟨rfl, HE⟩
        | true =>
          have HLN : Hid (LS = Sort.siftDown lt hi first (2 * root + 1) (Sort.swp e (first + root) (first + (2 * root + 1)))) := by show _ = _; rw [HEQ.out]; rfl
          clear HEQ HLV2
          go_wp2_with fail
          refine (HM.out.sz hsY (first + root) (first + (2 * root + 1)) _ _ (by omega) (by omega) (by omega) (by omega)).mono ?_
          rintro _ wV ⟨rfl, hsZ⟩
          clear hsY
          go_wp2_with fail
          go_roundg (hi - (2 * root + 1))
          case measure => omega
          case rel => exact ⟨2 * root + 1, by first | rfl | go_num | (congr 1; omega), _, hsZ.out, (swp_size _ _ _).trans hd1, HLN.out, Nat.le_refl _, by omega⟩
    · as_aux_lemma =>
      have gc2 : ¬ (2 * (root : Int) + 1 + 1 < (hi : Int)) := by omega
      have gc3 : decide (2 * (root : Int) + 1 + 1 < (hi : Int)) = false := decide_eq_false gc2
      have HEQ := hide (HL1.out.trans (sift_lo hce (fun h => h2 h.1)))
      clear HL1
      go_wp2_with fail
      refine (HM.out.lz HS1 (first + root) (first + (2 * root + 1)) _ _ (by omega) (by omega) (by omega) (by omega)).mono ?_
      rintro _ wU ⟨rfl, hsY⟩
      generalize hlv2 : lt e[first + root]! e[first + (2 * root + 1)]! = lv2 at *
      have HLV2 := hide hlv2
      clear hlv2 HS1
      cases lv2 with
      | false =>
        have HE : Hid (St wU LS) := by show St _ _; rw [HEQ.out]; exact hsY.out
        clear HEQ HLV2 hsY
        go_wp2_with fail
        first
          | (go_end0; exact ⟨rfl, HE⟩)
          | exact bodyPost_ret (results_none rfl _ _ _) rfl ⟨rfl, HE⟩
      | true =>
        have HLN : Hid (LS = Sort.siftDown lt hi first (2 * root + 1) (Sort.swp e (first + root) (first + (2 * root + 1)))) := by show _ = _; rw [HEQ.out]; rfl
        clear HEQ HLV2
        go_wp2_with fail
        refine (HM.out.sz hsY (first + root) (first + (2 * root + 1)) _ _ (by omega) (by omega) (by omega) (by omega)).mono ?_
        rintro _ wV ⟨rfl, hsZ⟩
        clear hsY
        go_wp2_with fail
        go_roundg (hi - (2 * root + 1))
        case measure => omega
        case rel => exact ⟨2 * root + 1, by first | rfl | go_num | (congr 1; omega), _, hsZ.out, (swp_size _ _ _).trans hd1, HLN.out, Nat.le_refl _, by omega⟩
end
section
open Go.RowKit Go
theorem siftDown_z {α : Type} [Inhabited α] {T : TypeId} {rv : Value} {gl gs : FuncId} {lt : α → α → Bool} {St : World → Array α → Prop} (hM : Srt T rv gl gs lt St) {w : World} {d : Array α} (h : Hid (St w d)) (lo hi first : Nat) (x y z : Int) (hx : x = (lo : Int)) (hy : y = (hi : Int)) (hz : z = (first : Int)) (hb : first + hi ≤ d.size) (hlo : lo ≤ hi) (hsz : d.size < 4611686018427387904) : Calls Tryz.prog 119 #[.iface T rv, .int .i64 x, .int .i64 y, .int .i64 z] w fun e w' => e = .returned (.tuple #[]) ∧ Hid (St w' (Sort.siftDown lt hi first lo d)) := by
  subst hx hy hz
  exact siftDown_any hM h.out lo hi first hb hlo hsz
theorem heapSort_any {α : Type} [Inhabited α] {T : TypeId} {rv : Value} {gl gs : FuncId} {lt : α → α → Bool} {St : World → Array α → Prop} (hM : Srt T rv gl gs lt St) {w : World} {d : Array α} (h : St w d) (a b : Nat) (hab : a < b) (hb : b ≤ d.size) (hsz : d.size < 4611686018427387904) : Calls Tryz.prog 95 #[.iface T rv, .int .i64 (a : Nat), .int .i64 (b : Nat)] w fun e w' => e = .returned (.tuple #[]) ∧ Hid (St w' (Sort.heapSort lt d a b)) := by
  obtain ⟨LS, hLS⟩ : ∃ LS, LS = Sort.heapSort lt d a b := ⟨_, rfl⟩
  rw [← hLS]
  obtain ⟨hi, hhi⟩ : ∃ hi, hi = b - a := ⟨_, rfl⟩
  obtain ⟨i0, hi0⟩ : ∃ i0, i0 = (hi - 1) / 2 := ⟨_, rfl⟩
  have HLS : Hid (LS = Sort.heapPop lt a hi (Sort.heapBuild lt hi a (i0 + 1) d)) := by show _ = _; rw [hLS, hi0, hhi]; rfl
  have HM := hide hM
  have ml : ∀ w, (method 342 T rv "Less").run Tryz.prog w = .ok (gl, rv) w := hM.ml
  have ms : ∀ w, (method 342 T rv "Swap").run Tryz.prog w = .ok (gs, rv) w := hM.ms
  have el := hM.el
  have es := hM.es
  have HS := hide h
  obtain ⟨n, hn⟩ : ∃ n, n = d.size := ⟨_, rfl⟩
  rw [← hn] at hb hsz
  have HN := hide hn
  have k1 : (b : Int) - (a : Int) = (hi : Int) := by omega
  have k2 : ((hi : Int) - 1) / 2 = (i0 : Int) := by omega
  have hhb : a + hi ≤ n := by omega
  have hh0 : 1 ≤ hi := by omega
  have hih : i0 + 1 ≤ hi := by omega
  clear hM h hLS hn hhi hi0 hab hb
  go_enter Tryz.func95, Tryz.ntmps95
  go_wp2_with fail
  rw [k2]
  clear k2
  go_loopg [9] (i0 + 1) (fun gk s9 wx => ∃ z : Int, s9 = .int .i64 z ∧ ∃ k : Nat, z = (k : Int) - 1 ∧ (∃ d' : Array α, St wx d' ∧ d'.size = n ∧ LS = Sort.heapPop lt a hi (Sort.heapBuild lt hi a k d') ∧ k ≤ gk ∧ k ≤ i0 + 1))
  case atStart => exact ⟨_, rfl, i0 + 1, by omega, d, HS.out, HN.out.symm, HLS.out, Nat.le_refl _, Nat.le_refl _⟩
  case round =>
    obtain ⟨z, rfl, k, hz, e, hs1, hd1, hl1, hg1, hk1⟩ := hrel
    have HS1 := hide hs1
    have HL1 := hide hl1
    clear hs1 hl1 HS HLS
    cases k with
    | zero =>
      have hz1 : z = -1 := by omega
      subst hz1
      clear hz
      have HL2 : Hid (LS = Sort.heapPop lt a hi e) := HL1
      clear HL1
      go_wp2_with fail
      go_loopg [10] hi (fun gk s10 wx => ∃ z : Int, s10 = .int .i64 z ∧ ∃ k : Nat, z = (k : Int) - 1 ∧ (∃ d' : Array α, St wx d' ∧ d'.size = n ∧ LS = Sort.heapPop lt a k d' ∧ k ≤ gk ∧ k ≤ hi))
      case atStart => exact ⟨_, rfl, hi, by omega, e, HS1.out, hd1, HL2.out, Nat.le_refl _, Nat.le_refl _⟩
      case round =>
        obtain ⟨z, rfl, k, hz, e2, hs2, hd2, hl2, hg2, hk2⟩ := hrel
        have HS2 := hide hs2
        have HL3 := hide hl2
        clear hs2 hl2 HS1 HL2
        cases k with
        | zero =>
          as_aux_lemma =>
          have hz1 : z = -1 := by omega
          subst hz1
          clear hz
          have HE : Hid (St wr LS) := by show St _ _; rw [HL3.out]; exact HS2.out
          clear HS2 HL3
          go_wp2_with fail
          first
            | (go_end0; exact ⟨rfl, HE⟩)
            | exact bodyPost_ret (results_none rfl _ _ _) rfl ⟨rfl, HE⟩
        | succ k =>
          as_aux_lemma =>
          have hz1 : z = (k : Int) := by omega
          subst hz1
          clear hz
          have gz : (k : Int) ≥ 0 := by omega
          go_wp2_with fail
          refine (HM.out.sz HS2 a (a + k) _ _ (by omega) (by omega) (by omega) (by omega)).mono ?_
          rintro _ w2 ⟨rfl, hs3⟩
          clear HS2
          go_wp2_with fail
          refine (siftDown_z HM.out hs3 0 k a _ _ _ (by omega) (by omega) (by omega) (by rw [swp_size]; omega) (by omega) (by rw [swp_size]; omega)).mono ?_
          rintro _ w3 ⟨rfl, hs4⟩
          clear hs3
          go_wp2_with fail
          go_roundg k
          case measure => omega
          case rel => exact ⟨_, rfl, k, by omega, _, hs4.out, (sift_size k a _ 0 _ (Nat.le_refl _)).trans ((swp_size _ _ _).trans hd2), HL3.out, Nat.le_refl _, by omega⟩
    | succ k =>
      as_aux_lemma =>
      have hz1 : z = (k : Int) := by omega
      subst hz1
      clear hz
      have gz : (k : Int) ≥ 0 := by omega
      go_wp2_with fail
      refine (siftDown_z HM.out HS1 k hi a _ _ _ (by omega) (by omega) (by omega) (by omega) (by omega) (by omega)).mono ?_
      rintro _ w3 ⟨rfl, hs4⟩
      clear HS1
      go_wp2_with fail
      go_roundg k
      case measure => omega
      case rel => exact ⟨_, rfl, k, by omega, _, hs4.out, (sift_size hi a _ k _ (Nat.le_refl _)).trans hd1, HL1.out, Nat.le_refl _, by omega⟩
theorem rev_go {α : Type} [Inhabited α] {i j : Nat} {d : Array α} (h : i < j) : Sort.reverseLoop i j d = Sort.reverseLoop (i + 1) (j - 1) (Sort.swp d i j) := by
  conv => lhs; unfold Sort.reverseLoop
  rw [if_pos h]
theorem rev_no {α : Type} [Inhabited α] {i j : Nat} {d : Array α} (h : ¬ i < j) : Sort.reverseLoop i j d = d := by
  unfold Sort.reverseLoop
  rw [if_neg h]
theorem reverseRange_any {α : Type} [Inhabited α] {T : TypeId} {rv : Value} {gl gs : FuncId} {lt : α → α → Bool} {St : World → Array α → Prop} (hM : Srt T rv gl gs lt St) {w : World} {d : Array α} (h : St w d) (a b : Nat) (hab : a < b) (hb : b ≤ d.size) (hsz : d.size < 4611686018427387904) : Calls Tryz.prog 98 #[.iface T rv, .int .i64 (a : Nat), .int .i64 (b : Nat)] w fun e w' => e = .returned (.tuple #[]) ∧ Hid (St w' (Sort.reverseRange d a b)) := by
  obtain ⟨LS, hLS⟩ : ∃ LS, LS = Sort.reverseRange d a b := ⟨_, rfl⟩
  rw [← hLS]
  have HLS : Hid (LS = Sort.reverseLoop a (b - 1) d) := hLS
  have HM := hide hM
  have ms : ∀ w, (method 342 T rv "Swap").run Tryz.prog w = .ok (gs, rv) w := hM.ms
  have es := hM.es
  have HS := hide h
  obtain ⟨n, hn⟩ : ∃ n, n = d.size := ⟨_, rfl⟩
  rw [← hn] at hb hsz
  have HN := hide hn
  clear hM h hLS hn
  go_enter Tryz.func98, Tryz.ntmps98
  go_wp2_with fail
  go_loopg [6, 7] (b - a) (fun gk s6 s7 wx => ∃ x y : Int, s6 = .int .i64 x ∧ s7 = .int .i64 y ∧ ∃ i j : Nat, x = (i : Int) ∧ y = (j : Int) ∧ (∃ d' : Array α, St wx d' ∧ d'.size = n ∧ LS = Sort.reverseLoop i j d' ∧ j - i ≤ gk ∧ j < n ∧ i ≤ n))
  case atStart => exact ⟨_, _, rfl, rfl, a, b - 1, by omega, by omega, d, HS.out, HN.out.symm, HLS.out, by omega, by omega, by omega⟩
  case round =>
    obtain ⟨x, y, rfl, rfl, i, j, hx, hy, e, hs1, hd1, hl1, hg1, hj1, hi1⟩ := hrel
    have HS1 := hide hs1
    have HL1 := hide hl1
    clear hs1 hl1 HS HLS
    subst hx hy
    by_cases hij : i < j
    · as_aux_lemma =>
      have gz : (i : Int) < (j : Int) := by omega
      go_wp2_with fail
      refine (HM.out.sz HS1 i j _ _ (by omega) (by omega) (by omega) (by omega)).mono ?_
      rintro _ w2 ⟨rfl, hs3⟩
      clear HS1
      go_wp2_with fail
      go_roundg (j - 1 - (i + 1))
      case measure => omega
      case rel => exact ⟨_, _, rfl, rfl, i + 1, j - 1, by omega, by omega, _, hs3.out, (swp_size _ _ _).trans hd1, HL1.out.trans (rev_go hij), Nat.le_refl _, by omega, by omega⟩
    · as_aux_lemma =>
      have gz : ¬ ((i : Int) < (j : Int)) := by omega
      have HE : Hid (St wr LS) := by show St _ _; rw [HL1.out, rev_no hij]; exact HS1.out
      clear HS1 HL1
      go_wp2_with fail
      first
        | (go_end0; exact ⟨rfl, HE⟩)
        | exact bodyPost_ret (results_none rfl _ _ _) rfl ⟨rfl, HE⟩
end
section
open Go.RowKit Go
structure Srm {α : Type} [Inhabited α] (T : TypeId) (rv : Value) (gl gs : FuncId) (lt : α → α → Bool) (M : Nat) (St : World → Array α → Prop) : Prop where
  ml : ∀ w, (method 342 T rv "Less").run Tryz.prog w = .ok (gl, rv) w
  ms : ∀ w, (method 342 T rv "Swap").run Tryz.prog w = .ok (gs, rv) w
  el : ∀ args w, (callFunc gl args).run Tryz.prog w = .ok (.enter gl args) w
  es : ∀ args w, (callFunc gs args).run Tryz.prog w = .ok (.enter gs args) w
  low : ∀ {w : World} {d : Array α}, St w d → M ≤ w.heap.size
  keep : ∀ {w w' : World} {d : Array α}, St w d → Below M w w' → St w' d
  less : ∀ {w : World} {d : Array α} (i j : Nat), St w d → i < d.size → j < d.size → Calls Tryz.prog gl #[rv, .int .i64 (i : Nat), .int .i64 (j : Nat)] w fun e w' => e = .returned (.bool (lt d[i]! d[j]!)) ∧ Below w.heap.size w w'
  swap : ∀ {w : World} {d : Array α} (i j : Nat), St w d → i < d.size → j < d.size → Calls Tryz.prog gs #[rv, .int .i64 (i : Nat), .int .i64 (j : Nat)] w fun e w' => e = .returned (.tuple #[]) ∧ Hid (St w' (Sort.swp d i j)) ∧ Kp (fun q => q < M) w w'
section
variable {α : Type} [Inhabited α] {T : TypeId} {rv : Value} {gl gs : FuncId} {lt : α → α → Bool} {M : Nat} {St : World → Array α → Prop}
theorem Srm.on (hM : Srm T rv gl gs lt M St) {w w' : World} {d : Array α} (h : St w d) (hb : Below w.heap.size w w') : St w' d :=
  hM.keep h ((Kp.of_below (S := fun _ => False) hb).below (hM.low h) (fun _ h => h.elim))
theorem Srm.srt (hM : Srm T rv gl gs lt M St) : Srt T rv gl gs lt St where
  ml := hM.ml
  ms := hM.ms
  el := hM.el
  es := hM.es
  less i j h hi hj := (hM.less i j h hi hj).mono fun _ _ ⟨he, hb⟩ => ⟨he, hM.on h hb⟩
  swap i j h hi hj := (hM.swap i j h hi hj).mono fun _ _ ⟨he, hs, _⟩ => ⟨he, hs⟩
theorem Srm.put (hM : Srm T rv gl gs lt M St) {w : World} {d : Array α} (h : St w d) (cb : Nat) (v : Value) (hc : M ≤ cb) : St (w.setCell ⟨cb, 0, none⟩ v) d :=
  hM.keep h (((Kp.refl (fun q => q = cb) w).setCell ⟨cb, 0, none⟩ v (fun _ => rfl)).below (hM.low h) (fun k hk => by rw [hk]; exact hc))
theorem Srm.drewN (hM : Srm T rv gl gs lt M St) {w : World} {d : Array α} (h : St w d) (n : Nat) : St (w.drewN n) d :=
  hM.keep h (((Kp.refl (fun _ => False) w).drewN n).below (hM.low h) (fun _ h => h.elim))
end
def Cnt (w : World) (cb : Nat) (s : Nat) : Prop := w.heap[cb]? = some (.cells #[.int .i64 (s : Nat)] 3 (0, 0))
theorem order2_any {α : Type} [Inhabited α] {T : TypeId} {rv : Value} {gl gs : FuncId} {lt : α → α → Bool} {M : Nat} {St : World → Array α → Prop} (hM : Srm T rv gl gs lt M St) {w : World} {d : Array α} (cb s a b : Nat) (h : Hid (St w d ∧ Cnt w cb s ∧ M ≤ cb)) (r : Nat × Nat × Nat) (hr : Sort.order2 lt d a b s = r) (x y : Int) (hx : x = (a : Int)) (hy : y = (b : Int)) (ha : a < d.size) (hb : b < d.size) (hs : s < 1000) : Calls Tryz.prog 141 #[.iface T rv, .int .i64 x, .int .i64 y, .pointer (some ⟨cb, 0, none⟩)] w fun e w' => e = .returned (.tuple #[.int .i64 (r.1 : Nat), .int .i64 (r.2.1 : Nat)]) ∧ Hid (St w' d ∧ Cnt w' cb r.2.2 ∧ M ≤ cb) := by
  subst hx hy
  have HM := hide hM
  have ml : ∀ w, (method 342 T rv "Less").run Tryz.prog w = .ok (gl, rv) w := hM.ml
  have el := hM.el
  have HL := hide (hM.less b a h.out.1 hb ha)
  have HR := hide hr
  clear hM ha hb hr
  go_enter Tryz.func141, Tryz.ntmps141
  go_wp2_with fail
  refine HL.out.mono ?_
  rintro _ w2 ⟨rfl, hbl⟩
  clear HL
  obtain ⟨h1, h2, h3⟩ := h.out
  have HS2 := hide (HM.out.on h1 hbl)
  have hc2 : w2.heap[cb]? = some (.cells #[.int .i64 (s : Nat)] 3 (0, 0)) := (hbl.block cb (blk_lt h2)).trans h2
  have H3 := hide h3
  clear h h1 h2 h3 hbl
  generalize hlv : lt d[b]! d[a]! = lv at *
  have HLV := hide hlv
  clear hlv
  cases lv with
  | true =>
    have er : r = (b, a, s + 1) := by rw [← HR.out]; unfold Sort.order2; rw [HLV.out]; rfl
    subst er
    have c1 := blk_cell (j := 0) (v := .int .i64 (s : Nat)) hc2 rfl
    have f1 := blk_frozen 0 hc2
    have HC2 := hide hc2
    have k1 : ((s + 1 : Nat) : Int) = (s : Int) + 1 := by omega
    clear hc2 HR HLV
    go_wp2_with fail
    have hcx := blk_set 0 (.int .i64 ((s : Int) + 1)) HC2.out
    go_ret2
    refine ⟨rfl, HM.out.put HS2.out cb _ H3.out, ?_, H3.out⟩
    unfold Cnt
    rw [k1]
    exact hcx
  | false =>
    have er : r = (a, b, s) := by rw [← HR.out]; unfold Sort.order2; rw [HLV.out]; rfl
    subst er
    have HC2 := hide hc2
    clear hc2 HR HLV
    go_wp2_with fail
    go_ret2
    exact ⟨rfl, HS2.out, HC2.out, H3.out⟩
end
section
open Go.RowKit Go
theorem set2_9 (w : World) (rb : Nat) (v v' : Value) : (w.setCell ⟨rb, 0, none⟩ v).setCell ⟨rb, 0, none⟩ v' = w.setCell ⟨rb, 0, none⟩ v' := by
  rw [Sort.setCell_eq, Sort.setCell_eq, Sort.mapBlock_mapBlock, Sort.setCell_eq]
  congr 1
  funext c
  simp
theorem bitLen9 : ∀ (k x : Nat), x < 2 ^ k → k ≤ 64 → Lib.bitLen x = Sort.bitsLen x
  | 0, x, h, _ => by
    have : x = 0 := by simpa using h
    subst this
    rfl
  | k + 1, x, h, hk => by
    by_cases h0 : x = 0
    · subst h0
      rfl
    · rw [Lib.bitLen_half x h0 (Nat.lt_of_lt_of_le h (Nat.pow_le_pow_right (by decide) hk)), bitLen9 k (x / 2) (by rw [Nat.pow_succ] at h; omega) (by omega)]
      unfold Sort.bitsLen
      rw [if_neg h0]
      by_cases h1 : x / 2 = 0
      · rw [if_pos h1]
        have : x = 1 := by omega
        subst this
        rfl
      · rw [if_neg h1]
        conv => rhs; rw [Nat.log2_def, if_pos (by omega)]
        omega
theorem next9_any (rb X : Nat) (hX : X < 18446744073709551616) (w : World) (hb : w.heap[rb]? = some (.cells #[.int .u64 (X : Nat)] 190 (0, 0))) : Calls Tryz.prog 121 #[.pointer (some ⟨rb, 0, none⟩)] w fun e w' => e = .returned (.int .u64 (Sort.xorNextN X : Nat)) ∧ Hid (∃ q, w' = (w.setCell ⟨rb, 0, none⟩ (.int .u64 (Sort.xorNextN X : Nat))).drewN q) := by
  obtain ⟨A, hA⟩ : ∃ A : Nat, A = X ^^^ (X * 8192 % 18446744073709551616) := ⟨_, rfl⟩
  obtain ⟨B, hB⟩ : ∃ B : Nat, B = A ^^^ (A / 128) := ⟨_, rfl⟩
  obtain ⟨C, hC⟩ : ∃ C : Nat, C = B ^^^ (B * 131072 % 18446744073709551616) := ⟨_, rfl⟩
  have lA : A < 18446744073709551616 := by rw [hA]; exact Nat.xor_lt_two_pow (n := 64) (by omega) (by omega)
  have lB : B < 18446744073709551616 := by rw [hB]; exact Nat.xor_lt_two_pow (n := 64) (by omega) (by omega)
  have e1 : bits .xor .u64 (X : Int) (IntKind.u64.wrap ((X : Int) * 8192)) = (A : Int) := by
    rw [IntKind.wrap_u64, show ((X : Int) * 8192 % 18446744073709551616) = ((X * 8192 % 18446744073709551616 : Nat) : Int) by omega, bits_xor_u64_nat _ _ hX (by omega), hA]
  have e2 : bits .xor .u64 (A : Int) ((A : Int) / 128) = (B : Int) := by
    rw [show ((A : Int) / 128) = ((A / 128 : Nat) : Int) by omega, bits_xor_u64_nat _ _ lA (by omega), hB]
  have e3 : bits .xor .u64 (B : Int) (IntKind.u64.wrap ((B : Int) * 131072)) = (C : Int) := by
    rw [IntKind.wrap_u64, show ((B : Int) * 131072 % 18446744073709551616) = ((B * 131072 % 18446744073709551616 : Nat) : Int) by omega, bits_xor_u64_nat _ _ lB (by omega), hC]
  have hv : Sort.xorNextN X = C := by unfold Sort.xorNextN; simp only []; rw [← hA, ← hB, ← hC]
  rw [hv]
  have hc := blk_cell (j := 0) (v := .int .u64 (X : Nat)) hb rfl
  have hf := blk_frozen 0 hb
  clear hA hB hC hv hb
  have hss : ∀ v v', (w.setCell ⟨rb, 0, none⟩ v).setCell ⟨rb, 0, none⟩ v' = w.setCell ⟨rb, 0, none⟩ v' := fun v v' => set2_9 w rb v v'
  go_enter Tryz.func121, Tryz.ntmps121
  go_wp2
  go_region
  all_goals go_wp2
  all_goals go_region
  all_goals go_wp2
  all_goals go_region
  all_goals go_wp2
  go_ret
  exact ⟨rfl, 3, rfl⟩
theorem wrap_pow9 (k : Nat) (hk : k ≤ 62) : IntKind.u64.wrap ((2 : Int) ^ k) = ((1 <<< k : Nat) : Int) := by
  have h : (2 : Nat) ^ k ≤ 2 ^ 62 := Nat.pow_le_pow_right (by decide) hk
  rw [IntKind.wrap_u64, Nat.one_shiftLeft, show ((2 : Int) ^ k) = ((2 ^ k : Nat) : Int) by push_cast; rfl]
  generalize (2 : Nat) ^ k = p at h
  omega
theorem bitsLen_any (n : Nat) (hn : n < 4611686018427387904) (w : World) : Calls Tryz.prog 69 #[.int .u64 (n : Nat)] w fun e w' => e = .returned (.int .i64 (Sort.bitsLen n : Nat)) ∧ w' = w := by
  have h := Any.bits_Len Tryz.laysBl (n : Int) w (by omega) (by omega)
  rwa [Int.toNat_natCast, bitLen9 64 n (by omega) (Nat.le_refl _)] at h
theorem nextPow_any (n : Nat) (hn : n < 4611686018427387904) (w : World) : Calls Tryz.prog 120 #[.int .i64 (n : Nat)] w fun e w' => e = .returned (.int .u64 ((1 <<< Sort.bitsLen n : Nat) : Int)) ∧ w' = w := by
  have hk : Sort.bitsLen n ≤ 62 := (Sort.bitsLen_le_iff n 62).2 (by omega)
  have hp := wrap_pow9 (Sort.bitsLen n) hk
  go_enter Tryz.func120, Tryz.ntmps120
  go_wp2_with fail
  refine (bitsLen_any n hn w).mono ?_
  rintro _ w1 ⟨rfl, rfl⟩
  go_wp2_with fail
  go_ret
  exact ⟨rfl, rfl⟩
end
end Go.Proofs.YtmcamdcgnegmmaaGreatDoor

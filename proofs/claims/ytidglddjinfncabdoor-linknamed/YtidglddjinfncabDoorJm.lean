import Derived.Test.YtidglddjinfncabDoorJl
namespace Go.Proofs.YtidglddjinfncabDoor
section
open Go.RowKit Go
/-- A link's block that is none yet. -/
structure Fz (w wx : World) : Prop where
  r : wx.heap[w.heap.size]? = some (.cells zlk 33 (0, 0))
  b : Below w.heap.size w wx
theorem Fz.below {w wx wy : World} (h : Fz w wx) (hb : Below wx.heap.size wx wy) : Fz w wy := ⟨(hb.block _ (blk_lt h.r)).trans h.r, h.b.trans (hb.mono h.b.size)⟩
theorem Fz.start (w : World) : Fz w (w.alloc (.cells #[.int .i64 0, .int .u64 0, .int .u64 0, .string ⟨#[]⟩] 33)) := ⟨heap_alloc_new w _, below_alloc4 w _⟩
theorem rd_bound4 (xs : List Nat) (h : (rd 0 0 xs).2.2 = 0) : (rd 0 0 xs).1 < 9223372036854775808 ∧ (rd 0 0 xs).2.1 ≤ xs.length := by
  have h1 := dnum_bound xs
  unfold dnum at h1
  rw [if_pos h] at h1
  have := h1 h
  exact ⟨this.1, this.2.1⟩
theorem lend_bound (xs : List Nat) : (lend xs).2.2.1 ≤ xs.length := by
  unfold lend
  by_cases h0 : (dread xs).2.2.2 = 0
  · rw [if_pos h0]
    exact (dread_back h0).1
  · rw [if_neg h0]
    simp
theorem dread_first {xs : List Nat} (h : (dread xs).2.2.2 = 0) : (dread xs).1 = (dnum xs).1 := by
  unfold dread at h ⊢
  split
  · rename_i h1
    rw [if_pos h1] at h
    exact absurd h h1
  · rename_i h1
    rw [if_neg h1] at h
    split
    · rename_i h2
      rw [if_pos h2] at h
      exact absurd h h2
    · rename_i h2
      rw [if_neg h2] at h
      split
      · rename_i h3
        rw [if_pos h3] at h
        simp at h
      · rename_i h3
        rw [if_neg h3] at h
        split
        · rename_i h4
          rw [if_pos h4] at h
          simp at h
        · rename_i h4
          rw [if_neg h4] at h
          split
          · rename_i h5
            rw [if_pos h5] at h
            simp at h
          · rfl
theorem lend_byte {xs : List Nat} (h : ∀ x ∈ xs, x < 256) : ∀ x ∈ (lend xs).2.1, x < 256 := by
  unfold lend
  split
  · exact dread_bytes4 h
  · simp
set_option maxRecDepth 1000000 in
set_option maxHeartbeats 2000000 in
theorem first4_any (w : World) (v : Value) (b : List Nat) (hb : BSl w v b) :
    Calls Tryd.prog 22 #[v] w fun e w' => e = .returned (.tuple #[lkv (lfirst b).1, .int .i64 ((lfirst b).2.1 : Nat), .int .i64 ((lfirst b).2.2 : Nat)]) ∧ Below w.heap.size w w' := by
  have HB := hide hb
  obtain ⟨⟨a, cap, rfl, hn, hc⟩, hmax, hby⟩ := hb
  have HBY := hide hby
  have HF0 := hide (Fz.start w)
  have HBV := hide (HB.out.move (keep_below HF0.out.b))
  by_cases h18 : b.head? = some 18
  · obtain ⟨r, rfl⟩ : ∃ r, b = 18 :: r := by
      cases b with
      | nil => simp at h18
      | cons x r => simp at h18; exact ⟨r, by rw [h18]⟩
    obtain ⟨bb, off, rfl, hcell⟩ := hc.resolve_left (by simp)
    have hc0 := hcell 0 (by simp)
    rw [Nat.add_zero] at hc0
    have cx := keep_below HF0.out.b _ _ hc0
    have g00 : (0 : Int) < ((18 :: r).length : Int) := by simp
    have HLF : Hid (lfirst (18 :: r) = lthird 0 112 0 (18 :: r)) := by
      show _ = _
      unfold lfirst
      rw [if_pos (show (18 :: r).head? = some 18 from rfl)]
    have HLD : Hid (lthird 0 112 0 (18 :: r) = if (lend (18 :: r)).2.2.2 = 0 then (⟨0, 112, 18, (lend (18 :: r)).2.1⟩, (lend (18 :: r)).2.2.1, 0) else (Lk.none, 0, (lend (18 :: r)).2.2.2)) := by
      show _ = _
      rw [lend_third, List.drop_zero, Nat.zero_add]
      by_cases h0 : (lend (18 :: r)).2.2.2 = 0
      · rw [if_pos h0, if_pos h0]
        have : (lend (18 :: r)).1 = 18 := by
          unfold lend at h0 ⊢
          by_cases h1 : (dread (18 :: r)).2.2.2 = 0
          · rw [if_pos h1]
            rw [dread_first h1, dnum_small (by decide)]
          · rw [if_neg h1] at h0
            unfold lerr at h0
            simp only at h0
            split at h0 <;> omega
        rw [this]
      · rw [if_neg h0, if_neg h0]
    simp only [List.getD_cons_zero] at cx
    clear hc hcell hc0 h18 hn
    generalize hLL : (18 :: r).length = LL at *
    have HLL := hide hLL
    clear hLL
    generalize hBL : 18 :: r = bl at *
    have HBLE := hide hBL
    clear hBL
    go_enter Tryd.func22, Tryd.ntmps22
    go_wp2_with fail
    generalize w.alloc (.cells #[.int .i64 0, .int .u64 0, .int .u64 0, .string ⟨#[]⟩] 33) = w0 at *
    refine (lending_any w0 _ bl HBV.out).mono ?_
    rintro e w1 ⟨v1, rfl, ho1, hb1⟩
    have HF1 := hide (HF0.out.below hb1)
    have HV1 := hide (BSl.own ho1 (lend_byte HBY.out))
    obtain ⟨a1, c1, hv1, _⟩ := own_form ho1
    subst hv1
    have HBD := hide (lend_bound bl)
    clear ho1 hb1 cx
    generalize lend bl = le at *
    obtain ⟨lh, ld, lu, lee⟩ := le
    simp only at HV1 HLD HBD ⊢
    by_cases he : lee = 0
    · subst he
      as_aux_lemma =>
      rw [if_pos rfl] at HLD
      have cv := HV1.out.text
      go_wp2_with fail
      clear cv
      refine (old_any w1 (nstr ld)).mono ?_
      rintro e w2 ⟨rfl, hb2⟩
      have HF2 := hide (HF1.out.below hb2)
      have HR2 := hide HF2.out.r
      clear hb2
      go_wp2_with (refine wpList_storeLk rfl rfl w.heap.size zlk ⟨0, 112, 18, ld⟩ rfl rfl rfl HR2.out ?_)
      exact bodyPost_ret (end_c3 rfl Tryd.underlying33 info61 rfl (row_same HR2.out) rfl rfl rfl) rfl ⟨by rw [HLF.out, HLD.out]; rfl, HF2.out.b.trans ((row_kp _ _ _).below HF2.out.b.size (fun q e => by omega))⟩
    · as_aux_lemma =>
      rw [if_neg he] at HLD
      have g1 : ((lee : Int) == 0) = false := beq_eq_false_iff_ne.2 (by omega)
      have HR1 := hide HF1.out.r
      go_wp2_with (refine wpList_zero rfl rfl w.heap.size rfl rfl HR1.out ?_)
      exact bodyPost_ret (end_c3 rfl Tryd.underlying33 info61 rfl HR1.out rfl rfl rfl) rfl ⟨by rw [HLF.out, HLD.out]; rfl, HF1.out.b⟩
  · have HNE := hide h18
    have HDN : Hid (∀ xs : List Nat, (dnum xs).2.2 ≠ 0 ↔ (rd 0 0 xs).2.2 ≠ 0) := by
      intro xs
      unfold dnum
      by_cases h : (rd 0 0 xs).2.2 = 0
      · rw [if_pos h]
      · rw [if_neg h]
        simp only
        constructor
        · intro _
          exact h
        · intro _
          split <;> decide
    have HDE : Hid (∀ xs : List Nat, (rd 0 0 xs).2.2 = 0 → dnum xs = rd 0 0 xs) := by
      intro xs h
      unfold dnum
      rw [if_pos h]
    clear h18 hn hmax
    have HML := hide HB.out.max
    by_cases h0 : b = []
    · subst h0
      as_aux_lemma =>
      clear hc
      have HLF : Hid (lfirst [] = (Lk.none, 0, 42)) := rfl
      have HR1 := hide HF0.out.r
      have HV : Hid (rd 0 0 [] = (0, 0, 10)) := rfl
      simp only [List.length_nil] at HBV ⊢
      go_enter Tryd.func22, Tryd.ntmps22
      go_wp2_with fail
      generalize w.alloc (.cells #[.int .i64 0, .int .u64 0, .int .u64 0, .string ⟨#[]⟩] 33) = w0 at *
      refine HBV.out.vread.mono ?_
      rintro e w1 ⟨rfl, rfl⟩
      rw [HV.out]
      go_wp2_with (refine wpList_zero rfl rfl w.heap.size rfl rfl HR1.out ?_)
      exact bodyPost_ret (end_c3 rfl Tryd.underlying33 info61 rfl HR1.out rfl rfl rfl) rfl ⟨by rw [HLF.out]; rfl, HF0.out.b⟩
    have hpos : 0 < b.length := List.length_pos_iff.2 h0
    have g00 : (0 : Int) < (b.length : Int) := by omega
    obtain ⟨bb, off, rfl, hcell⟩ := hc.resolve_left h0
    have hc0 := hcell 0 hpos
    rw [Nat.add_zero] at hc0
    have cx := keep_below HF0.out.b _ _ hc0
    have g18 : (((b.getD 0 0 : Nat) : Int) == 18) = false := by
      have := HNE.out
      rw [beq_eq_false_iff_ne]
      cases b with
      | nil => exact absurd rfl h0
      | cons x r => simp at this ⊢; omega
    clear hc hcell hc0 hby h0 hpos
    generalize b.getD 0 0 = x0 at cx g18
    go_enter Tryd.func22, Tryd.ntmps22
    go_wp2_with fail
    generalize w.alloc (.cells #[.int .i64 0, .int .u64 0, .int .u64 0, .string ⟨#[]⟩] 33) = w0 at *
    refine HBV.out.vread.mono ?_
    rintro e w1 ⟨rfl, rfl⟩
    have HD1 := hide (HDN.out b)
    have HE1 := hide (HDE.out b)
    have HRB := hide (rd_bound4 b)
    obtain ⟨vn, un, en, hD⟩ : ∃ vn un en, rd 0 0 b = (vn, un, en) := ⟨_, _, _, rfl⟩
    rw [hD] at HD1 HE1 HRB ⊢
    clear hD
    simp only at HD1 HE1 HRB ⊢
    have HR1 := hide HF0.out.r
    by_cases hen : en = 0
    · subst hen
      have HE2 := hide (HE1.out rfl)
      have hrb := HRB.out rfl
      by_cases hvn : vn = 1
      · subst hvn
        have HUN : Hid (un ≤ b.length) := hrb.2
        clear hrb HRB HD1 HE1
        go_wp2_with (refine wpList_drop rfl 54 55 rfl _ b un rfl rfl HBV.out HUN.out ?_)
        intro ad1 nd1 cd1 hbd1 hnd1
        have HBD1 := hide hbd1
        clear hbd1 hnd1
        go_wp2_with fail
        refine HBD1.out.vread.mono ?_
        rintro e w2 ⟨rfl, rfl⟩
        have HD3 := hide (HDN.out (b.drop un))
        have HE3 := hide (HDE.out (b.drop un))
        have HRB := hide (rd_bound4 (b.drop un))
        obtain ⟨c2, u2, e2, hD2⟩ : ∃ c2 u2 e2, rd 0 0 (b.drop un) = (c2, u2, e2) := ⟨_, _, _, rfl⟩
        rw [hD2] at HD3 HE3 HRB ⊢
        clear hD2
        simp only at HD3 HE3 HRB ⊢
        by_cases he2 : e2 = 0
        · subst he2
          have HE4 := hide (HE3.out rfl)
          have hdb2 := HRB.out rfl
          have HLF : Hid (lfirst b = lthird 1 c2 (un + u2) b) := by
            show _ = _
            unfold lfirst
            rw [if_neg HNE.out, HE2.out]
            simp only [ne_eq, not_true_eq_false, if_false]
            rw [HE4.out]
            simp
          have HAT : Hid (un + u2 ≤ b.length) := by have h1 := hdb2.2; rw [List.length_drop] at h1; have := HUN.out; show _ ≤ _; omega
          have hun : (un : Int) + (u2 : Int) ≤ 9223372036854775807 := by have := HAT.out; have := HML.out; omega
          have hsum : (un : Int) + (u2 : Int) = ((un + u2 : Nat) : Int) := by omega
          have HLD := hide (lend_third 1 c2 (un + u2) b)
          clear HRB hdb2 HUN HNE HE3 HE4 HE2 HD3 HBD1
          generalize hat4 : un + u2 = at4 at HLF HAT hsum HLD
          clear hat4
          go_wp2_with (refine wpList_drop rfl 68 69 rfl _ b at4 rfl rfl HBV.out HAT.out ?_)
          intro ad nd cd hbd hnd
          have HBD := hide hbd
          clear hbd hnd
          go_wp2_with fail
          refine (lending_any w2 _ (b.drop at4) HBD.out).mono ?_
          rintro e w5 ⟨vd, rfl, ho5, hb5⟩
          have HF5 := hide (HF0.out.below hb5)
          have HVD := hide (BSl.own ho5 (lend_byte (fun x hx => HBY.out x (List.mem_of_mem_drop hx))))
          have HLB := hide (lend_bound (b.drop at4))
          rw [List.length_drop] at HLB
          obtain ⟨ae, ce, hve, _⟩ := own_form ho5
          subst hve
          clear ho5 hb5
          generalize lend (b.drop at4) = le at *
          obtain ⟨lh, ld, lu, lee⟩ := le
          simp only at HVD HLD HLB ⊢
          by_cases he : lee = 0
          · subst he
            as_aux_lemma =>
            rw [if_pos rfl] at HLD
            have cv := HVD.out.text
            have HR5 := hide HF5.out.r
            have hnr : (at4 : Int) + (lu : Int) ≤ 9223372036854775807 := by have := HLB.out; have := HAT.out; have := HML.out; omega
            go_wp2_with (refine wpList_storeLk rfl rfl w.heap.size zlk ⟨1, c2, lh, ld⟩ rfl rfl rfl HR5.out ?_)
            exact bodyPost_ret (end_c3 rfl Tryd.underlying33 info61 rfl (row_same HR5.out) rfl rfl rfl) rfl ⟨by rw [HLF.out, HLD.out]; simp only [Int.natCast_add]; rfl, HF5.out.b.trans ((row_kp _ _ _).below HF5.out.b.size (fun q e => by omega))⟩
          · as_aux_lemma =>
            rw [if_neg he] at HLD
            have g1 : ((lee : Int) == 0) = false := beq_eq_false_iff_ne.2 (by omega)
            have HR5 := hide HF5.out.r
            go_wp2_with (refine wpList_zero rfl rfl w.heap.size rfl rfl HR5.out ?_)
            exact bodyPost_ret (end_c3 rfl Tryd.underlying33 info61 rfl HR5.out rfl rfl rfl) rfl ⟨by rw [HLF.out, HLD.out]; rfl, HF5.out.b⟩
        · as_aux_lemma =>
          have HLF : Hid (lfirst b = (Lk.none, 0, 42)) := by
            show _ = _
            unfold lfirst
            rw [if_neg HNE.out, HE2.out]
            simp only [ne_eq, not_true_eq_false, if_false]
            rw [if_pos (HD3.out.2 he2)]
          have g2 : ((e2 : Int) == 0) = false := beq_eq_false_iff_ne.2 (by omega)
          clear HRB HD3 HE3 HNE HE2
          go_wp2_with (refine wpList_zero rfl rfl w.heap.size rfl rfl HR1.out ?_)
          exact bodyPost_ret (end_c3 rfl Tryd.underlying33 info61 rfl HR1.out rfl rfl rfl) rfl ⟨by rw [HLF.out]; rfl, HF0.out.b⟩
      · as_aux_lemma =>
        have HLF : Hid (lfirst b = (Lk.none, 0, 41)) := by
          show _ = _
          unfold lfirst
          rw [if_neg HNE.out, HE2.out]
          simp [hvn]
        have g2 : ((vn : Int) == 1) = false := beq_eq_false_iff_ne.2 (by omega)
        clear HRB HD1 HE1 HE2 HNE hrb
        go_wp2_with (refine wpList_zero rfl rfl w.heap.size rfl rfl HR1.out ?_)
        exact bodyPost_ret (end_c3 rfl Tryd.underlying33 info61 rfl HR1.out rfl rfl rfl) rfl ⟨by rw [HLF.out]; rfl, HF0.out.b⟩
    · as_aux_lemma =>
      have HLF : Hid (lfirst b = (Lk.none, 0, 42)) := by
        show _ = _
        unfold lfirst
        rw [if_neg HNE.out, if_pos (HD1.out.2 hen)]
      have g2 : ((en : Int) == 0) = false := beq_eq_false_iff_ne.2 (by omega)
      clear HRB HD1 HE1 HNE
      go_wp2_with (refine wpList_zero rfl rfl w.heap.size rfl rfl HR1.out ?_)
      exact bodyPost_ret (end_c3 rfl Tryd.underlying33 info61 rfl HR1.out rfl rfl rfl) rfl ⟨by rw [HLF.out]; rfl, HF0.out.b⟩
end
section
open Go.RowKit Go
theorem sl_extract (s : ByteArray) (i j : Nat) : sl (s.extract i j) = ((sl s).take j).drop i := by
  unfold sl
  rw [ByteArray.data_extract, Array.toList_extract, List.extract_eq_take_drop, List.map_take, List.map_drop, ← List.drop_take]
theorem sl_tail (s : ByteArray) : sl (s.extract 1 s.size) = (sl s).drop 1 := by
  rw [sl_extract, List.take_of_length_le (by rw [sl_len]; exact Nat.le_refl _)]
theorem ext_tail (s : ByteArray) : s.extract 1 s.size = nstr ((sl s).drop 1) := by
  rw [← sl_tail, nstr_sl]
theorem ext_head (s : ByteArray) {x : Nat} {r : List Nat} (h : sl s = x :: r) (c : UInt8) : ((s.extract 0 1).toList == [c]) = decide (x = c.toNat) := by
  have h1 : sl (s.extract 0 1) = [x] := by rw [sl_extract, h]; rfl
  have h2 : (s.extract 0 1).toList = (s.extract 0 1).data.toList := ByteArray.toList_eq _
  rw [h2]
  unfold sl at h1
  generalize (s.extract 0 1).data.toList = l at *
  cases l with
  | nil => simp at h1
  | cons u m =>
    simp only [List.map_cons, List.cons.injEq, List.map_eq_nil_iff] at h1
    obtain ⟨h3, rfl⟩ := h1
    subst h3
    rw [Bool.eq_iff_iff]
    simp [UInt8.toNat_inj]
theorem not_empty (s : ByteArray) {x : Nat} {r : List Nat} (h : sl s = x :: r) : s.toList.isEmpty = false := by
  rw [ByteArray.toList_eq]
  unfold sl at h
  cases hl : s.data.toList with
  | nil => rw [hl] at h; simp at h
  | cons u m => rfl
/-- What split tells. -/
def spl : List Nat → Bs × List Nat × Bool
  | [] => (b0, [], false)
  | x :: r => if x = 81 then (b58, x :: r, true) else if x = 102 then (b16, r, true) else if x = 98 then (b32, r, true) else if x = 122 then (b58, r, true) else (b0, r, false)
structure Bz (w wx : World) : Prop where
  r : wx.heap[w.heap.size]? = some (.cells b0.cs 63 (0, 0))
  b : Below w.heap.size w wx
theorem Bz.below {w wx wy : World} (h : Bz w wx) (hb : Below wx.heap.size wx wy) : Bz w wy := ⟨(hb.block _ (blk_lt h.r)).trans h.r, h.b.trans (hb.mono h.b.size)⟩
theorem Bz.start (w : World) : Bz w (w.alloc (.cells #[.string ⟨#[]⟩, .string ⟨#[]⟩, .int .i64 0] 63)) := ⟨heap_alloc_new w _, below_alloc4 w _⟩
theorem below_drewN (w : World) (n : Nat) : Below w.heap.size w (w.drewN n) := ((Kp.refl (fun _ => False) w).drewN n).below (Nat.le_refl _) (fun _ h => h.elim)
set_option maxRecDepth 1000000 in
set_option maxHeartbeats 2000000 in
theorem split_any (w : World) (s : ByteArray) (hs : s.size ≤ 1000) :
    Calls Tryd.prog 26 #[.string s] w fun e w' => e = .returned (.tuple #[.agg (spl (sl s)).1.cs, .string (nstr (spl (sl s)).2.1), .bool (spl (sl s)).2.2]) ∧ Below w.heap.size w w' := by
  have HZ0 := hide (Bz.start w)
  cases hsl : sl s with
  | nil =>
    have g0 : s.toList.isEmpty = true := by
      rw [ByteArray.toList_eq]
      unfold sl at hsl
      simpa using hsl
    have HR0 := hide HZ0.out.r
    clear hsl
    go_enter Tryd.func26, Tryd.ntmps26
    go_wp2_with (refine wpList_storeB rfl rfl w.heap.size b0.cs b0 rfl rfl rfl HR0.out ?_)
    exact bodyPost_ret (end_c3 rfl Tryd.underlying63 infoB rfl (row_same HR0.out) rfl rfl rfl) rfl ⟨rfl, HZ0.out.b.trans ((row_kp _ _ _).below HZ0.out.b.size (fun q e => by omega))⟩
  | cons x r =>
    have g0 := not_empty s hsl
    have HT : Hid (s.extract 1 s.size = nstr r) := by show _ = _; rw [ext_tail, hsl]; rfl
    have HSE : Hid (s = nstr (x :: r)) := by show _ = _; rw [← hsl, nstr_sl]
    have HH := hide (fun c => ext_head s hsl c)
    have hp : (1 : Int) ≤ (s.size : Int) := by have := sl_len s; rw [hsl, List.length_cons] at this; omega
    clear hsl
    by_cases h81 : x = 81
    · as_aux_lemma =>
      have HSP : Hid (spl (x :: r) = (b58, x :: r, true)) := by show _ = _; simp only [spl]; rw [if_pos h81]
      rw [HSP.out]
      have k81 := HH.out 81
      rw [decide_eq_true (by exact h81)] at k81
      clear HH h81
      go_enter Tryd.func26, Tryd.ntmps26
      go_wp2_with fail
      go_quiet (fail)
      go_wp2_with fail
      have HZ1 := hide (HZ0.out.below (below_drewN _ nq))
      generalize (w.alloc (.cells #[.string ⟨#[]⟩, .string ⟨#[]⟩, .int .i64 0] 63)).drewN nq = w1 at *
      have HBO : Calls Tryd.prog 24 #[.int .i64 3] w1 fun e w' => e = .returned (.tuple #[.agg b58.cs, .bool true]) ∧ Below w1.heap.size w1 w' := baseOf_any w1 3
      refine HBO.mono ?_
      rintro e w2 ⟨rfl, hb2⟩
      have HZ3 : Hid (Bz w (w2.alloc (.cells b58.cs 63))) := (HZ1.out.below hb2).below (below_alloc4 w2 _)
      have HTB : Hid ((w2.alloc (.cells b58.cs 63)).heap[w2.heap.size]? = some (.cells b58.cs 63 (0, 0))) := heap_alloc_new w2 _
      have HR3 := hide HZ3.out.r
      clear hb2
      go_wp2_with (first
        | (refine wpList_storeB rfl rfl w2.heap.size b0.cs b58 rfl rfl rfl (heap_alloc_new w2 _) ?_; rw [World.setRow_alloc_new])
        | (refine wpList_loadB rfl rfl w2.heap.size b58.cs rfl rfl HTB.out ?_)
        | (refine wpList_storeB rfl rfl w.heap.size b0.cs b58 rfl rfl rfl HR3.out ?_))
      exact bodyPost_ret (end_c3 rfl Tryd.underlying63 infoB rfl (row_same HR3.out) rfl rfl rfl) rfl ⟨by rw [← HSE.out]; rfl, HZ3.out.b.trans ((row_kp _ _ _).below HZ3.out.b.size (fun q e => by omega))⟩
    · skip
      by_cases h102 : x = 102
      · as_aux_lemma =>
        have HSP : Hid (spl (x :: r) = (b16, r, true)) := by show _ = _; simp only [spl]; rw [if_neg h81]; rw [if_pos h102]
        rw [HSP.out]
        have k81 := HH.out 81
        rw [decide_eq_false (by exact h81)] at k81
        have k102 := HH.out 102
        rw [decide_eq_true (by exact h102)] at k102
        clear HH h81 h102
        go_enter Tryd.func26, Tryd.ntmps26
        go_wp2_with fail
        go_quiet (fail)
        go_wp2_with fail
        have HZ1 := hide (HZ0.out.below (below_drewN _ nq))
        generalize (w.alloc (.cells #[.string ⟨#[]⟩, .string ⟨#[]⟩, .int .i64 0] 63)).drewN nq = w1 at *
        have HBO : Calls Tryd.prog 24 #[.int .i64 1] w1 fun e w' => e = .returned (.tuple #[.agg b16.cs, .bool true]) ∧ Below w1.heap.size w1 w' := baseOf_any w1 1
        refine HBO.mono ?_
        rintro e w2 ⟨rfl, hb2⟩
        have HZ3 : Hid (Bz w (w2.alloc (.cells b16.cs 63))) := (HZ1.out.below hb2).below (below_alloc4 w2 _)
        have HTB : Hid ((w2.alloc (.cells b16.cs 63)).heap[w2.heap.size]? = some (.cells b16.cs 63 (0, 0))) := heap_alloc_new w2 _
        have HR3 := hide HZ3.out.r
        clear hb2
        go_wp2_with (first
          | (refine wpList_storeB rfl rfl w2.heap.size b0.cs b16 rfl rfl rfl (heap_alloc_new w2 _) ?_; rw [World.setRow_alloc_new])
          | (refine wpList_loadB rfl rfl w2.heap.size b16.cs rfl rfl HTB.out ?_)
          | (refine wpList_storeB rfl rfl w.heap.size b0.cs b16 rfl rfl rfl HR3.out ?_))
        exact bodyPost_ret (end_c3 rfl Tryd.underlying63 infoB rfl (row_same HR3.out) rfl rfl rfl) rfl ⟨by rw [← HT.out]; rfl, HZ3.out.b.trans ((row_kp _ _ _).below HZ3.out.b.size (fun q e => by omega))⟩
      · skip
        by_cases h98 : x = 98
        · as_aux_lemma =>
          have HSP : Hid (spl (x :: r) = (b32, r, true)) := by show _ = _; simp only [spl]; rw [if_neg h81]; rw [if_neg h102]; rw [if_pos h98]
          rw [HSP.out]
          have k81 := HH.out 81
          rw [decide_eq_false (by exact h81)] at k81
          have k102 := HH.out 102
          rw [decide_eq_false (by exact h102)] at k102
          have k98 := HH.out 98
          rw [decide_eq_true (by exact h98)] at k98
          clear HH h81 h102 h98
          go_enter Tryd.func26, Tryd.ntmps26
          go_wp2_with fail
          go_quiet (fail)
          go_wp2_with fail
          have HZ1 := hide (HZ0.out.below (below_drewN _ nq))
          generalize (w.alloc (.cells #[.string ⟨#[]⟩, .string ⟨#[]⟩, .int .i64 0] 63)).drewN nq = w1 at *
          have HBO : Calls Tryd.prog 24 #[.int .i64 2] w1 fun e w' => e = .returned (.tuple #[.agg b32.cs, .bool true]) ∧ Below w1.heap.size w1 w' := baseOf_any w1 2
          refine HBO.mono ?_
          rintro e w2 ⟨rfl, hb2⟩
          have HZ3 : Hid (Bz w (w2.alloc (.cells b32.cs 63))) := (HZ1.out.below hb2).below (below_alloc4 w2 _)
          have HTB : Hid ((w2.alloc (.cells b32.cs 63)).heap[w2.heap.size]? = some (.cells b32.cs 63 (0, 0))) := heap_alloc_new w2 _
          have HR3 := hide HZ3.out.r
          clear hb2
          go_wp2_with (first
            | (refine wpList_storeB rfl rfl w2.heap.size b0.cs b32 rfl rfl rfl (heap_alloc_new w2 _) ?_; rw [World.setRow_alloc_new])
            | (refine wpList_loadB rfl rfl w2.heap.size b32.cs rfl rfl HTB.out ?_)
            | (refine wpList_storeB rfl rfl w.heap.size b0.cs b32 rfl rfl rfl HR3.out ?_))
          exact bodyPost_ret (end_c3 rfl Tryd.underlying63 infoB rfl (row_same HR3.out) rfl rfl rfl) rfl ⟨by rw [← HT.out]; rfl, HZ3.out.b.trans ((row_kp _ _ _).below HZ3.out.b.size (fun q e => by omega))⟩
        · skip
          by_cases h122 : x = 122
          · as_aux_lemma =>
            have HSP : Hid (spl (x :: r) = (b58, r, true)) := by show _ = _; simp only [spl]; rw [if_neg h81]; rw [if_neg h102]; rw [if_neg h98]; rw [if_pos h122]
            rw [HSP.out]
            have k81 := HH.out 81
            rw [decide_eq_false (by exact h81)] at k81
            have k102 := HH.out 102
            rw [decide_eq_false (by exact h102)] at k102
            have k98 := HH.out 98
            rw [decide_eq_false (by exact h98)] at k98
            have k122 := HH.out 122
            rw [decide_eq_true (by exact h122)] at k122
            clear HH h81 h102 h98 h122
            go_enter Tryd.func26, Tryd.ntmps26
            go_wp2_with fail
            go_quiet (fail)
            go_wp2_with fail
            have HZ1 := hide (HZ0.out.below (below_drewN _ nq))
            generalize (w.alloc (.cells #[.string ⟨#[]⟩, .string ⟨#[]⟩, .int .i64 0] 63)).drewN nq = w1 at *
            have HBO : Calls Tryd.prog 24 #[.int .i64 3] w1 fun e w' => e = .returned (.tuple #[.agg b58.cs, .bool true]) ∧ Below w1.heap.size w1 w' := baseOf_any w1 3
            refine HBO.mono ?_
            rintro e w2 ⟨rfl, hb2⟩
            have HZ3 : Hid (Bz w (w2.alloc (.cells b58.cs 63))) := (HZ1.out.below hb2).below (below_alloc4 w2 _)
            have HTB : Hid ((w2.alloc (.cells b58.cs 63)).heap[w2.heap.size]? = some (.cells b58.cs 63 (0, 0))) := heap_alloc_new w2 _
            have HR3 := hide HZ3.out.r
            clear hb2
            go_wp2_with (first
              | (refine wpList_storeB rfl rfl w2.heap.size b0.cs b58 rfl rfl rfl (heap_alloc_new w2 _) ?_; rw [World.setRow_alloc_new])
              | (refine wpList_loadB rfl rfl w2.heap.size b58.cs rfl rfl HTB.out ?_)
              | (refine wpList_storeB rfl rfl w.heap.size b0.cs b58 rfl rfl rfl HR3.out ?_))
            exact bodyPost_ret (end_c3 rfl Tryd.underlying63 infoB rfl (row_same HR3.out) rfl rfl rfl) rfl ⟨by rw [← HT.out]; rfl, HZ3.out.b.trans ((row_kp _ _ _).below HZ3.out.b.size (fun q e => by omega))⟩
          · skip
            as_aux_lemma =>
            have HSP : Hid (spl (x :: r) = (b0, r, false)) := by show _ = _; simp only [spl]; rw [if_neg h81]; rw [if_neg h102]; rw [if_neg h98]; rw [if_neg h122]
            rw [HSP.out]
            have k81 := HH.out 81
            rw [decide_eq_false (by exact h81)] at k81
            have k102 := HH.out 102
            rw [decide_eq_false (by exact h102)] at k102
            have k98 := HH.out 98
            rw [decide_eq_false (by exact h98)] at k98
            have k122 := HH.out 122
            rw [decide_eq_false (by exact h122)] at k122
            clear HH h81 h102 h98 h122
            go_enter Tryd.func26, Tryd.ntmps26
            go_wp2_with fail
            go_quiet (fail)
            go_wp2_with fail
            have HZ1 := hide (HZ0.out.below (below_drewN _ nq))
            generalize (w.alloc (.cells #[.string ⟨#[]⟩, .string ⟨#[]⟩, .int .i64 0] 63)).drewN nq = w1 at *
            have HBO : Calls Tryd.prog 24 #[.int .i64 0] w1 fun e w' => e = .returned (.tuple #[.agg b0.cs, .bool false]) ∧ Below w1.heap.size w1 w' := baseOf_any w1 0
            refine HBO.mono ?_
            rintro e w2 ⟨rfl, hb2⟩
            have HZ3 : Hid (Bz w (w2.alloc (.cells b0.cs 63))) := (HZ1.out.below hb2).below (below_alloc4 w2 _)
            have HTB : Hid ((w2.alloc (.cells b0.cs 63)).heap[w2.heap.size]? = some (.cells b0.cs 63 (0, 0))) := heap_alloc_new w2 _
            have HR3 := hide HZ3.out.r
            clear hb2
            go_wp2_with (first
              | (refine wpList_storeB rfl rfl w2.heap.size b0.cs b0 rfl rfl rfl (heap_alloc_new w2 _) ?_; rw [World.setRow_alloc_new])
              | (refine wpList_loadB rfl rfl w2.heap.size b0.cs rfl rfl HTB.out ?_)
              | (refine wpList_storeB rfl rfl w.heap.size b0.cs b0 rfl rfl rfl HR3.out ?_))
            exact bodyPost_ret (end_c3 rfl Tryd.underlying63 infoB rfl (row_same HR3.out) rfl rfl rfl) rfl ⟨by rw [← HT.out]; rfl, HZ3.out.b.trans ((row_kp _ _ _).below HZ3.out.b.size (fun q e => by omega))⟩
end
section
open Go.RowKit Go
/-- The row that a text is in a base. -/
def rowd (b : Bs) (s : List Nat) : Option (List Nat) := (looks (sl b.t) s).bind fun l => if b.n = 0 then some (conv b.t.size 256 l) else if encW b.n (decW b.n l) = l then some (decW b.n l) else none
theorem rowd_byte {b : Bs} {s o : List Nat} (h : rowd b s = some o) : ∀ x ∈ o, x < 256 := by
  unfold rowd at h
  obtain ⟨l, _, h⟩ := Option.bind_eq_some_iff.1 h
  split at h
  · injection h with h
    subst h
    exact conv_lt (by decide) l
  · split at h
    · injection h with h
      subst h
      exact decW_lt _ l
    · cases h
set_option maxRecDepth 1000000 in
set_option maxHeartbeats 1000000 in
theorem row_any (w : World) (b : Bs) (s : ByteArray) (hb : Bok b) (hs : s.size ≤ 1000) :
    Calls Tryd.prog 27 #[.agg b.cs, .string s] w fun e w' => ∃ v o, e = .returned (.tuple #[v, .bool (rowd b (sl s)).isSome]) ∧ w'.ownsRow w.heap.size 5 1 v o.length (bv o) ∧ (∀ x, rowd b (sl s) = some x → o = x) ∧ Below w.heap.size w w' := by
  have HB := hide hb
  have HS := hide hs
  have HRD : Hid (rowd b (sl s) = (looks (sl b.t) (sl s)).bind fun l => if b.n = 0 then some (conv b.t.size 256 l) else if encW b.n (decW b.n l) = l then some (decW b.n l) else none) := rfl
  have HLT : Hid (∀ l, looks (sl b.t) (sl s) = some l → (∀ x ∈ l, x < b.t.size) ∧ l.length = s.size) := fun l h => ⟨fun x hx => by have := looks_lt h x hx; rw [sl_len] at this; exact this, by rw [looks_len h, sl_len]⟩
  clear hb hs
  obtain ⟨bl, bt, bn⟩ := b
  have HT : Hid ((w.alloc (.cells #[.string bl, .string bt, .int .i64 (bn : Nat)] 63)).heap[w.heap.size]? = some (.cells (Bs.cs ⟨bl, bt, bn⟩) 63 (0, 0))) := heap_alloc_new w _
  have HB0 := hide (below_alloc4 w (.cells #[.string bl, .string bt, .int .i64 (bn : Nat)] 63))
  simp only [Bs.cs] at HRD HLT ⊢
  generalize rowd ⟨bl, bt, bn⟩ (sl s) = RD at *
  go_enter Tryd.func27, Tryd.ntmps27
  go_wp2_with fail
  generalize w.alloc (.cells #[.string bl, .string bt, .int .i64 (bn : Nat)] 63) = w0 at *
  refine (numbers_any w0 bl bt s (bn : Nat) HB.out.t2 HB.out.w HS.out).mono ?_
  rintro e w1 ⟨v1, rfl, ho1, hb1⟩
  have HB1 : Hid (Below w.heap.size w w1) := HB0.out.trans (hb1.mono HB0.out.size)
  have HT1 : Hid (w1.heap[w.heap.size]? = some (.cells (Bs.cs ⟨bl, bt, bn⟩) 63 (0, 0))) := (hb1.block _ (blk_lt HT.out)).trans HT.out
  have c1 : w1.cell? ⟨w.heap.size, 1, none⟩ = some (.string bt) := blk_cell HT1.out rfl
  have c2 : w1.cell? ⟨w.heap.size, 2, none⟩ = some (.int .i64 (bn : Nat)) := blk_cell HT1.out rfl
  cases hlo : looks (sl bt) (sl s) with
  | none =>
    as_aux_lemma =>
    rw [hlo] at ho1 HRD
    simp only [Option.isSome_none, Option.getD_none, Option.bind_none] at ho1 HRD ⊢
    obtain ⟨a2, cc2, hv2, hq1, hq2, hq3⟩ := own_form ho1
    subst hv2
    clear ho1 hb1 hq1 hq2 hq3 hlo
    go_wp2_with fail
    go_ret2
    exact ⟨_, [], by rw [HRD.out]; rfl, World.ownsRow_nil _ _ _ _, fun x hx => (by rw [HRD.out] at hx; cases hx), HB1.out⟩
  | some l =>
    rw [hlo] at ho1 HRD
    have hll := HLT.out l hlo
    simp only [Option.isSome_some, Option.getD_some, Option.bind_some] at ho1 HRD ⊢
    have HLX := hide hll.1
    have HLN := hide hll.2
    have HBS := hide (BSl.own ho1 (fun x hx => by have := hll.1 x hx; have := HB.out.t2; simp only at this; omega))
    obtain ⟨a2, cc2, hv2, hq1, hq2, hq3⟩ := own_form ho1
    subst hv2
    clear ho1 hb1 hq1 hq2 hq3 hlo hll HLT
    by_cases h0 : bn = 0
    · subst h0
      as_aux_lemma =>
      have HRE : Hid (RD = some (conv bt.size 256 l)) := by show _ = _; rw [HRD.out, if_pos rfl]
      clear HRD
      go_wp2_with fail
      have HRC : Calls Tryd.prog 41 #[.slice a2 l.length cc2, .int .i64 (bt.size : Nat), .int .i64 256] w1 _ := recast_any w1 _ l bt.size 256 HBS.out HB.out.t (Nat.le_trans HB.out.t2 (by decide)) (by decide) (by decide) HLX.out (by rw [HLN.out]; exact HS.out)
      refine HRC.mono ?_
      rintro e w2 ⟨v3, rfl, ho3, hb3⟩
      have HO := hide (own_mono4 ho3 HB1.out.size)
      have HB2 : Hid (Below w.heap.size w w2) := HB1.out.trans (hb3.mono HB1.out.size)
      obtain ⟨a3, cc3, hv3, hq1, hq2, hq3⟩ := own_form ho3
      subst hv3
      clear ho3 hb3 hq1 hq2 hq3
      go_wp2_with fail
      go_ret2
      exact ⟨_, _, by rw [HRE.out]; rfl, HO.out, fun x hx => (by rw [HRE.out] at hx; injection hx), HB2.out⟩
    · have g0 : ((bn : Int) == 0) = false := beq_eq_false_iff_ne.2 (by omega)
      have hn8 : bn ≤ 8 := HB.out.n
      have h0' : 0 < bn := by omega
      have HPW : Hid (∀ x ∈ l, x < 2 ^ bn) := fun x hx => by have h1 := HB.out.e h0; simp only at h1; rw [h1]; exact HLX.out x hx
      rw [if_neg h0] at HRD
      clear h0
      go_wp2_with fail
      have HRC : Calls Tryd.prog 42 #[.slice a2 l.length cc2, .int .i64 (bn : Nat), .int .i64 8] w1 _ := regroup_any w1 _ l bn 8 HBS.out h0' hn8 (by decide) (by decide) HPW.out (by rw [HLN.out]; exact HS.out)
      refine HRC.mono ?_
      rintro e w2 ⟨v3, out, R, rfl, hg, hR, ho3, hb3⟩
      have HED := hide (enc_dec h0' HPW.out hg hR)
      have HDW : Hid (decW bn l = out) := (hg.grp (by decide) hR).symm
      rw [HDW.out] at HRD
      have HO := hide (own_mono4 ho3 HB1.out.size)
      have HB2 : Hid (Below w.heap.size w w2) := HB1.out.trans (hb3.mono HB1.out.size)
      have c3 : w2.cell? ⟨w.heap.size, 2, none⟩ = some (.int .i64 (bn : Nat)) := keep_below hb3 _ _ c2
      obtain ⟨a3, cc3, hv3, hq1, hq2, hq3⟩ := own_form ho3
      subst hv3
      clear ho3 hb3 hq1 hq2 hq3 c1 c2 hg HDW
      by_cases hlt : R.length < bn
      · have g1 : (R.length : Int) < (bn : Int) := by omega
        by_cases hz : valB 2 R = 0
        · as_aux_lemma =>
          have HRE : Hid (RD = some out) := by show _ = _; rw [HRD.out, if_pos (HED.out.2 ⟨hlt, hz⟩)]
          rw [hz]
          clear HRD HED
          go_wp2_with fail
          go_ret2
          exact ⟨_, _, by rw [HRE.out]; rfl, HO.out, fun x hx => (by rw [HRE.out] at hx; injection hx), HB2.out⟩
        · as_aux_lemma =>
          have HRE : Hid (RD = none) := by show _ = _; rw [HRD.out, if_neg (fun e => hz (HED.out.1 e).2)]
          have g2 : ((valB 2 R : Int) == 0) = false := beq_eq_false_iff_ne.2 (by omega)
          clear HRD HED
          go_wp2_with fail
          go_ret2
          exact ⟨_, _, by rw [HRE.out]; rfl, HO.out, fun x hx => (by rw [HRE.out] at hx; cases hx), HB2.out⟩
      · as_aux_lemma =>
        have g1 : ¬ (R.length : Int) < (bn : Int) := by omega
        have HRE : Hid (RD = none) := by show _ = _; rw [HRD.out, if_neg (fun e => hlt (HED.out.1 e).1)]
        clear HRD HED
        go_wp2_with fail
        go_ret2
        exact ⟨_, _, by rw [HRE.out]; rfl, HO.out, fun x hx => (by rw [HRE.out] at hx; cases hx), HB2.out⟩
end
section
open Go.RowKit Go
set_option maxRecDepth 1000000 in
set_option maxHeartbeats 1000000 in
theorem parse4_any (w : World) (v : Value) (b : List Nat) (hb : BSl w v b) :
    Calls Tryd.prog 11 #[v] w fun e w' => e = .returned (.tuple #[lkv (lparse b).1, .int .i64 ((lparse b).2 : Nat)]) ∧ Below w.heap.size w w' := by
  have HB := hide hb
  obtain ⟨⟨a, cap, rfl, hn, hc⟩, hmax, hby⟩ := hb
  have HF0 := hide (Fz.start w)
  clear hn hc hby
  go_enter Tryd.func11, Tryd.ntmps11
  go_wp2_with fail
  generalize w.alloc (.cells #[.int .i64 0, .int .u64 0, .int .u64 0, .string ⟨#[]⟩] 33) = w0 at *
  refine (first4_any w0 _ b (HB.out.move (keep_below HF0.out.b))).mono ?_
  rintro e w1 ⟨rfl, hb1⟩
  have HF1 := hide (HF0.out.below hb1)
  have HPR : Hid (lparse b = if (lfirst b).2.2 ≠ 0 then (Lk.none, (lfirst b).2.2) else if (lfirst b).2.1 < b.length then (Lk.none, 44) else ((lfirst b).1, 0)) := rfl
  clear hb1
  generalize lfirst b = r at *
  obtain ⟨⟨lv, lc, lh, ld⟩, n, er⟩ := r
  simp only at HPR ⊢
  have HL2 : Hid ((w1.alloc (.cells #[.int .i64 lv, .int .u64 (lc : Nat), .int .u64 (lh : Nat), .string (nstr ld)] 33)).heap[w1.heap.size]? = some (.cells (lcs ⟨lv, lc, lh, ld⟩) 33 (0, 0))) := heap_alloc_new w1 _
  have HF2 : Hid (Fz w (w1.alloc (.cells #[.int .i64 lv, .int .u64 (lc : Nat), .int .u64 (lh : Nat), .string (nstr ld)] 33))) := HF1.out.below (below_alloc4 w1 _)
  have HR2 := hide HF2.out.r
  clear HF1 HF0
  simp only [lkv]
  by_cases he : er = 0
  · subst he
    by_cases hlt : n < b.length
    · as_aux_lemma =>
      have g1 : (n : Int) < (b.length : Int) := by omega
      have HP2 : Hid (lparse b = (Lk.none, 44)) := by show _ = _; rw [HPR.out]; simp [hlt]
      clear HPR hlt
      go_wp2_with (refine wpList_zero rfl rfl w.heap.size rfl rfl HR2.out ?_)
      exact bodyPost_ret (end_c2 rfl Tryd.underlying33 info61 rfl HR2.out rfl rfl) rfl ⟨by rw [HP2.out]; rfl, HF2.out.b⟩
    · as_aux_lemma =>
      have g1 : ¬ (n : Int) < (b.length : Int) := by omega
      have HP2 : Hid (lparse b = (⟨lv, lc, lh, ld⟩, 0)) := by show _ = _; rw [HPR.out]; simp [hlt]
      clear HPR hlt
      go_wp2_with (first
        | (refine wpList_loadLk rfl rfl w1.heap.size _ rfl rfl HL2.out ?_)
        | (refine wpList_storeLk rfl rfl w.heap.size zlk ⟨lv, lc, lh, ld⟩ rfl rfl rfl HR2.out ?_))
      exact bodyPost_ret (end_c2 rfl Tryd.underlying33 info61 rfl (row_same HR2.out) rfl rfl) rfl ⟨by rw [HP2.out]; rfl, HF2.out.b.trans ((row_kp _ _ _).below HF2.out.b.size (fun q e => by omega))⟩
  · as_aux_lemma =>
    have g1 : ((er : Int) == 0) = false := beq_eq_false_iff_ne.2 (by omega)
    have HP2 : Hid (lparse b = (Lk.none, er)) := by show _ = _; rw [HPR.out]; simp [he]
    clear HPR he
    go_wp2_with (refine wpList_zero rfl rfl w.heap.size rfl rfl HR2.out ?_)
    exact bodyPost_ret (end_c2 rfl Tryd.underlying33 info61 rfl HR2.out rfl rfl) rfl ⟨by rw [HP2.out]; rfl, HF2.out.b⟩
end
section
open Go.RowKit Go
theorem enc_map {t : List Nat} {s l x : List Nat} (ht : ∀ i, i < t.length → look t (t.getD i 0) = some i) (hl : looks t s = some l) (hx : ∀ i ∈ x, i < t.length) : x.map (t.getD · 0) = s ↔ x = l := by
  constructor
  · intro e
    have h := looks_map ht hx
    rw [e, hl] at h
    injection h with h
    exact h.symm
  · intro e
    rw [e]
    exact (looks_back hl).1
theorem rowd16 (s : List Nat) : rowd b16 s = in16 s := by
  unfold rowd in16
  show ((looks (sl s16) s).bind fun l => if (4 : Nat) = 0 then _ else if encW 4 (decW 4 l) = l then some (decW 4 l) else none) = _
  rw [sl16]
  cases h : looks d16 s with
  | none => rfl
  | some l =>
    simp only [Option.bind_some]
    rw [if_neg (by decide)]
    have e := enc_map (t := d16) look16 h (encW_lt (w := 4) (by decide) (decW 4 l))
    unfold of16
    by_cases h1 : encW 4 (decW 4 l) = l
    · rw [if_pos h1, if_pos (e.2 h1)]
    · rw [if_neg h1, if_neg (fun h => h1 (e.1 h))]
theorem rowd32 (s : List Nat) : rowd b32 s = in32 s := by
  unfold rowd in32
  show ((looks (sl s32) s).bind fun l => if (5 : Nat) = 0 then _ else if encW 5 (decW 5 l) = l then some (decW 5 l) else none) = _
  rw [sl32]
  cases h : looks d32 s with
  | none => rfl
  | some l =>
    simp only [Option.bind_some]
    rw [if_neg (by decide)]
    have e := enc_map (t := d32) look32 h (encW_lt (w := 5) (by decide) (decW 5 l))
    unfold of32
    by_cases h1 : encW 5 (decW 5 l) = l
    · rw [if_pos h1, if_pos (e.2 h1)]
    · rw [if_neg h1, if_neg (fun h => h1 (e.1 h))]
theorem rowd58 (s : List Nat) : rowd b58 s = in58 s := by
  unfold rowd in58
  show ((looks (sl s58) s).bind fun l => some (conv 58 256 l)) = _
  rw [sl58]
  cases looks d58 s <;> rfl
/-- What ParseText tells, by the landed code's steps. -/
def ptx (s : List Nat) : Lk × Nat :=
  if 153 < s.length then (Lk.none, 46) else if (spl s).2.2 = false then (Lk.none, 45)
  else match rowd (spl s).1 (spl s).2.1 with
    | none => (Lk.none, 46)
    | some b => if (lparse b).2 ≠ 0 then (Lk.none, (lparse b).2) else if decide ((lparse b).1.v = 0) ≠ decide (s.head? = some 81) then (Lk.none, 41) else ((lparse b).1, 0)
theorem ptx_eq {s : List Nat} (hs : ∀ x ∈ s, x < 256) : ptx s = lparsetext s := by
  unfold ptx lparsetext
  by_cases h1 : 153 < s.length
  · rw [if_pos h1, if_pos h1]
  · rw [if_neg h1, if_neg h1]
    have key : ∀ (b : List Nat) (v : Int) (q : Bool), (∀ x ∈ b, x < 256) → (v = if q then 0 else 1) → (if (lparse b).2 ≠ 0 then (Lk.none, (lparse b).2) else if decide ((lparse b).1.v = 0) ≠ q then (Lk.none, 41) else ((lparse b).1, 0)) = (if (lparse b).2 ≠ 0 then (Lk.none, (lparse b).2) else if (lparse b).1.v ≠ v then (Lk.none, 41) else ((lparse b).1, 0)) := by
      intro b v q hb hv
      by_cases h2 : (lparse b).2 = 0
      · have hok := (lparse_back (l := (lparse b).1) hb (by rw [← h2])).1
        have hv01 : (lparse b).1.v = 0 ∨ (lparse b).1.v = 1 := by
          rcases hok with h | h
          · exact .inl h.1
          · exact .inr h.1
        subst hv
        simp only [h2, ne_eq, not_true_eq_false, if_false]
        generalize (lparse b).1 = l at *
        cases q
        · rcases hv01 with h | h
          · simp [h]
          · simp [h]
        · rcases hv01 with h | h
          · simp [h]
          · simp [h]
      · rw [if_pos h2, if_pos h2]
    cases s with
    | nil => rfl
    | cons x r =>
      have hr : ∀ y ∈ r, y < 256 := fun y hy => hs y (List.mem_cons_of_mem _ hy)
      have main : ∀ (bb : Bs) (t : List Nat) (v : Int) (q : Bool), spl (x :: r) = (bb, t, true) → decide ((x :: r).head? = some 81) = q → (v = if q then 0 else 1) → ltake (x :: r) = (rowd bb t).map (fun b => (v, b)) → ¬ ((x :: r).head? ≠ some 81 ∧ (x :: r).head? ≠ some 102 ∧ (x :: r).head? ≠ some 98 ∧ (x :: r).head? ≠ some 122) →
          (if (spl (x :: r)).2.2 = false then (Lk.none, 45) else match rowd (spl (x :: r)).1 (spl (x :: r)).2.1 with
            | none => (Lk.none, 46)
            | some b => if (lparse b).2 ≠ 0 then (Lk.none, (lparse b).2) else if decide ((lparse b).1.v = 0) ≠ decide ((x :: r).head? = some 81) then (Lk.none, 41) else ((lparse b).1, 0)) =
          (if (x :: r).head? ≠ some 81 ∧ (x :: r).head? ≠ some 102 ∧ (x :: r).head? ≠ some 98 ∧ (x :: r).head? ≠ some 122 then (Lk.none, 45) else match ltake (x :: r) with
            | none => (Lk.none, 46)
            | some (v, b) => if (lparse b).2 ≠ 0 then (Lk.none, (lparse b).2) else if (lparse b).1.v ≠ v then (Lk.none, 41) else ((lparse b).1, 0)) := by
        intro bb t v q e1 e2 e3 e4 e5
        rw [if_neg e5, e1, e2, e4]
        rw [if_neg (by simp)]
        simp only
        cases hrow : rowd bb t with
        | none => rfl
        | some b => exact key b v q (rowd_byte hrow) e3
      by_cases h81 : x = 81
      · subst h81
        exact main b58 (81 :: r) 0 true rfl rfl rfl (by rw [rowd58]; rfl) (by simp)
      · by_cases h102 : x = 102
        · subst h102
          exact main b16 r 1 false rfl rfl rfl (by rw [rowd16]; rfl) (by simp)
        · by_cases h98 : x = 98
          · subst h98
            exact main b32 r 1 false rfl rfl rfl (by rw [rowd32]; rfl) (by simp)
          · by_cases h122 : x = 122
            · subst h122
              exact main b58 r 1 false rfl rfl rfl (by rw [rowd58]; rfl) (by simp)
            · have e : spl (x :: r) = (b0, r, false) := by
                simp only [spl]
                rw [if_neg h81, if_neg h102, if_neg h98, if_neg h122]
              rw [e, if_pos rfl, if_pos (by simp [h81, h102, h98, h122])]
theorem spl_ok {s : List Nat} (h : (spl s).2.2 = true) : Bok (spl s).1 := by
  cases s with
  | nil => simp [spl] at h
  | cons x r =>
    simp only [spl] at h ⊢
    split
    · exact bok58
    · split
      · exact bok16
      · split
        · exact bok32
        · split
          · exact bok58
          · rename_i h1 h2 h3 h4
            rw [if_neg h1, if_neg h2, if_neg h3, if_neg h4] at h
            cases h
theorem spl_cons {s : List Nat} (h : (spl s).2.2 = true) : ∃ x r, s = x :: r := by
  cases s with
  | nil => simp [spl] at h
  | cons x r => exact ⟨x, r, rfl⟩
theorem spl_len (s : List Nat) : (spl s).2.1.length ≤ s.length := by
  cases s with
  | nil => simp [spl]
  | cons x r =>
    simp only [spl]
    repeat' split
    all_goals simp
theorem spl_byte {s : List Nat} (h : ∀ x ∈ s, x < 256) : ∀ x ∈ (spl s).2.1, x < 256 := by
  cases s with
  | nil => simp [spl]
  | cons x r =>
    have hr : ∀ y ∈ r, y < 256 := fun y hy => h y (List.mem_cons_of_mem _ hy)
    simp only [spl]
    repeat' split
    all_goals first | exact h | exact hr
end
end Go.Proofs.YtidglddjinfncabDoor

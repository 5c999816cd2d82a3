import Derived.Test.YtidglddjinfncabDoorJm
import Derived.Lib.BytesEntry
import Derived.Laws.Externs
import Derived.Deep.RegionHeld
namespace Go.Proofs.YtidglddjinfncabDoor
section
open Go.RowKit Go
set_option maxRecDepth 1000000 in
set_option maxHeartbeats 2000000 in
theorem parsetext_any (w : World) (s : ByteArray) (hs : s.size ≤ 9223372036854775807) :
    Calls Tryd.prog 13 #[.string s] w fun e w' => e = .returned (.tuple #[lkv (lparsetext (sl s)).1, .int .i64 ((lparsetext (sl s)).2 : Nat)]) ∧ Below w.heap.size w w' := by
  have HF0 := hide (Fz.start w)
  rw [← ptx_eq (sl_byte s)]
  have HPX : Hid (ptx (sl s) = if 153 < (sl s).length then (Lk.none, 46) else if (spl (sl s)).2.2 = false then (Lk.none, 45)
    else match rowd (spl (sl s)).1 (spl (sl s)).2.1 with
      | none => (Lk.none, 46)
      | some b => if (lparse b).2 ≠ 0 then (Lk.none, (lparse b).2) else if decide ((lparse b).1.v = 0) ≠ decide ((sl s).head? = some 81) then (Lk.none, 41) else ((lparse b).1, 0)) := rfl
  rw [sl_len] at HPX
  have HR0 := hide HF0.out.r
  generalize ptx (sl s) = R at *
  by_cases h153 : 153 < s.size
  · as_aux_lemma =>
    have g1 : (153 : Int) < (s.size : Int) := by omega
    rw [if_pos h153] at HPX
    clear h153
    go_enter Tryd.func13, Tryd.ntmps13
    go_wp2_with (refine wpList_zero rfl rfl w.heap.size rfl rfl HR0.out ?_)
    exact bodyPost_ret (end_c2 rfl Tryd.underlying33 info61 rfl HR0.out rfl rfl) rfl ⟨by rw [HPX.out]; rfl, HF0.out.b⟩
  · have g1 : ¬ (153 : Int) < (s.size : Int) := by omega
    rw [if_neg h153] at HPX
    have HSP := hide (split_any (w.alloc (.cells #[.int .i64 0, .int .u64 0, .int .u64 0, .string ⟨#[]⟩] 33)) s (by omega))
    have HSO := hide (spl_ok (s := sl s))
    have HSC := hide (spl_cons (s := sl s))
    have HSL := hide (spl_len (sl s))
    have HSB := hide (spl_byte (sl_byte s))
    rw [sl_len] at HSL
    have hS153 : s.size ≤ 153 := by omega
    clear h153
    go_enter Tryd.func13, Tryd.ntmps13
    go_wp2_with fail
    generalize w.alloc (.cells #[.int .i64 0, .int .u64 0, .int .u64 0, .string ⟨#[]⟩] 33) = w0 at *
    refine HSP.out.mono ?_
    rintro e w1 ⟨rfl, hb1⟩
    have HF1 := hide (HF0.out.below hb1)
    clear HSP HF0 HR0 hb1
    generalize hsp : spl (sl s) = sp at *
    clear hsp
    obtain ⟨⟨bl, bt, bn⟩, dd, ok⟩ := sp
    simp only [Bs.cs] at HPX HSO HSL HSB HSC ⊢
    have hb2 := below_alloc4 w1 (.cells #[.string bl, .string bt, .int .i64 (bn : Nat)] 63)
    have HF2 := hide (HF1.out.below hb2)
    have HTB : Hid ((w1.alloc (.cells #[.string bl, .string bt, .int .i64 (bn : Nat)] 63)).heap[w1.heap.size]? = some (.cells (Bs.cs ⟨bl, bt, bn⟩) 63 (0, 0))) := heap_alloc_new w1 _
    have HR2 := hide HF2.out.r
    clear hb2 HF1
    cases ok with
    | false =>
      as_aux_lemma =>
      rw [if_pos rfl] at HPX
      go_wp2_with (refine wpList_zero rfl rfl w.heap.size rfl rfl HR2.out ?_)
      exact bodyPost_ret (end_c2 rfl Tryd.underlying33 info61 rfl HR2.out rfl rfl) rfl ⟨by rw [HPX.out]; rfl, HF2.out.b⟩
    | true =>
      rw [if_neg (by decide)] at HPX
      have HBO := hide (HSO.out rfl)
      clear HSO
      have q0 : (w1.alloc (.cells #[.string bl, .string bt, .int .i64 (bn : Nat)] 63)).cell? ⟨w1.heap.size, 0, none⟩ = some (.string bl) := blk_cell HTB.out rfl
      have q1 : (w1.alloc (.cells #[.string bl, .string bt, .int .i64 (bn : Nat)] 63)).cell? ⟨w1.heap.size, 1, none⟩ = some (.string bt) := blk_cell HTB.out rfl
      have q2 : (w1.alloc (.cells #[.string bl, .string bt, .int .i64 (bn : Nat)] 63)).cell? ⟨w1.heap.size, 2, none⟩ = some (.int .i64 (bn : Nat)) := blk_cell HTB.out rfl
      have HRW := hide (row_any (w1.alloc (.cells #[.string bl, .string bt, .int .i64 (bn : Nat)] 63)) ⟨bl, bt, bn⟩ (nstr dd) HBO.out (by rw [nstr_size HSB.out]; have := HSL.out; omega))
      rw [sl_nstr HSB.out] at HRW
      go_wp2_with fail
      clear q0 q1 q2
      generalize w1.alloc (.cells #[.string bl, .string bt, .int .i64 (bn : Nat)] 63) = w2 at *
      refine HRW.out.mono ?_
      rintro e w3 ⟨v3, o, rfl, ho3, hox, hb3⟩
      have HF3 := hide (HF2.out.below hb3)
      have HR3 := hide HF3.out.r
      have HRB := hide (fun o => rowd_byte (b := ⟨bl, bt, bn⟩) (s := dd) (o := o))
      clear hb3 HF2 HR2 HTB HRW
      cases hrow : rowd ⟨bl, bt, bn⟩ dd with
      | none =>
        as_aux_lemma =>
        rw [hrow] at HPX
        simp only at HPX
        obtain ⟨a3, c3, hv3, hq1, hq2, hq3⟩ := own_form ho3
        subst hv3
        clear ho3 hox hq1 hq2 hq3 hrow
        simp only [Option.isSome_none]
        go_wp2_with (refine wpList_zero rfl rfl w.heap.size rfl rfl HR3.out ?_)
        exact bodyPost_ret (end_c2 rfl Tryd.underlying33 info61 rfl HR3.out rfl rfl) rfl ⟨by rw [HPX.out]; rfl, HF3.out.b⟩
      | some x =>
        have hoe := hox x hrow
        subst hoe
        rw [hrow] at HPX
        simp only at HPX
        have HV3 := hide (BSl.own ho3 (HRB.out o hrow))
        obtain ⟨a3, c3, hv3, hq1, hq2, hq3⟩ := own_form ho3
        subst hv3
        clear ho3 hox hq1 hq2 hq3 hrow HRB
        simp only [Option.isSome_some]
        go_wp2_with fail
        refine (parse4_any w3 _ o HV3.out).mono ?_
        rintro e w4 ⟨rfl, hb4⟩
        have HF4 := hide (HF3.out.below hb4)
        clear hb4 HF3 HR3 HV3
        generalize lparse o = lp at *
        obtain ⟨⟨lv, lc, lh, ld⟩, er⟩ := lp
        simp only [lkv] at HPX ⊢
        have HF5 := hide (HF4.out.below (below_alloc4 w4 (.cells #[.int .i64 lv, .int .u64 (lc : Nat), .int .u64 (lh : Nat), .string (nstr ld)] 33)))
        have HL5 : Hid ((w4.alloc (.cells #[.int .i64 lv, .int .u64 (lc : Nat), .int .u64 (lh : Nat), .string (nstr ld)] 33)).heap[w4.heap.size]? = some (.cells (lcs ⟨lv, lc, lh, ld⟩) 33 (0, 0))) := heap_alloc_new w4 _
        have HR5 := hide HF5.out.r
        clear HF4
        by_cases her : er = 0
        · subst her
          rw [if_neg (by simp)] at HPX
          obtain ⟨x, r, hxr⟩ := HSC.out (by simp)
          have hp : (1 : Int) ≤ (s.size : Int) := by have := sl_len s; rw [hxr, List.length_cons] at this; omega
          have k81 := ext_head s hxr 81
          have HHD : Hid (decide ((sl s).head? = some 81) = decide (x = (81 : UInt8).toNat)) := by show _ = _; rw [hxr]; simp
          rw [HHD.out] at HPX
          generalize decide (x = (81 : UInt8).toNat) = qq at *
          have c0 : (w4.alloc (.cells #[.int .i64 lv, .int .u64 (lc : Nat), .int .u64 (lh : Nat), .string (nstr ld)] 33)).cell? ⟨w4.heap.size, 0, none⟩ = some (.int .i64 lv) := blk_cell HL5.out rfl
          have HVB : Hid ((lv == 0) = decide (lv = 0)) := by show _ = _; rw [Bool.eq_iff_iff]; simp
          clear HHD hxr HSC
          by_cases hm : decide (lv = 0) = qq
          · as_aux_lemma =>
            rw [if_neg (fun h => h hm)] at HPX
            have kv : (lv == 0) = qq := by rw [HVB.out, hm]
            clear hm HVB
            go_wp2_with fail
            go_quiet (fail)
            have HRQ := hide ((below_drewN (w4.alloc (.cells #[.int .i64 lv, .int .u64 (lc : Nat), .int .u64 (lh : Nat), .string (nstr ld)] 33)) nq))
            have HF6 := hide (HF5.out.below HRQ.out)
            have HL6 := hide ((HRQ.out.block _ (blk_lt HL5.out)).trans HL5.out)
            have HR6 := hide HF6.out.r
            go_wp2_with (first
              | (refine wpList_loadLk rfl rfl w4.heap.size (lcs ⟨lv, lc, lh, ld⟩) rfl rfl HL6.out ?_)
              | (refine wpList_storeLk rfl rfl w.heap.size zlk ⟨lv, lc, lh, ld⟩ rfl rfl rfl HR6.out ?_))
            exact bodyPost_ret (end_c2 rfl Tryd.underlying33 info61 rfl (row_same HR6.out) rfl rfl) rfl ⟨by rw [HPX.out]; rfl, HF6.out.b.trans ((row_kp _ _ _).below HF6.out.b.size (fun q e => by omega))⟩
          · as_aux_lemma =>
            rw [if_pos hm] at HPX
            have kv : (lv == 0) = !qq := by rw [HVB.out]; cases qq <;> simpa using hm
            clear hm HVB
            go_wp2_with fail
            go_quiet (fail)
            have HRQ := hide ((below_drewN (w4.alloc (.cells #[.int .i64 lv, .int .u64 (lc : Nat), .int .u64 (lh : Nat), .string (nstr ld)] 33)) nq))
            have HF6 := hide (HF5.out.below HRQ.out)
            have HR6 := hide HF6.out.r
            go_wp2_with (refine wpList_zero rfl rfl w.heap.size rfl rfl HR6.out ?_)
            exact bodyPost_ret (end_c2 rfl Tryd.underlying33 info61 rfl HR6.out rfl rfl) rfl ⟨by rw [HPX.out]; rfl, HF6.out.b⟩
        · as_aux_lemma =>
          rw [if_pos her] at HPX
          have g2 : ((er : Int) == 0) = false := beq_eq_false_iff_ne.2 (by omega)
          clear her
          go_wp2_with (refine wpList_zero rfl rfl w.heap.size rfl rfl HR5.out ?_)
          exact bodyPost_ret (end_c2 rfl Tryd.underlying33 info61 rfl HR5.out rfl rfl) rfl ⟨by rw [HPX.out]; rfl, HF5.out.b⟩
end
section
open Go.RowKit Go
set_option maxRecDepth 1000000 in
set_option maxHeartbeats 1000000 in
theorem text4_any (w : World) (l : Lk) (hl : Lkb l) :
    Calls Tryd.prog 12 #[lkv l] w fun e w' => e = .returned (.tuple #[.string (nstr (lttx l).1), .int .i64 (lttx l).2]) ∧ Below w.heap.size w w' := by
  have HL := hide hl
  have HT : Hid ((w.alloc (.cells #[.int .i64 l.v, .int .u64 (l.c : Nat), .int .u64 (l.h : Nat), .string (nstr l.d)] 33)).heap[w.heap.size]? = some (.cells (lcs l) 33 (0, 0))) := heap_alloc_new w _
  have HB := hide (below_alloc4 w (.cells #[.int .i64 l.v, .int .u64 (l.c : Nat), .int .u64 (l.h : Nat), .string (nstr l.d)] 33))
  simp only [lkv]
  generalize hR : lttx l = R
  have HR := hide hR
  clear hR hl
  by_cases hv : l.v = 0
  · have HR2 : Hid (R = if lok l then (btext b58 (lrow l), 0) else ([], 40)) := by
      show _ = _
      rw [← HR.out]
      unfold lttx
      by_cases hk : lok l
      · rw [if_pos hk, if_pos hk]
        unfold ltext lrow
        rw [if_pos hv, if_pos hk, btext58]
      · rw [if_neg hk, if_neg hk]
    clear HR
    obtain ⟨lv, lc, lh, ld⟩ := l
    simp only at hv
    subst hv
    simp only at HT HB ⊢
    go_enter Tryd.func12, Tryd.ntmps12
    go_wp2_with fail
    generalize w.alloc (.cells #[.int .i64 0, .int .u64 (lc : Nat), .int .u64 (lh : Nat), .string (nstr ld)] 33) = w0 at *
    refine (bytes4_any w0 ⟨0, lc, lh, ld⟩ HL.out).mono ?_
    rintro e w1 ⟨v1, rfl, ho1, hb1⟩
    have HB1 : Hid (Below w.heap.size w w1) := HB.out.trans (hb1.mono HB.out.size)
    have HV1 := hide (BSl.own ho1 (lrow_byte HL.out.d))
    have HRL := hide (lrow_len ⟨0, lc, lh, ld⟩)
    obtain ⟨a1, c1, hv1, hq1, hq2, hq3⟩ := own_form ho1
    subst hv1
    clear ho1 hb1 hq1 hq2 hq3 HT HB
    by_cases hlk : lok ⟨0, lc, lh, ld⟩
    · as_aux_lemma =>
      rw [if_pos hlk] at HR2 ⊢
      clear hlk
      go_wp2_with fail
      have HBO : Calls Tryd.prog 24 #[.int .i64 3] w1 fun e w' => e = .returned (.tuple #[.agg b58.cs, .bool true]) ∧ Below w1.heap.size w1 w' := baseOf_any w1 3
      refine HBO.mono ?_
      rintro e w2 ⟨rfl, hb2⟩
      have hb3 := below_alloc4 w2 (.cells b58.cs 63)
      have hb4 := hb2.trans (hb3.mono hb2.size)
      have HB3 : Hid (Below w.heap.size w (w2.alloc (.cells b58.cs 63))) := HB1.out.trans (hb4.mono HB1.out.size)
      have HTB : Hid ((w2.alloc (.cells b58.cs 63)).heap[w2.heap.size]? = some (.cells b58.cs 63 (0, 0))) := heap_alloc_new w2 _
      have HV3 := hide (HV1.out.move (keep_below hb4))
      clear hb2 hb3 hb4
      have HBT := hide (text_any (w2.alloc (.cells b58.cs 63)) b58 _ (lrow ⟨0, lc, lh, ld⟩) bok58 HV3.out (Nat.le_trans HRL.out (by decide)))
      have HCS : Hid (b58.cs = #[.string b58.l, .string b58.t, .int .i64 (b58.n : Nat)]) := rfl
      generalize btext b58 (lrow ⟨0, lc, lh, ld⟩) = bx at *
      rw [HCS.out] at HB3 HTB HBT ⊢
      generalize b58.l = L5 at *
      generalize b58.t = T5 at *
      generalize (b58.n : Int) = N5 at *
      go_wp2_with fail
      refine HBT.out.mono ?_
      rintro e w4 ⟨rfl, hb4⟩
      have HB4 : Hid (Below w.heap.size w w4) := HB3.out.trans (hb4.mono HB3.out.size)
      clear hb4
      go_wp2_with fail
      go_ret2
      exact ⟨by rw [HR2.out]; rfl, HB4.out⟩
    · as_aux_lemma =>
      rw [if_neg hlk] at HR2 ⊢
      clear hlk
      go_wp2_with fail
      go_ret2
      exact ⟨by rw [HR2.out]; rfl, HB1.out⟩
  · have HR2 : Hid (R = ltin l 2) := by
      show _ = _
      rw [← HR.out]
      by_cases hk : lok l
      · have := ltin_text hk hv (n := 2) (by omega)
        have e : ((2 : Nat) : Int) = 2 := rfl
        rw [e] at this
        rw [this]
        unfold lttx ltext
        rw [if_pos hk, if_neg hv]
      · unfold lttx ltin
        rw [if_neg hk, if_neg hk]
    clear HR
    have g0 : (l.v != 0) = true := bne_iff_ne.2 hv
    clear hv
    go_enter Tryd.func12, Tryd.ntmps12
    go_wp2_with fail
    generalize w.alloc (.cells #[.int .i64 l.v, .int .u64 (l.c : Nat), .int .u64 (l.h : Nat), .string (nstr l.d)] 33) = w0 at *
    refine (textin_any w0 l 2 HL.out).mono ?_
    rintro e w1 ⟨rfl, hb1⟩
    have HB1 : Hid (Below w.heap.size w w1) := HB.out.trans (hb1.mono HB.out.size)
    rw [← HR2.out]
    clear hb1
    go_wp2_with fail
    go_ret2
    exact ⟨rfl, HB1.out⟩
end
section
open Go.RowKit Go
theorem lof_lkb {c : Nat} (b : List Nat) (hc : c < 18446744073709551616) : Lkb (lof c b).1 := by
  unfold lof
  split
  · exact ⟨hc, by simp, sha_byte b, by simp only [sha_len]; decide⟩
  · exact ⟨by simp [Lk.none], by simp [Lk.none], by simp [Lk.none], by simp [Lk.none]⟩
set_option maxRecDepth 1000000 in
set_option maxHeartbeats 1000000 in
theorem of_any (w : World) (c : Nat) (vb : Value) (b : List Nat) (hcb : Cb w) (hb : BSl w vb b) (hbl : b.length ≤ 140737488351232) :
    Calls Tryd.prog 5 #[.int .u64 (c : Nat), vb] w fun e w' => e = .returned (.tuple #[lkv (lof c b).1, .int .i64 ((lof c b).2 : Nat)]) ∧ Below w.heap.size w w' := by
  have HB := hide hb
  have HBL := hide hbl
  have HCB := hide hcb
  obtain ⟨⟨a, cap, rfl, hn, hc⟩, hmax, hby⟩ := hb
  clear hn hc hby hbl hcb
  have HR0 : Hid ((w.alloc (.cells #[.int .i64 0, .int .u64 0, .int .u64 0, .string ⟨#[]⟩] 33)).heap[w.heap.size]? = some (.cells zlk 33 (0, 0))) := heap_alloc_new w _
  have HB0 := hide (below_alloc4 w (.cells #[.int .i64 0, .int .u64 0, .int .u64 0, .string ⟨#[]⟩] 33))
  generalize hn : (c : Int) = n at *
  have HN := hide hn
  clear hn
  by_cases hc63 : n < 9223372036854775808
  · have HP : Hid (lof c b = (⟨1, c, 18, sha b⟩, 0)) := by show _ = _; unfold lof; rw [if_pos (by have := HN.out; omega)]
    rw [HP.out]
    have hc64 : ¬ (9223372036854775808 : Int) ≤ n := by omega
    clear HP
    go_enter Tryd.func5, Tryd.ntmps5
    go_wp2_with fail
    generalize w.alloc (.cells #[.int .i64 0, .int .u64 0, .int .u64 0, .string ⟨#[]⟩] 33) = w0 at *
    refine (sum_any w0 _ b (HCB.out.below HB0.out) (HB.out.move (keep_below HB0.out)) HBL.out).mono ?_
    rintro e w1 ⟨rfl, hb1⟩
    have HI := hide (info32d b)
    have HON := hide (one32 b)
    have HSL := hide (sha_len b)
    have HSB := hide (sha_byte b)
    have hb2 := hb1.trans ((below_alloc4 w1 (.cells (bv (sha b)).toArray 38)).mono hb1.size)
    have HR2 : Hid ((w1.alloc (.cells (bv (sha b)).toArray 38)).heap[w.heap.size]? = some (.cells zlk 33 (0, 0))) := (hb2.block _ (blk_lt HR0.out)).trans HR0.out
    have HB2 : Hid (Below w.heap.size w (w1.alloc (.cells (bv (sha b)).toArray 38))) := HB0.out.trans (hb2.mono HB0.out.size)
    have HBD := hide (bsl_block (heap_alloc_new w1 (.cells (bv (sha b)).toArray 38)) HSB.out (by rw [HSL.out]; decide))
    rw [HSL.out] at HBD
    clear hb1 hb2 HR0 HB0
    generalize hD : sha b = D at HI HON HSL HSB HR2 HB2 HBD ⊢
    have HDE := hide hD
    clear hD
    have cv := HBD.out.text
    have HAG : Hid (lcs ⟨1, c, 18, D⟩ = #[.int .i64 1, .int .u64 n, .int .u64 18, .string (nstr D)]) := by show _ = _; rw [← HN.out]; rfl
    go_wp2_with (first
      | (refine wpList_storeRow rfl rfl w1.heap.size _ (bv D).toArray 38 rfl rfl (heap_alloc_new w1 _) HI.out (by simp [bv_len, HSL.out]) HON.out ?_; rw [World.setRow_alloc_new])
      | (refine wpList_storeLk rfl rfl w.heap.size zlk ⟨1, c, 18, D⟩ rfl (by rw [HAG.out]; rfl) rfl HR2.out ?_))
    exact bodyPost_ret (end_c2 rfl Tryd.underlying33 info61 rfl (row_same HR2.out) rfl rfl) rfl ⟨by rw [HDE.out]; rfl, HB2.out.trans ((row_kp _ _ _).below HB2.out.size (fun q e => by omega))⟩
  · have HP : Hid (lof c b = (Lk.none, 40)) := by show _ = _; unfold lof; rw [if_neg (by have := HN.out; omega)]
    rw [HP.out]
    have hc64 : (9223372036854775808 : Int) ≤ n := by omega
    clear HP hc63
    go_enter Tryd.func5, Tryd.ntmps5
    go_wp2_with (refine wpList_zero rfl rfl w.heap.size rfl rfl HR0.out ?_)
    exact bodyPost_ret (end_c2 rfl Tryd.underlying33 info61 rfl HR0.out rfl rfl) rfl ⟨rfl, HB0.out⟩
end
section
open Go.RowKit Go
set_option maxRecDepth 1000000 in
theorem num4_any (w : World) (n : Int) : Calls Tryd.prog 8 #[.int .i64 n] w fun e w' => e = .returned (.int .i64 n) ∧ w' = w := by
  go_enter Tryd.func8, Tryd.ntmps8
  go_wp2_with fail
  go_ret
  exact ⟨rfl, rfl⟩
/-- The link that begun makes. -/
def L0 : Lk := ⟨1, 85, 18, sha []⟩
theorem L0_lok : lok L0 := .inr ⟨rfl, by decide, .inl ⟨rfl, sha_len []⟩⟩
theorem L0_lkb : Lkb L0 := ⟨by decide, by decide, sha_byte [], by show (sha []).length ≤ _; rw [sha_len]; decide⟩
theorem L0_of : lof 85 [] = (L0, 0) := rfl
theorem L0_row : lrow L0 = lbytes L0 := by unfold lrow; rw [if_pos L0_lok]
theorem L0_blen : (lbytes L0).length = 36 := by
  have e : lbytes L0 = 1 :: digs 9 85 ++ (18 :: (sha []).length :: sha []) := rfl
  rw [e]
  have e2 : digs 9 85 = [85] := by decide
  rw [e2]
  simp [sha_len]
theorem L0_text : lttx L0 = (ltext L0, 0) := by unfold lttx; rw [if_pos L0_lok]
theorem L0_tx : ltext L0 = 98 :: of32 (lbytes L0) := rfl
theorem L0_tlen : (ltext L0).length = 59 := by
  rw [L0_tx, List.length_cons]
  unfold of32 encW
  rw [List.length_map, grp_len (by decide) _ _ (Nat.le_refl _), List.length_append, flat_len, List.length_replicate, L0_blen]
theorem L0_tbyte : ∀ x ∈ ltext L0, x < 256 := by
  have h := btext_byte b32 (lbytes L0)
  rw [btext32] at h
  intro x hx
  rw [L0_tx] at hx
  rcases List.mem_cons.1 hx with e | e
  · omega
  · exact h x e
theorem L0_parse : lparse (lbytes L0) = (L0, 0) := lparse_bytes L0_lok
theorem L0_ptext : lparsetext (ltext L0) = (L0, 0) := lparsetext_text L0_lok L0_lkb.d
theorem lk0_no : ¬ lok Lk.none := by
  rintro (h | h)
  · exact absurd h.2.1 (by decide)
  · exact absurd h.1 (by decide)
theorem lk0_lkb : Lkb Lk.none := ⟨by decide, by decide, by simp [Lk.none], by simp [Lk.none]⟩
theorem nstr_at {xs : List Nat} (h : ∀ x ∈ xs, x < 256) (k : Nat) (hk : k < (nstr xs).size) : (nstr xs)[k].toNat = xs.getD k 0 := by
  rw [← sl_at (nstr xs) k hk, sl_nstr h]
set_option maxRecDepth 1000000 in
set_option maxHeartbeats 2000000 in
theorem begun4_any (w : World) (hcb : Cb w) : Calls Tryd.prog 4 #[] w fun e w' => e = .returned (.bool true) ∧ Below w.heap.size w w' := by
  have HCB := hide hcb
  clear hcb
  go_enter Tryd.func4, Tryd.ntmps4
  go_wp2_with fail
  have hnil : BSl w (.slice none 0 0) [] := ⟨⟨none, 0, rfl, ⟨Nat.le_refl _, fun _ => rfl⟩, .inl rfl⟩, by simp, by simp⟩
  have HOF : Calls Tryd.prog 5 #[.int .u64 85, .slice none 0 0] w fun e w' => e = .returned (.tuple #[.agg (lcs L0), .int .i64 0]) ∧ Below w.heap.size w w' := of_any w 85 _ [] HCB.out hnil (by simp)
  refine HOF.mono ?_
  rintro e w1 ⟨rfl, hb1⟩
  clear HOF hnil
  have HCS : Hid (lcs L0 = #[.int .i64 1, .int .u64 85, .int .u64 18, .string (nstr L0.d)]) := rfl
  have hb2 := hb1.trans ((below_alloc4 w1 (.cells #[.int .i64 1, .int .u64 85, .int .u64 18, .string (nstr L0.d)] 33)).mono hb1.size)
  have HB2 := hide hb2
  have HT2 : Hid ((w1.alloc (.cells #[.int .i64 1, .int .u64 85, .int .u64 18, .string (nstr L0.d)] 33)).heap[w1.heap.size]? = some (.cells (lcs L0) 33 (0, 0))) := heap_alloc_new w1 _
  have HBY := hide (bytes4_any (w1.alloc (.cells #[.int .i64 1, .int .u64 85, .int .u64 18, .string (nstr L0.d)] 33)) L0 L0_lkb)
  rw [HCS.out]
  clear hb1 hb2
  generalize nstr L0.d = S0 at *
  go_wp2_with fail
  generalize w1.alloc (.cells #[.int .i64 1, .int .u64 85, .int .u64 18, .string S0] 33) = w2 at *
  refine (show Calls Tryd.prog 10 #[.agg #[.int .i64 1, .int .u64 85, .int .u64 18, .string S0]] w2 _ by rw [← HCS.out]; exact HBY.out).mono ?_
  rintro e w3 ⟨v3, rfl, ho3, hb3⟩
  rw [if_pos L0_lok]
  rw [L0_row] at ho3
  have HV3 := hide (BSl.own ho3 (lbytes_byte L0_lok L0_lkb.d))
  rw [L0_blen] at ho3
  have HB3 : Hid (Below w.heap.size w w3) := HB2.out.trans (hb3.mono HB2.out.size)
  have HT3 : Hid (w3.heap[w1.heap.size]? = some (.cells (lcs L0) 33 (0, 0))) := (hb3.block _ (blk_lt HT2.out)).trans HT2.out
  obtain ⟨a3, c3, hv3, hq1, hq2, hq3⟩ := own_form ho3
  subst hv3
  clear ho3 hb3 hq1 hq2 hq3 HBY HB2 HT2
  go_wp2_with fail
  have HPA : Calls Tryd.prog 11 #[.slice a3 36 c3] w3 fun e w' => e = .returned (.tuple #[.agg #[.int .i64 1, .int .u64 85, .int .u64 18, .string S0], .int .i64 0]) ∧ Below w3.heap.size w3 w' := by
    have h := parse4_any w3 _ (lbytes L0) HV3.out
    rw [L0_parse, lkv_lcs, HCS.out] at h
    exact h
  refine HPA.mono ?_
  rintro e w4 ⟨rfl, hb4⟩
  clear HPA
  have hb5 := hb4.trans ((below_alloc4 w4 (.cells #[.int .i64 1, .int .u64 85, .int .u64 18, .string S0] 33)).mono hb4.size)
  have HB5 : Hid (Below w.heap.size w (w4.alloc (.cells #[.int .i64 1, .int .u64 85, .int .u64 18, .string S0] 33))) := HB3.out.trans (hb5.mono HB3.out.size)
  have HT5 : Hid ((w4.alloc (.cells #[.int .i64 1, .int .u64 85, .int .u64 18, .string S0] 33)).heap[w1.heap.size]? = some (.cells (lcs L0) 33 (0, 0))) := (hb5.block _ (blk_lt HT3.out)).trans HT3.out
  have HU5 : Hid ((w4.alloc (.cells #[.int .i64 1, .int .u64 85, .int .u64 18, .string S0] 33)).heap[w4.heap.size]? = some (.cells (lcs L0) 33 (0, 0))) := by show _ = _; rw [HCS.out]; exact heap_alloc_new w4 _
  have c0 : (w4.alloc (.cells #[.int .i64 1, .int .u64 85, .int .u64 18, .string S0] 33)).cell? ⟨w1.heap.size, 0, none⟩ = some (.int .i64 1) := blk_cell HT5.out (by rw [HCS.out]; rfl)
  have c1 : (w4.alloc (.cells #[.int .i64 1, .int .u64 85, .int .u64 18, .string S0] 33)).cell? ⟨w1.heap.size, 1, none⟩ = some (.int .u64 85) := blk_cell HT5.out (by rw [HCS.out]; rfl)
  have c2 : (w4.alloc (.cells #[.int .i64 1, .int .u64 85, .int .u64 18, .string S0] 33)).cell? ⟨w1.heap.size, 2, none⟩ = some (.int .u64 18) := blk_cell HT5.out (by rw [HCS.out]; rfl)
  have c3' : (w4.alloc (.cells #[.int .i64 1, .int .u64 85, .int .u64 18, .string S0] 33)).cell? ⟨w1.heap.size, 3, none⟩ = some (.string S0) := blk_cell HT5.out (by rw [HCS.out]; rfl)
  clear hb4 hb5 HB3 HT3 HV3
  go_wp2_with fail
  clear c0 c1 c2 c3'
  generalize w4.alloc (.cells #[.int .i64 1, .int .u64 85, .int .u64 18, .string S0] 33) = w5 at *
  have HTX : Calls Tryd.prog 12 #[.agg #[.int .i64 1, .int .u64 85, .int .u64 18, .string S0]] w5 fun e w' => e = .returned (.tuple #[.string (nstr (ltext L0)), .int .i64 0]) ∧ Below w5.heap.size w5 w' := by
    have h := text4_any w5 L0 L0_lkb
    rw [L0_text, lkv_lcs, HCS.out] at h
    exact h
  refine HTX.mono ?_
  rintro e w6 ⟨rfl, hb6⟩
  clear HTX
  have HB6 : Hid (Below w.heap.size w w6) := HB5.out.trans (hb6.mono HB5.out.size)
  have HT6 : Hid (w6.heap[w1.heap.size]? = some (.cells (lcs L0) 33 (0, 0))) := (hb6.block _ (blk_lt HT5.out)).trans HT5.out
  have HU6 : Hid (w6.heap[w4.heap.size]? = some (.cells (lcs L0) 33 (0, 0))) := (hb6.block _ (blk_lt HU5.out)).trans HU5.out
  have HTS : Hid ((nstr (ltext L0)).size = 59) := by show _ = _; rw [nstr_size L0_tbyte, L0_tlen]
  have HTP : Calls Tryd.prog 13 #[.string (nstr (ltext L0))] w6 fun e w' => e = .returned (.tuple #[.agg #[.int .i64 1, .int .u64 85, .int .u64 18, .string S0], .int .i64 0]) ∧ Below w6.heap.size w6 w' := by
    have h := parsetext_any w6 (nstr (ltext L0)) (by rw [HTS.out]; decide)
    rw [sl_nstr L0_tbyte, L0_ptext, lkv_lcs, HCS.out] at h
    exact h
  have HT0 : Hid (∀ h : 0 < (nstr (ltext L0)).size, (nstr (ltext L0))[0].toNat = 98) := fun h => by rw [nstr_at L0_tbyte]; rfl
  clear hb6 HB5 HT5 HU5
  generalize nstr (ltext L0) = S1 at *
  go_wp2_with fail
  refine HTP.mono ?_
  rintro e w7 ⟨rfl, hb7⟩
  clear HTP
  have hb8 := hb7.trans ((below_alloc4 w7 (.cells #[.int .i64 1, .int .u64 85, .int .u64 18, .string S0] 33)).mono hb7.size)
  have HB8 : Hid (Below w.heap.size w (w7.alloc (.cells #[.int .i64 1, .int .u64 85, .int .u64 18, .string S0] 33))) := HB6.out.trans (hb8.mono HB6.out.size)
  have HT8 : Hid ((w7.alloc (.cells #[.int .i64 1, .int .u64 85, .int .u64 18, .string S0] 33)).heap[w1.heap.size]? = some (.cells (lcs L0) 33 (0, 0))) := (hb8.block _ (blk_lt HT6.out)).trans HT6.out
  have HU8 : Hid ((w7.alloc (.cells #[.int .i64 1, .int .u64 85, .int .u64 18, .string S0] 33)).heap[w4.heap.size]? = some (.cells (lcs L0) 33 (0, 0))) := (hb8.block _ (blk_lt HU6.out)).trans HU6.out
  have HX8 : Hid ((w7.alloc (.cells #[.int .i64 1, .int .u64 85, .int .u64 18, .string S0] 33)).heap[w7.heap.size]? = some (.cells (lcs L0) 33 (0, 0))) := by show _ = _; rw [HCS.out]; exact heap_alloc_new w7 _
  clear hb7 hb8 HB6 HT6 HU6
  have d0 : (w7.alloc (.cells #[.int .i64 1, .int .u64 85, .int .u64 18, .string S0] 33)).cell? ⟨w1.heap.size, 0, none⟩ = some (.int .i64 1) := blk_cell HT8.out (by rw [HCS.out]; rfl)
  have d1 : (w7.alloc (.cells #[.int .i64 1, .int .u64 85, .int .u64 18, .string S0] 33)).cell? ⟨w1.heap.size, 1, none⟩ = some (.int .u64 85) := blk_cell HT8.out (by rw [HCS.out]; rfl)
  go_wp2_with fail
  generalize w7.alloc (.cells #[.int .i64 1, .int .u64 85, .int .u64 18, .string S0] 33) = w8 at *
  refine (num4_any w8 0).mono ?_
  rintro e wn ⟨rfl, hwn⟩
  subst hwn
  have HEQ : Hid (∀ w, (Op.equalIn 10000 33 (.agg (lcs L0)) (.agg (lcs L0))).run Tryd.prog w = .ok true w) := fun w => by
    have h := eqlk w (a := L0) (b := L0) L0_lkb.d L0_lkb.d
    rw [decide_eq_true rfl] at h
    exact h
  have HCK : Hid (Calls Tryd.prog 14 #[.agg #[.int .i64 0, .int .u64 0, .int .u64 0, .string ⟨#[]⟩]] wn fun e w' => e = .returned (.int .i64 40) ∧ Below wn.heap.size wn w') := by
    have h := check_any wn Lk.none lk0_lkb
    rw [if_neg lk0_no] at h
    exact h
  have hsz := HTS.out
  have hsi : (0 : Int) < (S1.size : Int) := by omega
  have hx0 := HT0.out (by omega)
  have HLN : Hid ((lcs L0).size = 4) := rfl
  generalize lcs L0 = cl at *
  go_wp2_with (first
    | (go_at_call 8; refine (num4_any _ _).mono ?_; rintro e wn ⟨rfl, rfl⟩)
    | (refine wpList_loadLk rfl rfl w4.heap.size cl rfl HLN.out HU8.out ?_)
    | (refine wpList_loadLk rfl rfl w1.heap.size cl rfl HLN.out HT8.out ?_)
    | (refine wpList_loadLk rfl rfl w7.heap.size cl rfl HLN.out HX8.out ?_)
    | (refine wpList_eqlk rfl rfl cl cl true rfl rfl (HEQ.out _) ?_))
  refine HCK.out.mono ?_
  rintro e w9 ⟨rfl, hb9⟩
  have HB9 : Hid (Below w.heap.size w w9) := HB8.out.trans (hb9.mono HB8.out.size)
  clear hb9
  go_wp2_with (go_at_call 8; refine (num4_any _ _).mono ?_; rintro e wn ⟨rfl, rfl⟩)
  go_ret
  exact ⟨rfl, HB9.out⟩
end
section
open Go.RowKit Go
theorem BSl.entry {w : World} {v : Value} {xs : List Nat} (h : BSl w v xs) : (Extern.Bytes.bytesOf v).run Tryd.prog w = .ok (nstr xs) w := by
  obtain ⟨⟨a, cap, rfl, _, hc⟩, _, _⟩ := h
  rcases hc with rfl | ⟨b, off, rfl, hc⟩
  · cases a with
    | none => rfl
    | some a => rfl
  · have hl := Lib.run_loadBytesX (P := Tryd.prog) w (xs.map fun x => ((x : Nat) : Int)) ⟨b, off, none⟩ .empty (fun j x hj => by
      have hjl : j < xs.length := by
        have := (List.getElem?_eq_some_iff.1 hj).1
        simpa using this
      have e : (⟨b, off, none⟩ : Addr).add j = ⟨b, off + j, none⟩ := by unfold Addr.add; split <;> simp_all
      rw [e, hc j hjl]
      simp [hjl] at hj
      simp [List.getD, hjl, hj])
    rw [List.length_map] at hl
    show (Extern.Bytes.loadBytes _ _ _).run Tryd.prog w = _
    rw [hl]
    congr 1
    apply ByteArray.ext
    show (#[] : Array UInt8) ++ _ = _
    simp [nstr, Lib.bytesOf]
    apply Array.ext'
    rw [strOfNums_data]
    simp
theorem cmp_blt : ∀ (la lb : List UInt8), (∀ r, la ++ r = lb → r = []) → decide (Lib.compareBytes la lb < 0) = blt (la.map UInt8.toNat) (lb.map UInt8.toNat)
  | [], [], _ => rfl
  | [], y :: lb, h => by
    have := h (y :: lb) rfl
    cases this
  | _ :: _, [], _ => rfl
  | x :: la, y :: lb, h => by
    have ih := cmp_blt la lb
    unfold Lib.compareBytes
    simp only [List.map_cons, blt]
    by_cases hxy : x = y
    · subst hxy
      have hlt : ¬ x < x := UInt8.lt_irrefl x
      rw [if_neg hlt, if_neg hlt, if_pos rfl]
      exact ih (fun r hr => h r (by rw [List.cons_append, hr]))
    · have hne : x.toNat ≠ y.toNat := fun e => hxy (UInt8.toNat_inj.1 e)
      rw [if_neg hne]
      by_cases hl : x < y
      · rw [if_pos hl]
        have : x.toNat < y.toNat := UInt8.lt_iff_toNat_lt.1 hl
        simp [this]
      · rw [if_neg hl]
        have h2 : ¬ x.toNat < y.toNat := fun e => hl (UInt8.lt_iff_toNat_lt.2 e)
        have h3 : y < x := UInt8.lt_iff_toNat_lt.2 (by omega)
        rw [if_pos h3]
        simp [h2]
theorem nstr_list {xs : List Nat} (h : ∀ x ∈ xs, x < 256) : (nstr xs).data.toList.map UInt8.toNat = xs := sl_nstr h
theorem cmp_lbytes {a b : Lk} (ha : lok a) (hb : lok b) (had : ∀ x ∈ a.d, x < 256) (hbd : ∀ x ∈ b.d, x < 256) : decide (Lib.compareBytes (nstr (lbytes a)).data.toList (nstr (lbytes b)).data.toList < 0) = blt (lbytes a) (lbytes b) := by
  have h1 := nstr_list (lbytes_byte ha had)
  have h2 := nstr_list (lbytes_byte hb hbd)
  rw [cmp_blt, h1, h2]
  intro r hr
  have h3 := congrArg (List.map UInt8.toNat) hr
  rw [List.map_append, h1, h2] at h3
  have := (lbytes_free ha hb h3).2
  simpa using this
/-- Which of two links stands ahead. -/
def llt (a b : Lk) : Bool := decide (lok a) && decide (lok b) && blt (lrow a) (lrow b)
theorem blt_self : ∀ x, blt x x = false
  | [] => rfl
  | x :: r => by rw [blt, if_pos rfl, blt_self r]
end
section
open Go.RowKit Go
/-- What a walk over links has in hand. -/
structure Lks (w wx : World) (c : Array Value) : Prop where
  t : wx.heap[w.heap.size]? = some (.cells c 28 (0, 0))
  b : Below w.heap.size w wx
  c : Cb wx
theorem Lks.below {w wx wy : World} {c : Array Value} (h : Lks w wx c) (hb : Below wx.heap.size wx wy) : Lks w wy c := ⟨(hb.block _ (blk_lt h.t)).trans h.t, h.b.trans (hb.mono h.b.size), h.c.below hb⟩
theorem Lks.start {w : World} (c : Array Value) (hcb : Cb w) : Lks w (w.alloc (.cells c 28)) c := ⟨heap_alloc_new w _, below_alloc4 w _, hcb.below (below_alloc4 w _)⟩
/-- A link somewhere in a block. -/
theorem load_lk {w : World} (g o : Nat) (l : Lk) (hc : ∀ j u, (lcs l)[j]? = some u → w.cell? ⟨g, o + j, none⟩ = some u) : (Instr.loadAt 33 (.pointer (some ⟨g, o, none⟩))).run Tryd.prog w = .ok (.agg (lcs l)) w := by
  have hl := run_loadCells_list (P := Tryd.prog) (w := w) ⟨g, o, none⟩ (lcs l).toList (fun j v hv => by rw [addr_add]; exact hc j v (by simpa using hv))
  have hi := info61
  simp only [Instr.loadAt, Instr.sureAddr, Sem.run_bind, Sem.run_pure, Result.andThen]
  cases hq : Tryd.prog.info? 33 with
  | none => simp [hq] at hi
  | some i =>
    have hs : i.size = 4 := by simpa [hq] using hi
    have hn : (lcs l).toList.length = 4 := rfl
    rw [hn] at hl
    have ha : (isAgg 33).run Tryd.prog w = .ok true w := by
      unfold isAgg
      rw [Sem.run_bind, run_underlying Tryd.underlying33 w]
      simp
    simp [loadVar, ha, sizeOf, typeInfo, hq, hs, hl]
theorem qstep_lkAt {C : World → Prop} {ops : Array Oper} {o : Oper} {a : Act} {K : Act → Prop} {p : Operand} (hgd : Region.wanted o (yielded ops a.tmps) = true) (ho : o.op = .load 33 p) (g off : Nat) (l : Lk)
    (hp : a.eval p = .pointer (some ⟨g, off, none⟩)) (hc : ∀ w, C w → ∀ j u, (lcs l)[j]? = some u → w.cell? ⟨g, off + j, none⟩ = some u)
    (h : K (a.put o.dst (.agg (lcs l)))) : if Region.wanted o (yielded ops a.tmps) = true then o.quiet Tryd.prog a C K else K (a.put o.dst undef) := by
  rw [if_pos hgd]
  refine ⟨.agg (lcs l), fun w hC => ?_, h⟩
  unfold Oper.quietAt execOp
  simp only [ho, Sem.run_bind, hp, load_lk g off l (hc w hC), Result.andThen_ok]
  exact ⟨rfl, rfl⟩
theorem wpList_lkAt {ops : Array Oper} {rest : List Oper} {o : Oper} {a : Act} {Q : Exit → Act → World → Prop} {w : World} {p : Operand} (hgd : Region.wanted o (yielded ops a.tmps) = true) (ho : o.op = .load 33 p) (g off : Nat) (l : Lk)
    (hp : a.eval p = .pointer (some ⟨g, off, none⟩)) (hc : ∀ j u, (lcs l)[j]? = some u → w.cell? ⟨g, off + j, none⟩ = some u)
    (h : wpList Tryd.prog ops Q rest (a.put o.dst (.agg (lcs l))) w) : wpList Tryd.prog ops Q (o :: rest) a w := by
  refine wpList_wanted hgd fun K hK => ?_
  unfold Oper.wp execOp
  simp only [ho, Sem.run_bind, hp, load_lk g off l hc, Result.andThen_ok]
  exact hK _ _ h
end
section
open Go.RowKit Go
set_option maxRecDepth 1000000 in
set_option maxHeartbeats 1000000 in
theorem holds4_any (w : World) (l : Lk) (vb : Value) (b : List Nat) (hcb : Cb w) (hl : Lkb l) (hb : BSl w vb b) (hbl : b.length ≤ 140737488351232) :
    Calls Tryd.prog 9 #[lkv l, vb] w fun e w' => e = .returned (.bool (decide (lok l) && dholds l.h l.d b)) ∧ Below w.heap.size w w' := by
  have HB := hide hb
  have HBL := hide hbl
  have HL := hide hl
  have HCB := hide hcb
  obtain ⟨⟨a, cap, rfl, hn, hc⟩, hmax, hby⟩ := hb
  have HT : Hid ((w.alloc (.cells #[.int .i64 l.v, .int .u64 (l.c : Nat), .int .u64 (l.h : Nat), .string (nstr l.d)] 33)).heap[w.heap.size]? = some (.cells (lcs l) 33 (0, 0))) := heap_alloc_new w _
  have HB0 := hide (below_alloc4 w (.cells #[.int .i64 l.v, .int .u64 (l.c : Nat), .int .u64 (l.h : Nat), .string (nstr l.d)] 33))
  clear hn hc hby hbl hcb hl
  simp only [lkv]
  go_enter Tryd.func9, Tryd.ntmps9
  go_wp2_with fail
  generalize w.alloc (.cells #[.int .i64 l.v, .int .u64 (l.c : Nat), .int .u64 (l.h : Nat), .string (nstr l.d)] 33) = w0 at *
  refine (check_any w0 l HL.out).mono ?_
  rintro e w1 ⟨rfl, hb1⟩
  have q0 : w1.heap[w.heap.size]? = some (.cells (lcs l) 33 (0, 0)) := (hb1.block _ (blk_lt HT.out)).trans HT.out
  have HB1 : Hid (Below w.heap.size w w1) := HB0.out.trans (hb1.mono HB0.out.size)
  have c2 : w1.cell? ⟨w.heap.size, 2, none⟩ = some (.int .u64 (l.h : Nat)) := blk_cell q0 rfl
  have c3 : w1.cell? ⟨w.heap.size, 3, none⟩ = some (.string (nstr l.d)) := blk_cell q0 rfl
  have cv := conv_sb w1 (nstr l.d)
  clear hb1 q0
  by_cases hl : lok l
  · as_aux_lemma =>
    rw [if_pos hl]
    have HLK := hide hl
    clear hl
    have HS1 : Hid (BSl (Lib.bytesWorld w1 5 (nstr l.d)) (.slice (some ⟨w1.heap.size, 0, none⟩) (nstr l.d).size (grownCap w1 (nstr l.d).size 0 5)) l.d) := by
      have h := conv_sb_bsl w1 (nstr l.d) (by rw [HL.out.size]; have := HL.out.n; omega)
      rw [sl_nstr HL.out.d] at h
      exact h
    have HB2 : Hid (Below w.heap.size w (Lib.bytesWorld w1 5 (nstr l.d))) := HB1.out.trans ((conv_sb_below w1 _).mono HB1.out.size)
    go_wp2_with fail
    clear cv c2 c3
    generalize grownCap w1 (nstr l.d).size 0 5 = G at *
    generalize w1.heap.size = gg at *
    generalize Lib.bytesWorld w1 5 (nstr l.d) = w2 at *
    refine (holds3_any w2 l.h _ _ l.d b (HCB.out.below HB2.out) HL.out.h HS1.out (HB.out.move (keep_below HB2.out)) HBL.out).mono ?_
    rintro e w3 ⟨rfl, hb3⟩
    have HB3 : Hid (Below w.heap.size w w3) := HB2.out.trans (hb3.mono HB2.out.size)
    clear hb3
    go_wp2_with fail
    go_ret
    exact ⟨by rw [decide_eq_true HLK.out, Bool.true_and]; rfl, HB3.out⟩
  · as_aux_lemma =>
    rw [if_neg hl]
    have HLK := hide hl
    clear hl
    go_wp2_with fail
    go_ret
    exact ⟨by rw [decide_eq_false HLK.out, Bool.false_and]; rfl, HB1.out⟩
end
section
open Go.RowKit Go
section
variable {P : Program} {Q : Exit → Act → World → Prop} {S : World → Prop} {l : List Oper} {fuel : Nat} {listed : Array Bool} {a : Act} {w : World}
/-- A region that draws its order, by hand: begin. -/
theorem heldStart {id : Nat} (hm : P.follows .mixedOrders = true) (h : wpAnyH P .any l.toArray Q S l.length (Array.replicate l.length false) a w.drew) : (Code.region id l.toArray true).wp P Q a w :=
  wp_region_held (S := S) hm (by simpa using h)
/-- Take one first that reads alone. -/
theorem heldTake (i : Nat) {oi : Oper} (v : Value) (hi : l[i]? = some oi) (hs : Region.noSelect l.toArray = true) (hf : Region.free .any l.toArray listed i = true) (hr : (Region.ready .any l.toArray listed).contains i = true)
    (hQ : ∀ c a w, Q (.panic c) (a.put oi.dst v) w → Q (.panic c) a w) (hw : Region.wanted oi (yielded l.toArray a.tmps) = true) (hS : S w) (hy : ∀ w, S w → (execOp a.eval oi).run P w = .ok (.value v) w)
    (h : wpAnyH P .any l.toArray Q S fuel (listed.setIfInBounds i true) (a.put oi.dst v) w) : wpAnyH P .any l.toArray Q S (fuel + 1) listed a w :=
  wpAnyH_take (by simpa using hi) hs hf hr hQ (.inl ⟨hw, hy⟩) hS h
/-- The only one that may come up. -/
theorem heldStep (i : Nat) {oi : Oper} (hi : l[i]? = some oi) (hr : Region.ready .any l.toArray listed = [i])
    (h : ∀ K : Act → World → Prop, Hid (∀ a w, S w → (S w → wpAnyH P .any l.toArray Q S fuel (listed.setIfInBounds i true) a w) → K a w) → if Region.wanted oi (yielded l.toArray a.tmps) = true then Oper.wp P oi a w K Q else K (a.put oi.dst undef) w) : wpAnyH P .any l.toArray Q S (fuel + 1) listed a w :=
  wpAnyH_ready hr (by simp) (AllReadyH.cons (by simpa using hi) (fun K hK => h K hK) AllReadyH.nil)
theorem heldDone (hr : Region.ready .any l.toArray listed = []) (h : Q .normal a w) : wpAnyH P .any l.toArray Q S fuel listed a w := wpAnyH_done hr h fuel
end
end
end Go.Proofs.YtidglddjinfncabDoor

import Derived.Test.YtidglddjinfncaaDoorJg
import Derived.Laws.CopyRow
namespace Go.Proofs.YtidglddjinfncaaDoor
section
open Go.RowKit Go
theorem below_alloc4 (w : World) (o : Obj) : Below w.heap.size w (w.alloc o) := (Below.refl _ _).alloc (Nat.le_refl _) _
set_option maxRecDepth 1000000 in
set_option maxHeartbeats 1000000 in
theorem refCheck_any (w : World) (v : Int) (c h : Nat) (s : ByteArray) (hh : h < 18446744073709551616) (hs : s.size ≤ 9223372036854775807) :
    Calls Tryd.prog 46 #[.agg #[.int .i64 v, .int .u64 (c : Nat), .int .u64 (h : Nat), .string s]] w fun e w' => e = .returned (.int .i64 (if lok ⟨v, c, h, sl s⟩ then 0 else 40)) ∧ Below w.heap.size w w' := by
  generalize hR : (if lok ⟨v, c, h, sl s⟩ then (0 : Int) else 40) = R
  have HR := hide hR
  have HSL := hide (sl_len s)
  clear hR
  by_cases hv0 : v = 0
  · subst hv0
    have HE : Hid (lok ⟨0, c, h, sl s⟩ ↔ c = 112 ∧ h = 18 ∧ s.size = 32) := by
      show _ ↔ _
      unfold lok
      simp [sl_len]
    by_cases h1 : c = 112
    · by_cases h2 : h = 18
      · by_cases h3 : s.size = 32
        · have HZ : Hid (R = 0) := by show _ = _; rw [← HR.out, if_pos (HE.out.2 ⟨h1, h2, h3⟩)]
          subst h1
          subst h2
          have g3 : ((s.size : Int) == 32) = true := beq_iff_eq.2 (by omega)
          clear h3 HE HR
          go_enter Tryd.func46, Tryd.ntmps46
          go_wp2_with fail
          go_ret
          exact ⟨by rw [HZ.out]; rfl, below_alloc4 w _⟩
        · have HZ : Hid (R = 40) := by show _ = _; rw [← HR.out, if_neg (fun e => h3 (HE.out.1 e).2.2)]
          subst h1
          subst h2
          have g3 : ((s.size : Int) == 32) = false := beq_eq_false_iff_ne.2 (by omega)
          clear h3 HE HR
          go_enter Tryd.func46, Tryd.ntmps46
          go_wp2_with fail
          go_ret
          exact ⟨by rw [HZ.out]; rfl, below_alloc4 w _⟩
      · have HZ : Hid (R = 40) := by show _ = _; rw [← HR.out, if_neg (fun e => h2 (HE.out.1 e).2.1)]
        subst h1
        have g3 : ((h : Int) == 18) = false := beq_eq_false_iff_ne.2 (by omega)
        clear h2 HE HR
        go_enter Tryd.func46, Tryd.ntmps46
        go_wp2_with fail
        go_ret
        exact ⟨by rw [HZ.out]; rfl, below_alloc4 w _⟩
    · have HZ : Hid (R = 40) := by show _ = _; rw [← HR.out, if_neg (fun e => h1 (HE.out.1 e).1)]
      have g3 : ((c : Int) == 112) = false := beq_eq_false_iff_ne.2 (by omega)
      clear h1 HE HR
      go_enter Tryd.func46, Tryd.ntmps46
      go_wp2_with fail
      go_ret
      exact ⟨by rw [HZ.out]; rfl, below_alloc4 w _⟩
  · have g0 : (v == 0) = false := beq_eq_false_iff_ne.2 hv0
    by_cases hv1 : v = 1
    · subst hv1
      have HE : Hid (lok ⟨1, c, h, sl s⟩ ↔ c < 9223372036854775808 ∧ (dlay h (sl s)).2 = 0) := by as_aux_lemma =>
        show _ ↔ _
        rw [dlay_okd]
        unfold lok
        simp
      have cv := conv_sb (w.alloc (.cells #[.int .i64 1, .int .u64 (c : Nat), .int .u64 (h : Nat), .string s] 35)) s
      have hb0 := below_alloc4 w (.cells #[.int .i64 1, .int .u64 (c : Nat), .int .u64 (h : Nat), .string s] 35)
      have HB1 : Hid (Below w.heap.size w (Lib.bytesWorld (w.alloc (.cells #[.int .i64 1, .int .u64 (c : Nat), .int .u64 (h : Nat), .string s] 35)) 5 s)) := hb0.trans ((conv_sb_below _ s).mono hb0.size)
      have HS1 := hide (conv_sb_bsl (w.alloc (.cells #[.int .i64 1, .int .u64 (c : Nat), .int .u64 (h : Nat), .string s] 35)) s hs)
      have q1 : (Lib.bytesWorld (w.alloc (.cells #[.int .i64 1, .int .u64 (c : Nat), .int .u64 (h : Nat), .string s] 35)) 5 s).heap[w.heap.size]? = some (.cells #[.int .i64 1, .int .u64 (c : Nat), .int .u64 (h : Nat), .string s] 35 (0, 0)) := by
        rw [Lib.bytesWorld_at_old _ _ _ _ (by simp)]
        exact heap_alloc_new w _
      have HQ1 := hide q1
      have hz0 : (w.alloc (.cells #[.int .i64 1, .int .u64 (c : Nat), .int .u64 (h : Nat), .string s] 35)).heap.size = w.heap.size + 1 := by simp
      rw [hz0] at HS1
      clear hb0 q1 hv0 g0 hz0
      generalize hn : (c : Int) = n at *
      have HN := hide hn
      clear hn
      go_enter Tryd.func46, Tryd.ntmps46
      go_wp2_with fail
      clear cv
      generalize grownCap (w.alloc (.cells #[.int .i64 1, .int .u64 n, .int .u64 (h : Nat), .string s] 35)) s.size 0 5 = G at *
      generalize Lib.bytesWorld (w.alloc (.cells #[.int .i64 1, .int .u64 n, .int .u64 (h : Nat), .string s] 35)) 5 s = w1 at *
      refine (refDLay_any w1 h _ (sl s) hh HS1.out).mono ?_
      rintro e w2 ⟨v2, rfl, _, hb2⟩
      have HB2 : Hid (Below w.heap.size w w2) := HB1.out.trans (hb2.mono HB1.out.size)
      have q1 : w2.cell? ⟨w.heap.size, 1, none⟩ = some (.int .u64 n) := blk_cell ((hb2.block _ (blk_lt HQ1.out)).trans HQ1.out) rfl
      clear hb2 HS1 HB1 HQ1
      by_cases hc63 : n < 9223372036854775808
      · by_cases hl0 : (dlay h (sl s)).2 = 0
        · as_aux_lemma =>
          have HZ : Hid (R = 0) := by show _ = _; rw [← HR.out, if_pos (HE.out.2 ⟨by have := HN.out; omega, hl0⟩)]
          rw [hl0]
          clear HE HR HN
          go_wp2_with fail
          go_ret
          exact ⟨by rw [HZ.out]; rfl, HB2.out⟩
        · as_aux_lemma =>
          have HZ : Hid (R = 40) := by show _ = _; rw [← HR.out, if_neg (fun e => hl0 (HE.out.1 e).2)]
          have g3 : (((dlay h (sl s)).2 : Int) == 0) = false := beq_eq_false_iff_ne.2 (by omega)
          generalize (dlay h (sl s)).2 = E at *
          clear HE HR HN
          go_wp2_with fail
          go_ret
          exact ⟨by rw [HZ.out]; rfl, HB2.out⟩
      · as_aux_lemma =>
        have HZ : Hid (R = 40) := by show _ = _; rw [← HR.out, if_neg (fun e => hc63 (by have := (HE.out.1 e).1; have := HN.out; omega))]
        have g2' : (9223372036854775808 : Int) ≤ n := by omega
        generalize (dlay h (sl s)).2 = E at *
        clear HE HR HN hc63
        go_wp2_with fail
        go_ret
        exact ⟨by rw [HZ.out]; rfl, HB2.out⟩
    · have g1 : (v == 1) = false := beq_eq_false_iff_ne.2 hv1
      have HZ : Hid (R = 40) := by
        show _ = _
        rw [← HR.out, if_neg]
        rintro (h1 | h1)
        · exact hv0 h1.1
        · exact hv1 h1.1
      clear HR
      go_enter Tryd.func46, Tryd.ntmps46
      go_wp2_with fail
      go_ret
      exact ⟨by rw [HZ.out]; rfl, below_alloc4 w _⟩
end
section
open Go.RowKit Go
theorem digs_ge {k n : Nat} (hk : k < 9) (hn : 128 ≤ n) : digs (9 - k) n = (n % 128 + 128) :: digs (9 - (k + 1)) (n / 128) := by
  obtain ⟨f, hf⟩ : ∃ f, 9 - k = f + 1 := ⟨8 - k, by omega⟩
  rw [hf, digs_big hn]
  congr 2
  omega
theorem digs_lt {k n : Nat} (hk : k < 9) (hn : n < 128) : digs (9 - k) n = [n] := by
  obtain ⟨f, hf⟩ : ∃ f, 9 - k = f + 1 := ⟨8 - k, by omega⟩
  rw [hf, digs_small hn]

set_option maxRecDepth 1000000 in
set_option maxHeartbeats 1000000 in
theorem refVarint_any (w : World) (n : Nat) (hn : n < 9223372036854775808) :
    Calls Tryd.prog 59 #[.int .u64 (n : Nat)] w fun e w' => ∃ v, e = .returned v ∧ w'.ownsRow w.heap.size 5 1 v (digs 9 n).length (bv (digs 9 n)) ∧ Below w.heap.size w w' := by
  have HN := hide hn
  go_enter Tryd.func59, Tryd.ntmps59
  go_wp2_with fail
  go_loopw [0, 3] (fun nn vv wx => ∃ (m : Nat) (ds : List Nat), m < 9223372036854775808 ∧ nn = .int .u64 (m : Nat) ∧ Hid (ds.length < 9 ∧ m < 128 ^ (9 - ds.length) ∧ ds ++ digs (9 - ds.length) m = digs 9 n ∧ ∀ x ∈ ds, x < 256) ∧ Hid (wx.ownsRow w.heap.size 5 1 vv ds.length (bv ds)) ∧ Hid (Below w.heap.size w wx)) (fun nn _ _ => (intOf nn).toNat)
  case atStart => exact ⟨n, [], hn, rfl, ⟨by decide, by simpa using hn, rfl, by simp⟩, ⟨rfl, .inl ⟨rfl, rfl⟩⟩, Below.refl _ _⟩
  case round =>
    obtain ⟨m, ds, hm, rfl, HI, HO, HB⟩ := hrel
    by_cases hge : 128 ≤ m
    · have g1 : (128 : Int) ≤ (m : Int) := by omega
      have HL := hide (one_bsl wr (m % 128 + 128) (by omega))
      have HA := hide (HO.out.alloc (.cells #[.int .u8 ((m % 128 + 128 : Nat) : Int)] 5))
      have HZ : Hid (ds.length + ([m % 128 + 128] : List Nat).length ≤ 140737488355328) := by have := HI.out.1; show _ ≤ _; simp; omega
      have HBZ : Hid (w.heap.size ≤ (wr.alloc (.cells #[.int .u8 ((m % 128 + 128 : Nat) : Int)] 5)).heap.size) := by have := HB.out.size; show _ ≤ _; simp; omega
      have HBA : Hid (Below w.heap.size w (wr.alloc (.cells #[.int .u8 ((m % 128 + 128 : Nat) : Int)] 5))) := HB.out.alloc HB.out.size _
      have HI2 : Hid ((ds ++ [m % 128 + 128]).length < 9 ∧ m / 128 < 128 ^ (9 - (ds ++ [m % 128 + 128]).length) ∧ (ds ++ [m % 128 + 128]) ++ digs (9 - (ds ++ [m % 128 + 128]).length) (m / 128) = digs 9 n ∧ ∀ x ∈ ds ++ [m % 128 + 128], x < 256) := by
        obtain ⟨h1, h2, h3, h4⟩ := HI.out
        rw [List.length_append, List.length_singleton]
        obtain ⟨f, hf⟩ : ∃ f, 9 - ds.length = f + 1 := ⟨8 - ds.length, by omega⟩
        rw [hf] at h2
        obtain ⟨g, hg, hlt⟩ := fuel_down hge h2
        have e : 9 - (ds.length + 1) = g + 1 := by omega
        refine ⟨by omega, by rw [e]; exact hlt, ?_, fun x hx => ?_⟩
        · rw [List.append_assoc, ← h3, digs_ge h1 hge]
          rfl
        · rcases List.mem_append.1 hx with hx | hx
          · exact h4 x hx
          · simp at hx
            omega
      obtain ⟨a3, c3, hu3, _⟩ := own_form HO.out
      subst hu3
      have hq1 : (m : Int) % 128 = ((m % 128 : Nat) : Int) := by omega
      have hq2 : (m : Int) / 128 = ((m / 128 : Nat) : Int) := by omega
      have hq3 : m % 128 < 128 := Nat.mod_lt _ (by decide)
      have hq4 : m / 128 < m := by omega
      have hq5 : (128 : Int) + ((m % 128 : Nat) : Int) = ((m % 128 + 128 : Nat) : Int) := by omega
      have hq6 : ((m % 128 + 128 : Nat) : Int) < 256 := by omega
      generalize m % 128 + 128 = xx at *
      generalize m % 128 = rr at *
      generalize m / 128 = qq at *
      go_wp2_with (at_builtin; refine append_bsl rfl _ _ rfl w.heap.size _ ds.length ds rfl HA.out _ [xx] rfl HL.out HZ.out HBZ.out ?_)
      intro v7 w7 ho7 hg7
      have HB7 : Hid (Below w.heap.size w w7) := HBA.out.grown hg7 HBZ.out (fun g hg => (HA.out.lt g hg).1)
      have HO7 : Hid (w7.ownsRow w.heap.size 5 1 v7 (ds ++ [xx]).length (bv (ds ++ [xx]))) := by show World.ownsRow _ _ _ _ _ _ _; rw [List.length_append]; exact ho7
      clear ho7 hg7 HA HL HO HB HBA
      go_wp2_with fail
      go_roundw
      case rel => exact ⟨qq, ds ++ [xx], by omega, by go_num, HI2, HO7, HB7⟩
      case measure => simp [intOf]; omega
    · have g1 : ¬ (128 : Int) ≤ (m : Int) := by omega
      have hm3 : m < 128 := by omega
      have HL := hide (one_bsl wr m (by omega))
      have HA := hide (HO.out.alloc (.cells #[.int .u8 (m : Int)] 5))
      have HZ : Hid (ds.length + ([m] : List Nat).length ≤ 140737488355328) := by have := HI.out.1; show _ ≤ _; simp; omega
      have HBZ : Hid (w.heap.size ≤ (wr.alloc (.cells #[.int .u8 (m : Int)] 5)).heap.size) := by have := HB.out.size; show _ ≤ _; simp; omega
      have HBA : Hid (Below w.heap.size w (wr.alloc (.cells #[.int .u8 (m : Int)] 5))) := HB.out.alloc HB.out.size _
      have HE : Hid (ds ++ [m] = digs 9 n) := by
        obtain ⟨h1, h2, h3, h4⟩ := HI.out
        show _ = _
        rw [← h3, digs_lt h1 hm3]
      obtain ⟨a3, c3, hu3, _⟩ := own_form HO.out
      subst hu3
      go_wp2_with (at_builtin; refine append_bsl rfl _ _ rfl w.heap.size _ ds.length ds rfl HA.out _ [m] rfl HL.out HZ.out HBZ.out ?_)
      intro v7 w7 ho7 hg7
      have HB7 : Hid (Below w.heap.size w w7) := HBA.out.grown hg7 HBZ.out (fun g hg => (HA.out.lt g hg).1)
      have HO7 : Hid (w7.ownsRow w.heap.size 5 1 v7 (digs 9 n).length (bv (digs 9 n))) := by show World.ownsRow _ _ _ _ _ _ _; rw [← HE.out, List.length_append]; exact ho7
      obtain ⟨a7, c7, hu7, _⟩ := own_form ho7
      subst hu7
      clear ho7 hg7 HA HL HO HB HBA
      go_wp2_with fail
      go_ret
      exact ⟨_, rfl, HO7.out, HB7.out⟩
end
section
open Go.RowKit Go
theorem lit_row4 (w : World) (B x : Nat) (hB : B ≤ w.heap.size) : (w.alloc (.cells #[.int .u8 ((x : Nat) : Int)] 5)).ownsRow B 5 1 (.slice (some ⟨w.heap.size, 0, none⟩) 1 1) 1 (bv [x]) :=
  ⟨rfl, .inr ⟨w.heap.size, 1, _, rfl, hB, heap_alloc_new w _, Nat.le_refl _, by unfold maxLen; omega, rfl, rfl⟩⟩
theorem own_mono4 {w : World} {b b' : Nat} {v : Value} {n : Nat} {xs : List Value} (h : w.ownsRow b 5 1 v n xs) (hb : b' ≤ b) : w.ownsRow b' 5 1 v n xs := by
  refine ⟨h.1, ?_⟩
  rcases h.2 with h1 | ⟨g, cap, cur, e, hg, r⟩
  · exact .inl h1
  · exact .inr ⟨g, cap, cur, e, Nat.le_trans hb hg, r⟩
theorem own_below4 {w w' : World} {b : Nat} {v : Value} {n : Nat} {xs : List Value} (h : w.ownsRow b 5 1 v n xs) (hb : Below w.heap.size w w') : w'.ownsRow b 5 1 v n xs := (Kp.of_below (S := fun _ => False) hb).owns h (fun _ _ e => e)

set_option maxRecDepth 1000000 in
set_option maxHeartbeats 1000000 in
theorem refBytes_any (w : World) (v : Int) (c h : Nat) (s : ByteArray) (hh : h < 18446744073709551616) (hs : s.size ≤ 9223372036854775807) :
    Calls Tryd.prog 35 #[.agg #[.int .i64 v, .int .u64 (c : Nat), .int .u64 (h : Nat), .string s]] w fun e w' => ∃ v', e = .returned (.tuple #[v', .int .i64 (if lok ⟨v, c, h, sl s⟩ then 0 else 40)]) ∧ w'.ownsRow w.heap.size 5 1 v' (if lok ⟨v, c, h, sl s⟩ then lbytes ⟨v, c, h, sl s⟩ else []).length (bv (if lok ⟨v, c, h, sl s⟩ then lbytes ⟨v, c, h, sl s⟩ else [])) ∧ Below w.heap.size w w' := by
  have HSL := hide (sl_len s)
  have HH := hide hh
  have HT : Hid ((w.alloc (.cells #[.int .i64 v, .int .u64 (c : Nat), .int .u64 (h : Nat), .string s] 35)).heap[w.heap.size]? = some (.cells #[.int .i64 v, .int .u64 (c : Nat), .int .u64 (h : Nat), .string s] 35 (0, 0))) := heap_alloc_new w _
  have HB := hide (below_alloc4 w (.cells #[.int .i64 v, .int .u64 (c : Nat), .int .u64 (h : Nat), .string s] 35))
  by_cases hl : lok ⟨v, c, h, sl s⟩
  · rw [if_pos hl, if_pos hl]
    have HLK := hide hl
    clear hl
    go_enter Tryd.func35, Tryd.ntmps35
    go_wp2_with fail
    generalize w.alloc (.cells #[.int .i64 v, .int .u64 (c : Nat), .int .u64 (h : Nat), .string s] 35) = w0 at *
    refine (refCheck_any w0 v c h s HH.out hs).mono ?_
    rintro e w1 ⟨rfl, hb1⟩
    rw [if_pos HLK.out]
    have q0 : w1.heap[w.heap.size]? = some (.cells #[.int .i64 v, .int .u64 (c : Nat), .int .u64 (h : Nat), .string s] 35 (0, 0)) := (hb1.block _ (blk_lt HT.out)).trans HT.out
    have HB1 : Hid (Below w.heap.size w w1) := HB.out.trans (hb1.mono HB.out.size)
    have c0 : w1.cell? ⟨w.heap.size, 0, none⟩ = some (.int .i64 v) := blk_cell q0 rfl
    have c1 : w1.cell? ⟨w.heap.size, 1, none⟩ = some (.int .u64 (c : Nat)) := blk_cell q0 rfl
    have c2 : w1.cell? ⟨w.heap.size, 2, none⟩ = some (.int .u64 (h : Nat)) := blk_cell q0 rfl
    have c3 : w1.cell? ⟨w.heap.size, 3, none⟩ = some (.string s) := blk_cell q0 rfl
    have cv := conv_sb w1 s
    go_wp2_with fail
    have HS1 := hide (conv_sb_bsl w1 s hs)
    have HB2 : Hid (Below w.heap.size w (Lib.bytesWorld w1 5 s)) := HB1.out.trans ((conv_sb_below w1 s).mono HB1.out.size)
    have HT2 : Hid ((Lib.bytesWorld w1 5 s).heap[w.heap.size]? = some (.cells #[.int .i64 v, .int .u64 (c : Nat), .int .u64 (h : Nat), .string s] 35 (0, 0))) := (Lib.bytesWorld_at_old w1 5 s _ (blk_lt q0)).trans q0
    clear cv c0 c1 c2 c3 q0 hb1
    generalize grownCap w1 s.size 0 5 = G at *
    generalize w1.heap.size = gg at *
    generalize Lib.bytesWorld w1 5 s = w2 at *
    refine (refDLay_any w2 h _ (sl s) HH.out HS1.out).mono ?_
    rintro e w3 ⟨vd, rfl, ho3, hb3⟩
    have HDL := hide (dlay_ok (lok_okd HLK.out))
    simp only at HDL
    rw [HDL.out] at ho3
    have HE2 : Hid ((dlay h (sl s)).2 = 0) := by show _ = _; rw [HDL.out]
    rw [HE2.out]
    have HO3 := hide ho3
    have HB3 : Hid (Below w.heap.size w w3) := HB2.out.trans (hb3.mono HB2.out.size)
    have q3 : w3.heap[w.heap.size]? = some (.cells #[.int .i64 v, .int .u64 (c : Nat), .int .u64 (h : Nat), .string s] 35 (0, 0)) := (hb3.block _ (blk_lt HT2.out)).trans HT2.out
    have HQ3 := hide q3
    have HWB : Hid (w.heap.size ≤ w2.heap.size) := HB2.out.size
    have c0 : w3.cell? ⟨w.heap.size, 0, none⟩ = some (.int .i64 v) := blk_cell q3 rfl
    have c1 : w3.cell? ⟨w.heap.size, 1, none⟩ = some (.int .u64 (c : Nat)) := blk_cell q3 rfl
    clear ho3 hb3 q3 HS1 HT2 HB2
    obtain ⟨ad, cd, hvd, _⟩ := own_form HO3.out
    subst hvd
    by_cases hv0 : v = 0
    · subst hv0
      have HBY : Hid (lbytes ⟨0, c, h, sl s⟩ = h :: (sl s).length :: sl s) := rfl
      go_wp2_with fail
      go_ret2
      exact ⟨_, rfl, by rw [HBY.out]; exact own_mono4 HO3.out HWB.out, HB3.out⟩
    · have hv1 : v = 1 := by
        rcases HLK.out with h1 | h1
        · exact absurd h1.1 hv0
        · exact h1.1
      subst hv1
      have hc63 : c < 9223372036854775808 := by
        rcases HLK.out with h1 | h1
        · exact absurd h1.1 hv0
        · exact h1.2.1
      have HC := hide hc63
      have HBY : Hid (lbytes ⟨1, c, h, sl s⟩ = 1 :: digs 9 c ++ (h :: (sl s).length :: sl s)) := rfl
      clear hc63 hv0
      have HBYT : Hid (∀ x ∈ h :: (sl s).length :: sl s, x < 256) := by
        have hk := lok_okd HLK.out
        intro x hx
        unfold okd at hk
        simp only [List.mem_cons] at hx
        rcases hx with e | e | e
        · simp only at hk
          omega
        · simp only at hk
          omega
        · exact sl_byte s x e
      have HRL : Hid ((h :: (sl s).length :: sl s).length ≤ 66) := by
        have hk := lok_okd HLK.out
        unfold okd at hk
        simp only at hk
        show _ ≤ _
        simp
        omega
      generalize h :: (sl s).length :: sl s = rw3 at *
      have hb4 := below_alloc4 w3 (.cells #[.int .u8 1] 5)
      have c1a : (w3.alloc (.cells #[.int .u8 1] 5)).cell? ⟨w.heap.size, 1, none⟩ = some (.int .u64 (c : Nat)) := keep_below hb4 _ _ c1
      have HA4 : Hid ((w3.alloc (.cells #[.int .u8 1] 5)).ownsRow w.heap.size 5 1 (.slice (some ⟨w3.heap.size, 0, none⟩) 1 1) 1 (bv [1])) := lit_row4 w3 w.heap.size 1 HB3.out.size
      have HB4 : Hid (Below w.heap.size w (w3.alloc (.cells #[.int .u8 1] 5))) := HB3.out.trans (hb4.mono HB3.out.size)
      have HD4 := hide (own_below4 HO3.out hb4)
      have HDK : Hid (∀ k, (Value.slice ad rw3.length cd).ownBlock = some k → k ≠ w3.heap.size) := fun k hk e => by have := (HO3.out.lt k hk).2; omega
      have HS34 : Hid (w3.heap.size < (w3.alloc (.cells #[.int .u8 1] 5)).heap.size) := by show _ < _; simp
      clear c1 hb4 HQ3
      go_wp2_with fail
      clear c0 c1a
      generalize w3.alloc (.cells #[.int .u8 1] 5) = w4 at *
      refine (refVarint_any w4 c HC.out).mono ?_
      rintro e w5 ⟨vv, rfl, ho5, hb5⟩
      have HV5 : Hid (BSl w5 vv (digs 9 c)) := BSl.own ho5 (fun x hx => by
        have hk := lbytes_byte HLK.out (sl_byte s) x
        exact hk (by rw [HBY.out]; simp [hx]))
      have HA5 := hide (own_below4 HA4.out hb5)
      have HD5 := hide (own_below4 HD4.out hb5)
      have HB5 : Hid (Below w.heap.size w w5) := HB4.out.trans (hb5.mono HB4.out.size)
      have HZ5 : Hid (1 + (digs 9 c).length ≤ 140737488355328) := by have := digs_len 9 c; show _ ≤ _; omega
      clear ho5 hb5 HA4 HD4 HB4
      go_wp2_with (at_builtin; refine append_bsl rfl _ _ rfl w.heap.size _ 1 [1] rfl HA5.out _ (digs 9 c) rfl HV5.out HZ5.out HB5.out.size ?_)
      intro v6 w6 ho6 hg6
      have hk6 : Kp (fun q => q = w3.heap.size) w5 w6 := (Kp.refl _ _).grown hg6 (fun k _ h => by injection h with h; exact h.symm)
      have HD6 : Hid (BSl w6 (.slice ad rw3.length cd) rw3) := BSl.own (hk6.owns HD5.out (fun k hk e => HDK.out k hk e)) HBYT.out
      have HO6 := hide ho6
      have HB6 : Hid (Below w.heap.size w w6) := HB5.out.trans (hk6.below HB5.out.size (fun q e => by have := HB3.out.size; omega))
      have HZ6 : Hid (1 + (digs 9 c).length + rw3.length ≤ 140737488355328) := by have := digs_len 9 c; have := HRL.out; show _ ≤ _; omega
      clear ho6 hg6 hk6 HA5 HD5 HB5 HV5
      go_wp2_with (at_builtin; refine append_bsl rfl _ _ rfl w.heap.size _ (1 + (digs 9 c).length) _ rfl HO6.out _ rw3 rfl HD6.out HZ6.out HB6.out.size ?_)
      intro v7 w7 ho7 hg7
      have HB7 : Hid (Below w.heap.size w w7) := HB6.out.grown hg7 HB6.out.size (fun g hg => (HO6.out.lt g hg).1)
      have HO7 : Hid (w7.ownsRow w.heap.size 5 1 v7 (lbytes ⟨1, c, h, sl s⟩).length (bv (lbytes ⟨1, c, h, sl s⟩))) := by
        show World.ownsRow _ _ _ _ _ _ _
        rw [HBY.out]
        have e : (1 :: digs 9 c ++ rw3).length = 1 + (digs 9 c).length + rw3.length := by simp; omega
        rw [e]
        exact ho7
      clear ho7 hg7 HO6 HD6 HB6
      go_wp2_with fail
      go_ret2
      exact ⟨_, rfl, HO7.out, HB7.out⟩
  · rw [if_neg hl, if_neg hl]
    have HLK := hide hl
    clear hl
    go_enter Tryd.func35, Tryd.ntmps35
    go_wp2_with fail
    generalize w.alloc (.cells #[.int .i64 v, .int .u64 (c : Nat), .int .u64 (h : Nat), .string s] 35) = w0 at *
    refine (refCheck_any w0 v c h s HH.out hs).mono ?_
    rintro e w1 ⟨rfl, hb1⟩
    rw [if_neg HLK.out]
    have HB1 : Hid (Below w.heap.size w w1) := HB.out.trans (hb1.mono HB.out.size)
    clear hb1
    go_wp2_with fail
    go_ret2
    exact ⟨_, rfl, ⟨rfl, .inl ⟨rfl, rfl⟩⟩, HB1.out⟩
end
section
open Go.RowKit Go
/-- A link as a value. -/
def lkv (l : Lk) : Value := .agg #[.int .i64 l.v, .int .u64 (l.c : Nat), .int .u64 (l.h : Nat), .string (nstr l.d)]
set_option maxRecDepth 1000000 in
theorem refDigest_any (w : World) (n : Nat) : Calls Tryd.prog 83 #[.int .i64 (n : Nat)] w fun e w' => e = .returned (.int .i64 (lerr n : Nat)) ∧ w' = w := by
  have HE : Hid (lerr n = if n = 32 ∨ n = 33 then 42 else 43) := rfl
  by_cases h1 : n = 32
  · subst h1
    go_enter Tryd.func83, Tryd.ntmps83
    go_wp2_with fail
    go_ret
    exact ⟨rfl, rfl⟩
  · have g1 : ((n : Int) == 32) = false := beq_eq_false_iff_ne.2 (by omega)
    by_cases h2 : n = 33
    · subst h2
      go_enter Tryd.func83, Tryd.ntmps83
      go_wp2_with fail
      go_ret
      exact ⟨rfl, rfl⟩
    · have g2 : ((n : Int) == 33) = false := beq_eq_false_iff_ne.2 (by omega)
      have HE2 : Hid (lerr n = 43) := by show _ = _; rw [HE.out, if_neg (by omega)]
      clear HE
      go_enter Tryd.func83, Tryd.ntmps83
      go_wp2_with fail
      go_ret
      exact ⟨by rw [HE2.out]; rfl, rfl⟩
end
section
open Go.RowKit Go
set_option maxRecDepth 1000000 in
/-- b[k:] of bytes. -/
theorem wpList_drop {ops : Array Oper} {rest : List Oper} {o : Oper} {a : Act} {Q : Exit → Act → World → Prop} {w : World} (hgd : o.guard = none) (x y : Nat) (ho : o.op = .slice 47 (.tmp x) (some (.tmp y)) none none)
    (v : Value) (xs : List Nat) (k : Nat) (hx : a.eval (.tmp x) = v) (hy : a.eval (.tmp y) = .int .i64 (k : Nat)) (hb : BSl w v xs) (hk : k ≤ xs.length)
    (h : ∀ ad n c, BSl w (.slice ad n c) (xs.drop k) → n = xs.length - k → wpList Tryd.prog ops Q rest (a.put o.dst (.slice ad n c)) w) : wpList Tryd.prog ops Q (o :: rest) a w := by
  have HB := hide hb
  obtain ⟨⟨ad, cap, rfl, hn, hc⟩, hmax, hby⟩ := hb
  have hcap := hn.1
  have hx2 : a.tmps[x]?.getD undef = .slice ad xs.length cap := by simpa [Act.eval] using hx
  have hy2 : a.tmps[y]?.getD undef = .int .i64 (k : Nat) := by simpa [Act.eval] using hy
  refine wpList_plain hgd fun K hK => ?_
  have HK := hide hK
  have HH := hide h
  obtain ⟨dst, op, ty, pos, after, guard⟩ := o
  simp only at ho hgd
  subst ho
  have hki : (k : Int) ≤ (xs.length : Int) := by omega
  have hkc : (k : Int) ≤ (cap : Int) := by omega
  clear hK h hgd hx hy
  cases ad with
  | none =>
    have hc0 := hn.2 rfl
    have hx0 : xs.length = 0 := by omega
    have hk0 : k = 0 := by omega
    subst hk0
    have hxe : xs = [] := List.eq_nil_of_length_eq_zero hx0
    subst hxe
    subst hc0
    go_simp
    exact HK.out _ _ (HH.out none 0 0 ⟨⟨none, 0, rfl, ⟨Nat.le_refl _, fun _ => rfl⟩, .inl rfl⟩, by simp, by simp⟩ rfl)
  | some ad =>
    have HC := hide hc
    clear hc hn
    by_cases hkk : k = cap
    · have hxk : xs.length = k := by omega
      have hdr : xs.drop k = [] := List.drop_of_length_le (by omega)
      subst hkk
      rw [hxk] at hx2 hki
      go_simp
      exact HK.out _ _ (HH.out (some ad) 0 0 (by rw [hdr]; exact ⟨⟨some ad, 0, rfl, ⟨Nat.le_refl _, fun e => by cases e⟩, .inl rfl⟩, by simp, by simp⟩) (by omega))
    · have hkl : (k : Int) < (cap : Int) := by omega
      have hkk2 : ¬ cap = k := fun e => hkk e.symm
      go_simp
      refine HK.out _ _ (HH.out (some (ad.add k)) (xs.length - k) (cap - k) ?_ rfl)
      have hlen : (xs.drop k).length = xs.length - k := List.length_drop
      refine ⟨⟨some (ad.add k), cap - k, by rw [hlen], ⟨by rw [hlen]; omega, fun e => by cases e⟩, ?_⟩, by rw [hlen]; omega, fun z hz => hby z (List.mem_of_mem_drop hz)⟩
      rcases HC.out with hx0 | ⟨b, off, e, hcell⟩
      · left
        rw [hx0]
        simp
      · right
        injection e with e
        subst e
        have hadd : (⟨b, off, none⟩ : Addr).add k = ⟨b, off + k, none⟩ := by unfold Addr.add; split <;> simp_all
        rw [hadd]
        refine ⟨b, off + k, rfl, fun j hj => ?_⟩
        rw [hlen] at hj
        have h2 := hcell (k + j) (by omega)
        rw [← Nat.add_assoc] at h2
        rw [h2]
        simp [List.getD, List.getElem?_drop]
end
section
open Go.RowKit Go
/-- No link, as cells. -/
def zlk : Array Value := #[.int .i64 0, .int .u64 0, .int .u64 0, .string ⟨#[]⟩]
theorem info61 : (Tryd.prog.info? 35).map (·.size) = some 4 := by kernel_rfl
/-- What First has in hand: the result's block and the link's. -/
structure Fq (w wx : World) (R L : Nat) (lv : Array Value) : Prop where
  r : wx.heap[R]? = some (.cells zlk 35 (0, 0))
  l : wx.heap[L]? = some (.cells lv 35 (0, 0))
  b : Below w.heap.size w wx
  rb : w.heap.size ≤ R
  lb : w.heap.size ≤ L
  ne : R ≠ L
theorem Fq.below {w wx wy : World} {R L : Nat} {lv : Array Value} (h : Fq w wx R L lv) (hb : Below wx.heap.size wx wy) : Fq w wy R L lv :=
  ⟨(hb.block R (blk_lt h.r)).trans h.r, (hb.block L (blk_lt h.l)).trans h.l, h.b.trans (hb.mono h.b.size), h.rb, h.lb, h.ne⟩
theorem Fq.set {w wx : World} {R L : Nat} {lv : Array Value} (h : Fq w wx R L lv) (j : Nat) (v : Value) : Fq w (wx.setCell ⟨L, j, none⟩ v) R L (lv.setIfInBounds j v) := by
  have hk : Kp (fun q => q = L) wx (wx.setCell ⟨L, j, none⟩ v) := (Kp.refl _ _).setCell _ _ (fun _ => rfl)
  have lb := h.lb
  exact ⟨(hk.block R (blk_lt h.r) h.ne).trans h.r, blk_set j v h.l, h.b.trans (hk.below h.b.size (fun q e => by omega)), h.rb, h.lb, h.ne⟩
theorem results_c3 {fn : Func} {p u q : Tmp} {ty : TypeId} (h : fn.results = #[.cell p ty, .tmp u, .tmp q]) (tmps : Array Value) (P : Program) (w : World) :
    (results fn tmps).run P w = ((asAddr (tmps.getD p undef)).run P w).andThen fun a w₁ => ((loadVar ty a).run P w₁).andThen fun v w₂ => .ok (.tuple #[v, tmps.getD u undef, tmps.getD q undef]) w₂ := by
  simp only [results, h]
  simp [Sem.run_bind, Result.andThen]
/-- First's end. -/
theorem first_end {wx : World} {R : Nat} {cs : Array Value} {x y : Value} {tmps : Array Value} (hr : wx.heap[R]? = some (.cells cs 35 (0, 0))) (hs : cs.size = 4) (hp : tmps.getD 2 undef = .pointer (some ⟨R, 0, none⟩)) (hx : tmps.getD 3 undef = x) (hy : tmps.getD 4 undef = y) :
    (results Tryd.f66 tmps).run Tryd.prog wx = .ok (.tuple #[.agg cs, x, y]) wx := by
  refine (results_c3 rfl _ _ _).trans ?_
  rw [hp, hx, hy]
  have h1 := run_loadVar_row (P := Tryd.prog) wx R 35 35 cs (0, 0) _ hr Tryd.underlying35 rfl (by rw [hs]; exact info61)
  simp [asAddr, h1, Result.andThen]

/-- No link is laid where none is. -/
theorem wpList_zero {ops : Array Oper} {rest : List Oper} {o : Oper} {a : Act} {Q : Exit → Act → World → Prop} {w : World} {p x : Operand} (hgd : o.guard = none) (ho : o.op = .store 35 p x) (g : Nat)
    (hp : a.eval p = .pointer (some ⟨g, 0, none⟩)) (hx : a.eval x = .agg zlk) (hg : w.heap[g]? = some (.cells zlk 35 (0, 0))) (h : wpList Tryd.prog ops Q rest (a.put o.dst undef) w) : wpList Tryd.prog ops Q (o :: rest) a w := by
  refine wpList_storeRow hgd ho g zlk zlk 35 hp hx hg info61 rfl (by kernel_rfl) ?_
  rw [setRow_self w g zlk 35 (0, 0) hg]
  exact h

set_option maxRecDepth 1000000 in
set_option maxHeartbeats 1000000 in
theorem lFirst_none (w : World) (a : Option Addr) (cap : Nat) (hb : BSl w (.slice a 0 cap) []) :
    Calls Tryd.prog 66 #[.slice a 0 cap] w fun e w' => e = .returned (.tuple #[.agg zlk, .int .i64 0, .int .i64 42]) ∧ Below w.heap.size w w' := by
  have HB := hide hb
  have HN : Hid (dnum [] = (0, 0, 32)) := rfl
  have HF0 : Hid (Fq w ((w.alloc (.cells zlk 35)).alloc (.cells #[.int .i64 0, .int .u64 112, .int .u64 0, .string ⟨#[]⟩] 35)) w.heap.size (w.heap.size + 1) #[.int .i64 0, .int .u64 112, .int .u64 0, .string ⟨#[]⟩]) := by
    have h1 := heap_alloc_new w (.cells zlk 35)
    have h2 := heap_alloc_new (w.alloc (.cells zlk 35)) (.cells #[.int .i64 0, .int .u64 112, .int .u64 0, .string ⟨#[]⟩] 35)
    have e : (w.alloc (.cells zlk 35)).heap.size = w.heap.size + 1 := by simp
    rw [e] at h2
    exact ⟨blk_alloc _ h1, h2, (below_alloc4 w _).trans ((below_alloc4 _ _).mono (by simp)), by omega, by omega, by omega⟩
  unfold zlk at HF0
  go_enter Tryd.func66, Tryd.ntmps66
  go_wp2_with fail
  generalize (w.alloc (.cells #[.int .i64 0, .int .u64 0, .int .u64 0, .string ⟨#[]⟩] 35)).alloc (.cells #[.int .i64 0, .int .u64 112, .int .u64 0, .string ⟨#[]⟩] 35) = w0 at *
  refine (refNumber_any w0 _ [] (HB.out.move (keep_below HF0.out.b))).mono ?_
  rintro e w1 ⟨rfl, hk1⟩
  have HF1 := hide (HF0.out.below (hk1.below (Nat.le_refl _) (fun _ h => h.elim)))
  have HR1 := hide HF1.out.r
  clear hk1
  rw [HN.out]
  simp only [dnumR]
  go_wp2_with (refine wpList_zero rfl rfl w.heap.size rfl rfl HR1.out ?_)
  exact bodyPost_ret (first_end HR1.out rfl rfl rfl rfl) rfl ⟨rfl, HF1.out.b⟩
end
end Go.Proofs.YtidglddjinfncaaDoor

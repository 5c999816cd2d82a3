import Derived.Test.YtnkghcndaafmoaaGreatDoorJqo
import Derived.Test.YtnkghcndaafmoaaGreatDoorJql
namespace Go.Proofs.YtnkghcndaafmoaaGreatDoor
section
open Go.RowKit Go
structure HB (w : World) (g : Nat) (s r : List Nat) (c : Nat) : Prop where
  b : w.heap[g]? = some (.cells (hc s r c).toArray 288 (0, 0))
  s8 : s.length = 8
  sw : ∀ x ∈ s, x < 4294967296
  r64 : r.length = 64
  rb : ∀ x ∈ r, x < 256
theorem tl_byte {xs : List Nat} (h : ∀ x ∈ xs, x < 256) : ∀ x ∈ tl xs, x < 256 := fun x hx => h x (List.mem_of_mem_drop hx)
theorem fillz_byte {xs : List Nat} (h : ∀ x ∈ xs, x < 256) : ∀ x ∈ fillz xs, x < 256 := fun x hx => by
  rcases List.mem_append.1 hx with hx | hx
  · exact h x hx
  · rw [List.eq_of_mem_replicate hx]; decide
theorem HS.hb {w : World} {g : Nat} {xs : List Nat} (h : HS w g xs) (hx : ∀ x ∈ xs, x < 256) : HB w g (abs xs hh (xs.length / 64)) (fillz (tl xs)) xs.length :=
  ⟨h.b, abs_len _ _ rfl _, abs_lt _ _ hh_lt _, fillz_len (by rw [tl_len]; omega), fillz_byte (tl_byte hx)⟩

theorem bsl_nil (w : World) (p : Addr) (c : Nat) : BSl w (.slice (some p) 0 c) [] := ⟨⟨_, c, rfl, ⟨Nat.zero_le _, fun h => by cases h⟩, .inl rfl⟩, by simp, by simp⟩
theorem Kp.bsl0 {S : Nat → Prop} {w w' : World} (h : Kp S w w') {v : Value} {xs : List Nat} (hb : BSl w v xs) (hs : xs ≠ [] → ∀ k, v.ownBlock = some k → ¬ S k) : BSl w' v xs := by
  by_cases h0 : xs = []
  · subst h0
    obtain ⟨⟨a, cap, rfl, hn, _⟩, hmax, hy⟩ := hb
    exact ⟨⟨a, cap, rfl, hn, .inl rfl⟩, hmax, hy⟩
  · exact h.bsl hb (hs h0)
theorem drop_ne {l : List Nat} {a b : Nat} (hab : a ≤ b) (h : l.drop b ≠ []) : l.drop a ≠ [] := fun e => h (by
  have := List.drop_eq_nil_iff.1 e
  exact List.drop_eq_nil_of_le (by omega))
theorem fillz_splice (l ys : List Nat) (H : Nat) (h : l.length = H) (hf : H + ys.length ≤ 64) : fillz (l ++ ys) = splice (fillz l) H ys := by
  subst h
  unfold fillz splice
  rw [List.take_left' rfl, List.drop_append, List.drop_eq_nil_of_le (by omega), List.nil_append, List.drop_replicate, List.append_assoc]
  have e : 64 - (l ++ ys).length = 64 - l.length - (l.length + ys.length - l.length) := by simp; omega
  rw [e]
theorem fillz_full (l ys : List Nat) (H : Nat) (h : l.length = H) (hf : H + ys.length = 64) : splice (fillz l) H ys = l ++ ys := by
  rw [← fillz_splice l ys H h (by omega)]
  unfold fillz
  have e : 64 - (l ++ ys).length = 0 := by simp; omega
  rw [e]
  simp

theorem fillz_end (R T : List Nat) (L : Nat) (hT : T.length = L) (hR : R.length = 64) (hL : L ≤ 64) : splice (splice R 0 T) L (List.replicate (64 - L) 0) = fillz T := by
  subst hT
  unfold splice fillz
  simp only [List.take_zero, List.nil_append, List.length_replicate, List.take_left' rfl]
  rw [List.drop_eq_nil_of_le (by simp; omega)]
  simp

set_option maxRecDepth 1000000 in
set_option maxHeartbeats 1000000 in
theorem write_any (w : World) (g : Nat) (v : Value) (xs ys : List Nat) (hcb : Cb w) (hg0 : 1 < g) (hh0 : HS w g xs) (hx : ∀ x ∈ xs, x < 256) (hsl : BSl w v ys) (hne : ys ≠ [] → v.ownBlock ≠ some g) (hlen : xs.length + ys.length ≤ 140737488355328) :
    Calls Tryz.prog 141 #[.pointer (some ⟨g, 0, none⟩), v] w fun e w' => e = .returned (.tuple #[]) ∧ HS w' g (xs ++ ys) ∧ Kp (fun q => q = g) w w' := by
  have HCB := hide hcb
  have HH := hide (hh0.hb hx)
  have HXB := hide hx
  have HSL := hide hsl
  have HNE := hide hne
  have HG0 := hide hg0
  obtain ⟨⟨a, cap, rfl, hn, hc⟩, hmax, hb⟩ := hsl
  clear hn hc hb hcb hh0 hne hmax hx hg0
  have c0 : w.cell? ⟨g, 72, none⟩ = some (.int .u64 (xs.length : Nat)) := blk_cell HH.out.b (hc_getc HH.out.s8 HH.out.r64)
  have f0 := blk_frozen 72 HH.out.b
  go_enter Tryz.func141, Tryz.ntmps141
  go_upto_if 24 with fail
  have HZ : Hid ((xs ++ ys).length = xs.length + ys.length) := List.length_append
  have ez : (xs.length : Int) + (ys.length : Int) = ((xs.length + ys.length : Nat) : Int) := by omega
  rw [ez]
  have HB1 : Hid (HB (w.setCell ⟨g, 72, none⟩ (.int .u64 ((xs.length + ys.length : Nat) : Int))) g (abs xs hh (xs.length / 64)) (fillz (tl xs)) (xs.length + ys.length)) := by
    have h := HH.out
    refine ⟨?_, h.s8, h.sw, h.r64, h.rb⟩
    rw [← hc_count h.s8 h.r64 (c := xs.length)]
    exact blk_set 72 _ h.b
  have HK1 : Hid (Kp (fun q => q = g) w (w.setCell ⟨g, 72, none⟩ (.int .u64 ((xs.length + ys.length : Nat) : Int)))) := (Kp.refl _ _).setCell _ _ (fun _ => rfl)
  have HNB : Hid (ys ≠ [] → ∀ k, (Value.slice a ys.length cap).ownBlock = some k → ¬ k = g) := fun h0 k hk e => HNE.out h0 (by rw [hk, e])
  have HS1 := hide (HK1.out.bsl0 HSL.out HNB.out)
  clear ez c0 f0
  generalize w.setCell ⟨g, 72, none⟩ (.int .u64 ((xs.length + ys.length : Nat) : Int)) = w1 at *
  generalize hZ : xs.length + ys.length = Z at *
  have hHe : (xs.length : Int) % 64 = ((xs.length % 64 : Nat) : Int) := by omega
  rw [hHe]
  clear hHe
  have HTL := hide (tl_len xs)
  have HTT : Hid (tl xs = xs.drop (64 * (xs.length / 64))) := rfl
  have hH64 : xs.length % 64 < 64 := Nat.mod_lt _ (by decide)
  have HXE : Hid (xs.length = 64 * (xs.length / 64) + xs.length % 64) := by show _ = _; omega
  have HZX : Hid (xs.length + ys.length = Z) := hZ
  clear hZ
  generalize xs.length % 64 = H at *
  generalize xs.length / 64 = q at *
  have hZl : Z ≤ 140737488355328 := hlen
  go_cut [1] (fun u wx => ∃ (m : Nat) (R : List Nat), 64 * m ≤ Z ∧ Hid (BSl wx u ((xs ++ ys).drop (64 * m))) ∧ Hid ((xs ++ ys).drop (64 * m) ≠ [] → u.ownBlock ≠ some g) ∧ Hid (HB wx g (abs (xs ++ ys) hh m) R Z) ∧ Hid (Kp (fun q => q = g) w wx))
  case first => as_aux_lemma =>
    by_cases hH : H = 0
    · have hH' : ¬ (0 : Int) < (H : Int) := by omega
      have HHH := hide hH
      clear hH
      go_wp2_with fail
      go_meet
      case rel =>
        have e := HXE.out
        have hz := HZX.out
        have ed : (xs ++ ys).drop (64 * q) = ys := by rw [List.drop_append_of_le_length (by omega), List.drop_eq_nil_of_le (by have := HHH.out; omega), List.nil_append]
        refine ⟨q, fillz (tl xs), by have := HHH.out; omega, ?_, ?_, ?_, HK1⟩
        · show BSl _ _ _
          rw [ed]
          exact HS1.out
        · intro h
          rw [ed] at h
          exact HNE.out h
        · show HB _ _ _ _ _
          rw [abs_app xs ys hh q (by omega)]
          exact HB1.out
    · have hH' : (0 : Int) < (H : Int) := by omega
      have hH6 : (H : Int) ≤ 64 := by omega
      have hHn : ¬ 64 = H := by omega
      have HH0 := hide hH
      clear hH
      by_cases hsh : H + ys.length < 64
      · have hsh' : (H : Int) + (ys.length : Int) < 64 := by omega
        have HTK : Hid (8 + H + ys.length ≤ (hc (abs xs hh q) (fillz (tl xs)) Z).length) := by
          show _ ≤ _
          rw [hc_len HB1.out.s8 HB1.out.r64]
          omega
        have HYT : Hid (ys = ys.take (64 - H)) := by show _ = _; rw [List.take_of_length_le (by omega)]
        have HSH := hide hsh
        clear hsh
        go_wp2_with (refine wpList_copyPart rfl _ _ rfl g (8 + H) (64 - H) (64 - H) rfl ys _ rfl HS1.out _ _ HB1.out.b ys ys.length rfl HYT.out HTK.out ?_; intro w2 hb2 hk2)
        refine bodyPost_ret (results_none rfl _ _ _) rfl ?_
        refine ⟨rfl, ⟨?_⟩, HK1.out.trans hk2.out (fun _ _ h => h)⟩
        have h2 := hb2.out
        have hx := HXE.out
        have hz := HZX.out
        have hsh2 := HSH.out
        rw [hc_rest HB1.out.s8 (by rw [fillz_len (by rw [HTL.out]; omega)]; omega)] at h2
        have e1 : (xs ++ ys).length / 64 = q := by rw [HZ.out]; omega
        have e2 : abs (xs ++ ys) hh q = abs xs hh q := abs_app xs ys hh q (by omega)
        have e3 : fillz (tl (xs ++ ys)) = splice (fillz (tl xs)) H ys := by
          have e4 : tl (xs ++ ys) = tl xs ++ ys := by
            rw [HTT.out]
            unfold tl
            rw [e1, List.drop_append_of_le_length (by omega)]
          rw [e4]
          exact fillz_splice (tl xs) ys H HTL.out (by omega)
        rw [e1, e2, e3, HZ.out]
        exact h2
      · obtain ⟨N, hN⟩ : ∃ N, H + N = 64 := ⟨64 - H, by omega⟩
        have hNH : 64 - H = N := by omega
        have hsh' : ¬ (H : Int) + (N : Int) < 64 := by omega
        have hN6 : N < 64 := by have := HH0.out; omega
        have HYL : Hid ((ys.take N).length = N) := by show _ = _; simp; omega
        have HTK : Hid (8 + H + (ys.take N).length ≤ (hc (abs xs hh q) (fillz (tl xs)) Z).length) := by
          show _ ≤ _
          rw [hc_len HB1.out.s8 HB1.out.r64, HYL.out]
          omega
        have HYN : Hid (N ≤ ys.length) := by show _ ≤ _; omega
        have HHN := hide hN
        have HSE : Hid (splice (fillz (tl xs)) H (ys.take N) = ((xs ++ ys).drop (64 * q)).take 64) := by
          have hx := HXE.out
          show _ = _
          have e5 : (tl xs).take 64 = tl xs := List.take_of_length_le (by rw [HTL.out]; omega)
          rw [List.drop_append_of_le_length (by omega), ← HTT.out, List.take_append, HTL.out, hNH, e5]
          exact fillz_full (tl xs) (ys.take N) H HTL.out (by rw [HYL.out]; omega)
        clear hsh hN
        go_wp2_with (refine wpList_copyPart rfl _ _ rfl g (8 + H) N N rfl ys _ rfl HS1.out _ _ HB1.out.b (ys.take N) N HYL.out rfl HTK.out ?_; intro w2 hb2 hk2)
        have HB2 : Hid (HB w2 g (abs xs hh q) (((xs ++ ys).drop (64 * q)).take 64) Z) := by
          have h2 := hb2.out
          rw [hc_rest HB1.out.s8 (by rw [fillz_len (by rw [HTL.out]; omega), HYL.out]; have := HHN.out; omega), HSE.out] at h2
          refine ⟨h2, HB1.out.s8, HB1.out.sw, ?_, ?_⟩
          · have := HYN.out
            have := HHN.out
            have := HXE.out
            simp
            omega
          · intro x hx
            rcases List.mem_append.1 (List.mem_of_mem_drop (List.mem_of_mem_take hx)) with hx | hx
            · exact HXB.out x hx
            · exact HSL.out.byte x hx
        have HK2 : Hid (Kp (fun q => q = g) w w2) := HK1.out.trans hk2.out (fun _ _ h => h)
        have HS2 := hide (hk2.out.bsl0 HS1.out HNB.out)
        have HCB2 := hide (HCB.out.kp HK2.out (fun e => by have := HG0.out; omega))
        have HAE : Hid (abs xs hh q = abs (xs ++ ys) hh q) := (abs_app xs ys hh q (by have := HXE.out; omega)).symm
        have HCM : Hid (cmp (((xs ++ ys).drop (64 * q)).take 64) 0 (abs xs hh q) = abs (xs ++ ys) hh (q + 1)) := by
          show _ = _
          rw [HAE.out, cmp_take]
          rfl
        clear hb2 hk2 HB1 HK1 HS1 HTK HSE HAE
        generalize ((xs ++ ys).drop (64 * q)).take 64 = P at *
        generalize abs xs hh q = S at *
        have HLD : Hid (∀ w, (∃ t : Ext w2, w = t.w') → ∀ j v, (wv S)[j]? = some v → w.cell? ⟨g, 0 + j, none⟩ = some v) := by
          rintro w' ⟨t, rfl⟩ j v hv
          rw [Nat.zero_add]
          exact Ext.cell (blk_cell HB2.out.b (hc_gets hv)) t
        have HI8 : Hid ((Tryz.prog.info? 182).map (·.size) = some (wv S).length) := by
          have h := info8w S HB2.out.s8
          show _ = _
          simpa using h
        have HCH : Hid (∀ t : Ext w2, Calls Tryz.prog 206 #[.agg (wv S).toArray, .slice (some ⟨g, 8, none⟩) 64 64] t.w' fun e w'' => e = .returned (.agg (wv (cmp P 0 S)).toArray) ∧ ∃ t' : Ext w2, w'' = t'.w') := fun t =>
          Calls.ext_below (changed_any t.w' _ P S (HCB2.out.below t.h) (Ext.bsl (bsl_rest HB2.out.b HB2.out.s8 HB2.out.r64 HB2.out.rb) t) HB2.out.r64 HB2.out.s8 HB2.out.sw)
        refine region_ext_tail 10 (by kernel_rfl) (by kernel_rfl) ?_
        simp only [List.take_succ_cons, List.take_zero, List.drop_succ_cons, List.drop_zero]
        repeat (
          refine wpQuiet_step (fun K hK => ?_)
          first
            | (refine qstep_load rfl rfl g 0 (wv S) rfl Tryz.underlying182 HI8.out HLD.out (hK _ ?_); clear hK K)
            | (go_simp
               first
                 | (refine hK _ ?_; clear hK K)
                 | (apply Exists.intro
                    refine ⟨fun _ => ?_, hK _ ?_⟩
                    (go_at_call 206; exact HCH.out _)
                    clear hK K)))
        refine wpQuiet_nil ?_
        rintro _ ⟨tq, rfl⟩
        have HBT := hide ((tq.h.block g (blk_lt HB2.out.b)).trans HB2.out.b)
        have HC8 := hide (cmp_len P 0 S HB2.out.s8)
        have HI9 : Hid ((Tryz.prog.info? 182).map (·.size) = some (wv (cmp P 0 S)).length) := by
          have h := info8w (cmp P 0 S) HC8.out
          show _ = _
          simpa using h
        have HF9 : Hid (0 + (wv (cmp P 0 S)).length ≤ (hc S P Z).length) := by
          show _ ≤ _
          rw [hc_len HB2.out.s8 HB2.out.r64, wv_len, HC8.out]
          decide
        have HKT : Hid (Kp (fun q => q = g) w tq.w') := HK2.out.trans (Kp.of_below tq.h) (fun _ _ h => h)
        have HST : Hid (BSl tq.w' (.slice a ys.length cap) ys) := Ext.bsl HS2.out tq
        generalize tq.w' = wt at *
        have hbt := HST.out
        obtain ⟨⟨a', cap', hv, hn, hc⟩, hmax, hb⟩ := hbt
        injection hv with hv1 hv2 hv3
        subst hv1
        subst hv3
        rcases hc with hc | ⟨bb, off, rfl, hc⟩
        · exfalso
          have h1 := HYN.out
          have h2 := HHN.out
          rw [hc] at h1
          simp at h1
          omega
        have hcl : (ys.length : Int) ≤ (cap : Int) := by have := hn.1; omega
        have hNl : (N : Int) ≤ (ys.length : Int) := by have := HYN.out; omega
        clear hn hc hmax hb hv2
        have HW3 : Hid (∀ w3, w3.heap[g]? = some (.cells (splice (hc S P Z) 0 (wv (cmp P 0 S))).toArray 288 (0, 0)) → HB w3 g (abs (xs ++ ys) hh (q + 1)) P Z) := by
          intro w3 h3
          rw [hc_state HB2.out.s8 HC8.out, HCM.out] at h3
          refine ⟨h3, ?_, abs_lt _ _ hh_lt _, HB2.out.r64, HB2.out.rb⟩
          exact abs_len _ _ rfl _
        have HDR : Hid ((xs ++ ys).drop (64 * (q + 1)) = ys.drop N) := by
          show _ = _
          have h1 := HXE.out
          have h2 := HHN.out
          rw [List.drop_append, List.drop_eq_nil_of_le (by omega), List.nil_append]
          congr 1
          omega
        have HM1 : Hid (64 * (q + 1) ≤ Z) := by
          have h1 := HXE.out
          have h2 := HHN.out
          have h3 := HZX.out
          have h4 := HYN.out
          show _ ≤ _
          omega
        by_cases hcp : cap = N
        · have hyN : (N : Int) = (ys.length : Int) := by omega
          go_wp2_with (refine wpList_storePart rfl rfl g 0 _ (wv (cmp P 0 S)) _ rfl rfl HBT.out HI9.out HF9.out (wv_one _) ?_; intro w3 hb3 hk3)
          go_meet
          case rel =>
            refine ⟨q + 1, P, HM1.out, ?_, fun h0 h => HNE.out (by rw [HDR.out] at h0; exact drop_ne (l := ys) (Nat.zero_le _) h0) h, HW3.out w3 hb3.out, HKT.out.trans hk3.out (fun _ _ h => h)⟩
            show BSl _ _ _
            rw [HDR.out, List.drop_eq_nil_of_le (by omega)]
            exact bsl_nil _ _ _
        · go_wp2_with (refine wpList_storePart rfl rfl g 0 _ (wv (cmp P 0 S)) _ rfl rfl HBT.out HI9.out HF9.out (wv_one _) ?_; intro w3 hb3 hk3)
          go_meet
          case rel =>
            refine ⟨q + 1, P, HM1.out, ?_, fun h0 h => HNE.out (by rw [HDR.out] at h0; exact drop_ne (l := ys) (Nat.zero_le _) h0) h, HW3.out w3 hb3.out, HKT.out.trans hk3.out (fun _ _ h => h)⟩
            show BSl _ _ _
            rw [HDR.out]
            exact (hk3.out.bsl0 HST.out HNB.out).drop N (by have := HYN.out; omega)
  case rest => as_aux_lemma =>
    clear HB1 HK1 HS1 HSL HNE HNB
    go_wp2_with fail
    go_loopw [1] (fun u wx => ∃ (m : Nat) (R : List Nat), 64 * m ≤ Z ∧ lenOf u = Z - 64 * m ∧ Hid (BSl wx u ((xs ++ ys).drop (64 * m))) ∧ Hid ((xs ++ ys).drop (64 * m) ≠ [] → u.ownBlock ≠ some g) ∧ Hid (HB wx g (abs (xs ++ ys) hh m) R Z) ∧ Hid (Kp (fun q => q = g) w wx)) (fun u _ => lenOf u)
    case atStart =>
      obtain ⟨m, R, hm, hb, hne, hB, hk⟩ := hcut
      refine ⟨m, R, hm, ?_, hb, hne, hB, hk⟩
      obtain ⟨⟨a', cap', hv, hn, hc⟩, hmax, hby⟩ := hb.out
      rw [hv]
      simp only [lenOf, List.length_drop, HZ.out]
    case round =>
      obtain ⟨m, R, hm, hlu, HSL, HNE, HB1, HK1⟩ := hrel
      clear hcut
      have hbt := HSL.out
      obtain ⟨⟨a1, cap1, hv, hn, hc⟩, hmax, hb⟩ := hbt
      subst hv
      have hLL : ((xs ++ ys).drop (64 * m)).length = Z - 64 * m := by rw [List.length_drop, HZ.out]
      rw [hLL] at HSL HNE hn hmax hlu ⊢
      obtain ⟨L, hL⟩ : ∃ L, Z - 64 * m = L := ⟨_, rfl⟩
      rw [hL] at HSL HNE hn hmax hlu hLL ⊢
      have HLL := hide hLL
      have HLZ := hide hL
      clear hLL hL hlu
      by_cases h64 : 64 ≤ L
      · have h64' : (64 : Int) ≤ (L : Int) := by omega
        rcases hc with hc | ⟨b1, o1, rfl, hc⟩
        · exfalso
          have h1 := HLL.out
          rw [hc] at h1
          simp at h1
          omega
        have hcl : (L : Int) ≤ (cap1 : Int) := by have := hn.1; omega
        have hc64 : (64 : Int) ≤ (cap1 : Int) := by omega
        clear hn hc hmax hb
        have HNB : Hid ((xs ++ ys).drop (64 * m) ≠ [] → ∀ k, (Value.slice (some ⟨b1, o1, none⟩) L cap1).ownBlock = some k → ¬ k = g) := fun h0 k hk e => HNE.out h0 (by rw [hk, e])
        have HCB2 := hide (HCB.out.kp HK1.out (fun e => by have := HG0.out; omega))
        have HCM : Hid (cmp (((xs ++ ys).drop (64 * m)).take 64) 0 (abs (xs ++ ys) hh m) = abs (xs ++ ys) hh (m + 1)) := by
          show _ = _
          rw [cmp_take]
          rfl
        have HPL : Hid ((((xs ++ ys).drop (64 * m)).take 64).length = 64) := by
          show _ = _
          rw [List.length_take, HLL.out]
          omega
        have HPS : Hid (BSl wr (.slice (some ⟨b1, o1, none⟩) 64 64) (((xs ++ ys).drop (64 * m)).take 64)) := HSL.out.take3 64 (by rw [HLL.out]; omega)
        have HD64 : Hid (((xs ++ ys).drop (64 * m)).drop 64 = (xs ++ ys).drop (64 * (m + 1))) := by
          show _ = _
          rw [List.drop_drop]
          congr 1
        generalize ((xs ++ ys).drop (64 * m)).take 64 = P at *
        generalize abs (xs ++ ys) hh m = S at *
        have HLD : Hid (∀ w, (∃ t : Ext wr, w = t.w') → ∀ j v, (wv S)[j]? = some v → w.cell? ⟨g, 0 + j, none⟩ = some v) := by
          rintro w' ⟨t, rfl⟩ j v hv
          rw [Nat.zero_add]
          exact Ext.cell (blk_cell HB1.out.b (hc_gets hv)) t
        have HI8 : Hid ((Tryz.prog.info? 182).map (·.size) = some (wv S).length) := by
          have h := info8w S HB1.out.s8
          show _ = _
          simpa using h
        have HCH : Hid (∀ t : Ext wr, Calls Tryz.prog 206 #[.agg (wv S).toArray, .slice (some ⟨b1, o1, none⟩) 64 64] t.w' fun e w'' => e = .returned (.agg (wv (cmp P 0 S)).toArray) ∧ ∃ t' : Ext wr, w'' = t'.w') := fun t =>
          Calls.ext_below (changed_any t.w' _ P S (HCB2.out.below t.h) (Ext.bsl HPS.out t) HPL.out HB1.out.s8 HB1.out.sw)
        go_wp2_with fail
        refine region_ext_tail 8 (by kernel_rfl) (by kernel_rfl) ?_
        simp only [List.take_succ_cons, List.take_zero, List.drop_succ_cons, List.drop_zero]
        repeat (
          refine wpQuiet_step (fun K hK => ?_)
          first
            | (refine qstep_load rfl rfl g 0 (wv S) rfl Tryz.underlying182 HI8.out HLD.out (hK _ ?_); clear hK K)
            | (go_simp
               first
                 | (refine hK _ ?_; clear hK K)
                 | (apply Exists.intro
                    refine ⟨fun _ => ?_, hK _ ?_⟩
                    (go_at_call 206; exact HCH.out _)
                    clear hK K)))
        refine wpQuiet_nil ?_
        rintro _ ⟨tq, rfl⟩
        have HBT := hide ((tq.h.block g (blk_lt HB1.out.b)).trans HB1.out.b)
        have HC8 := hide (cmp_len P 0 S HB1.out.s8)
        have HI9 : Hid ((Tryz.prog.info? 182).map (·.size) = some (wv (cmp P 0 S)).length) := by
          have h := info8w (cmp P 0 S) HC8.out
          show _ = _
          simpa using h
        have HF9 : Hid (0 + (wv (cmp P 0 S)).length ≤ (hc S R Z).length) := by
          show _ ≤ _
          rw [hc_len HB1.out.s8 HB1.out.r64, wv_len, HC8.out]
          decide
        have HKT : Hid (Kp (fun q => q = g) w tq.w') := HK1.out.trans (Kp.of_below tq.h) (fun _ _ h => h)
        have HST := hide (Ext.bsl HSL.out tq)
        generalize tq.w' = wt at *
        have HW3 : Hid (∀ w3, w3.heap[g]? = some (.cells (splice (hc S R Z) 0 (wv (cmp P 0 S))).toArray 288 (0, 0)) → HB w3 g (abs (xs ++ ys) hh (m + 1)) R Z) := by
          intro w3 h3
          rw [hc_state HB1.out.s8 HC8.out, HCM.out] at h3
          refine ⟨h3, ?_, abs_lt _ _ hh_lt _, HB1.out.r64, HB1.out.rb⟩
          exact abs_len _ _ rfl _
        have HM1 : Hid (64 * (m + 1) ≤ Z) := by
          have h1 := HLZ.out
          show _ ≤ _
          omega
        by_cases hcp : cap1 = 64
        · have hl64 : L = 64 := by omega
          subst hl64
          subst hcp
          go_wp2_with (refine wpList_storePart rfl rfl g 0 _ (wv (cmp P 0 S)) _ rfl rfl HBT.out HI9.out HF9.out (wv_one _) ?_; intro w3 hb3 hk3)
          go_roundw
          case rel =>
            refine ⟨m + 1, R, HM1.out, by have := HLZ.out; simp only [lenOf]; omega, ?_, fun h0 h => HNE.out (drop_ne (by omega) h0) h, HW3.out w3 hb3.out, HKT.out.trans hk3.out (fun _ _ h => h)⟩
            show BSl _ _ _
            rw [← HD64.out, List.drop_eq_nil_of_le (by rw [HLL.out]; exact Nat.le_refl _)]
            exact bsl_nil _ _ _
          case measure => simp [lenOf]
        · have hcp' : ¬ 64 = cap1 := fun e => hcp e.symm
          go_wp2_with (refine wpList_storePart rfl rfl g 0 _ (wv (cmp P 0 S)) _ rfl rfl HBT.out HI9.out HF9.out (wv_one _) ?_; intro w3 hb3 hk3)
          go_roundw
          case rel =>
            refine ⟨m + 1, R, HM1.out, by have := HLZ.out; simp only [lenOf]; omega, ?_, fun h0 h => HNE.out (drop_ne (by omega) h0) h, HW3.out w3 hb3.out, HKT.out.trans hk3.out (fun _ _ h => h)⟩
            show BSl _ _ _
            rw [← HD64.out]
            exact (hk3.out.bsl0 HST.out HNB.out).drop 64 (by rw [HLL.out]; omega)
          case measure => simp [lenOf]; omega
      · have h64' : ¬ (64 : Int) ≤ (L : Int) := by omega
        have hL6 : (L : Int) ≤ 64 := by omega
        have hLn : ¬ 64 = L := by omega
        have HL64 := hide h64
        clear hn hc hmax hb h64
        have hML : (xs ++ ys).length / 64 = m := by have := HLZ.out; have := HZ.out; have := HL64.out; omega
        have HTE : Hid ((xs ++ ys).drop (64 * m) = tl (xs ++ ys)) := by show _ = _; unfold tl; rw [hML]
        have HME := hide hML
        clear hML
        rw [HTE.out] at HSL HLL
        have HF1 : Hid (8 + (tl (xs ++ ys)).length ≤ (hc (abs (xs ++ ys) hh m) R Z).length) := by
          show _ ≤ _
          rw [hc_len HB1.out.s8 HB1.out.r64, HLL.out]
          have := HL64.out
          omega
        have HYT : Hid (tl (xs ++ ys) = (tl (xs ++ ys)).take 64) := by show _ = _; rw [List.take_of_length_le (by rw [HLL.out]; have := HL64.out; omega)]
        go_wp2_with (first
          | (refine wpList_copyPart rfl _ _ rfl g 8 64 64 rfl (tl (xs ++ ys)) _ rfl HSL.out _ _ HB1.out.b (tl (xs ++ ys)) L HLL.out HYT.out HF1.out ?_; intro w2 hb2 hk2; have HB2 := hide hb2; have HK2 := hide hk2)
          | (refine wpList_clearPart rfl _ rfl g (8 + L) (64 - L) (64 - L) rfl ?c1 _ _ HB2.out.out ?c2 ?_; rotate_left; rotate_left; intro w3 hb3 hk3))
        case c1 => have := HL64.out; omega
        case c2 =>
          have h8 := hc_rest (c := Z) (off := 0) (ys := tl (xs ++ ys)) (r := R) HB1.out.s8 (by rw [HLL.out, HB1.out.r64]; have := HL64.out; omega)
          rw [Nat.add_zero] at h8
          rw [h8, hc_len HB1.out.s8 (by rw [length_splice _ _ _ (by rw [HLL.out, HB1.out.r64]; have := HL64.out; omega)]; exact HB1.out.r64)]
          have := HL64.out
          omega
        go_end0
        refine ⟨rfl, ⟨?_⟩, (HK1.out.trans HK2.out.out (fun _ _ h => h)).trans hk3.out (fun _ _ h => h)⟩
        have h3 := hb3.out
        have h8 := hc_rest (c := Z) (off := 0) (ys := tl (xs ++ ys)) (r := R) HB1.out.s8 (by rw [HLL.out, HB1.out.r64]; have := HL64.out; omega)
        rw [Nat.add_zero] at h8
        have hl := HL64.out
        rw [h8, hc_rest HB1.out.s8 (by rw [length_splice _ _ _ (by rw [HLL.out, HB1.out.r64]; omega), HB1.out.r64, List.length_replicate]; omega), fillz_end R _ L HLL.out HB1.out.r64 (by omega)] at h3
        rw [HME.out, HZ.out]
        exact h3
end
section
open Go.RowKit Go
theorem wpList_loadAll {ops : Array Oper} {rest : List Oper} {o : Oper} {a : Act} {Q : Exit → Act → World → Prop} {w : World} {T : TypeId} {p : Operand} (hgd : o.guard = none) (ho : o.op = .load T p) (g : Nat) (cs : Array Value) (t : TypeId) {fs : Array Field}
    (hp : a.eval p = .pointer (some ⟨g, 0, none⟩)) (hg : w.heap[g]? = some (.cells cs t (0, 0))) (hu : Tryz.prog.underlying T = some (.struct fs)) (hi : (Tryz.prog.info? T).map (·.size) = some cs.size)
    (h : wpList Tryz.prog ops Q rest (a.put o.dst (.agg cs)) w) : wpList Tryz.prog ops Q (o :: rest) a w := by
  refine wpList_plain hgd fun K hK => ?_
  unfold Oper.wp execOp
  have hr : (Instr.loadAt T (.pointer (some ⟨g, 0, none⟩))).run Tryz.prog w = .ok (.agg cs) w := by
    simp only [Instr.loadAt, Instr.sureAddr, Sem.run_bind, Sem.run_pure, Result.andThen]
    exact run_loadVar_row (P := Tryz.prog) w g t T cs (0, 0) _ hg hu rfl hi
  simp only [ho, Sem.run_bind, hp, hr, Result.andThen_ok]
  exact hK _ _ h
theorem wpList_loadPart {ops : Array Oper} {rest : List Oper} {o : Oper} {a : Act} {Q : Exit → Act → World → Prop} {w : World} {T e : TypeId} {n : Nat} {p : Operand} (hgd : o.guard = none) (ho : o.op = .load T p) (g off : Nat) (cs : List Value)
    (hp : a.eval p = .pointer (some ⟨g, off, none⟩)) (hu : Tryz.prog.underlying T = some (.array n e)) (hi : (Tryz.prog.info? T).map (·.size) = some cs.length) (hc : ∀ j v, cs[j]? = some v → w.cell? ⟨g, off + j, none⟩ = some v)
    (h : wpList Tryz.prog ops Q rest (a.put o.dst (.agg cs.toArray)) w) : wpList Tryz.prog ops Q (o :: rest) a w := by
  refine wpList_plain hgd fun K hK => ?_
  unfold Oper.wp execOp
  simp only [ho, Sem.run_bind, hp, part_load g off cs hu hi hc, Result.andThen_ok]
  exact hK _ _ h
theorem alloc2_new (w : World) (o1 o2 : Obj) : ((w.alloc o1).alloc o2).heap[w.heap.size + 1]? = some o2 := by
  have h := heap_alloc_new (w.alloc o1) o2
  have e : (w.alloc o1).heap.size = w.heap.size + 1 := by simp
  rwa [e] at h
theorem endg_byte (n : Nat) : ∀ x ∈ endg n, x < 256 := by
  intro x hx
  unfold endg at hx
  rcases List.mem_append.1 hx with hx | hx
  · rcases List.mem_append.1 hx with hx | hx
    · simp at hx; omega
    · rw [List.eq_of_mem_replicate hx]; decide
  · exact beb_byte _ _ _ hx
theorem endg_len (n : Nat) : (endg n).length ≤ 73 := by
  unfold endg
  have := zer_lt n
  simp [beb_len]
  omega
theorem info73 : (Tryz.prog.info? 288).map (·.size) = some 73 := by kernel_rfl
theorem hc_one (s r : List Nat) (c : Nat) : (hc s r c).toArray.all (·.oneCell') = true := by
  rw [Array.all_eq_true_iff_forall_mem]
  intro u hu
  have hu' : u ∈ hc s r c := by simpa using hu
  unfold hc at hu'
  rcases List.mem_append.1 hu' with h | h
  · exact wv_one _ u h
  · rcases List.mem_append.1 h with h | h
    · exact bv_one _ u h
    · simp at h; subst h; rfl
theorem zero73 : Tryz.zeroCells288.size = 73 := by kernel_rfl

set_option maxRecDepth 1000000 in
set_option maxHeartbeats 1000000 in
theorem hsum_any (w : World) (g : Nat) (xs : List Nat) (hcb : Cb w) (hh0 : HS w g xs) (hx : ∀ x ∈ xs, x < 256) (hlen : xs.length ≤ 140737488351232) :
    Calls Tryz.prog 142 #[.pointer (some ⟨g, 0, none⟩)] w fun e w' => e = .returned (.agg (bv (sha xs)).toArray) ∧ Below w.heap.size w w' := by
  have HCB := hide hcb
  have HH := hide hh0
  have HB0 := hide (hh0.hb hx)
  have HXB := hide hx
  have HLE := hide hlen
  clear hcb hh0 hx hlen
  have HP8 := hide HB0.out.s8
  have HP6 := hide HB0.out.r64
  have HB1 : Hid ((w.alloc (.cells (bv (List.replicate 32 0)).toArray 155)).heap[g]? = some (.cells (hc (abs xs hh (xs.length / 64)) (fillz (tl xs)) xs.length).toArray 288 (0, 0))) := blk_alloc _ HB0.out.b
  have HI7 : Hid ((Tryz.prog.info? 288).map (·.size) = some (hc (abs xs hh (xs.length / 64)) (fillz (tl xs)) xs.length).toArray.size) := by
    show _ = _
    rw [List.size_toArray, hc_len HB0.out.s8 HB0.out.r64]
    exact info73
  have HSZ : Hid (Tryz.zeroCells288.size = (hc (abs xs hh (xs.length / 64)) (fillz (tl xs)) xs.length).toArray.size) := by
    have e : (hc (abs xs hh (xs.length / 64)) (fillz (tl xs)) xs.length).toArray.size = 73 := by rw [List.size_toArray, hc_len HB0.out.s8 HB0.out.r64]
    show _ = _
    rw [e]
    exact zero73
  have HON := hide (hc_one (abs xs hh (xs.length / 64)) (fillz (tl xs)) xs.length)
  have HGC : Hid ((hc (abs xs hh (xs.length / 64)) (fillz (tl xs)) xs.length).toArray[72]? = some (.int .u64 (xs.length : Nat))) := hc_getc HB0.out.s8 HB0.out.r64
  have HSX : Hid (∀ wx k, wx.heap[k]? = some (.cells (hc (abs xs hh (xs.length / 64)) (fillz (tl xs)) xs.length).toArray 288 (0, 0)) → HS wx k xs) := fun wx k h => ⟨h⟩
  have HHB := hide HB0.out.b
  clear HB0
  have HGL := hide (blk_lt HH.out.b)
  generalize hc (abs xs hh (xs.length / 64)) (fillz (tl xs)) xs.length = HC at *
  have HR2 : Hid ((((w.alloc (.cells (bv (List.replicate 32 0)).toArray 155)).alloc (.cells Tryz.zeroCells288 288)).setRow (w.heap.size + 1) HC.toArray).heap[w.heap.size]? = some (.cells (bv (List.replicate 32 0)).toArray 155 (0, 0))) := by
    show _ = _
    rw [row_other (by omega)]
    exact blk_alloc _ (heap_alloc_new w _)
  have HE2 : Hid ((((w.alloc (.cells (bv (List.replicate 32 0)).toArray 155)).alloc (.cells Tryz.zeroCells288 288)).setRow (w.heap.size + 1) HC.toArray).heap[w.heap.size + 1]? = some (.cells HC.toArray 288 (0, 0))) := row_same (alloc2_new _ _ _)
  have HL2 : Hid (Below w.heap.size w (((w.alloc (.cells (bv (List.replicate 32 0)).toArray 155)).alloc (.cells Tryz.zeroCells288 288)).setRow (w.heap.size + 1) HC.toArray)) := (((Below.refl _ _).alloc (Nat.le_refl _) _).alloc (by simp) _).trans ((row_kp _ _ _).below (by simp; omega) (fun q e => by omega))
  rw [z32_lit] at HB1
  go_enter Tryz.func142, Tryz.ntmps142
  go_wp2_with (first
    | (refine wpList_loadAll rfl rfl g HC.toArray 288 rfl HB1.out Tryz.underlying288 HI7.out ?_)
    | (refine wpList_storeRow rfl rfl (w.heap.size + 1) _ HC.toArray 288 rfl rfl (alloc2_new _ _ _) HI7.out HSZ.out HON.out ?_; rw [← z32_lit]; generalize ((w.alloc (.cells (bv (List.replicate 32 0)).toArray 155)).alloc (.cells Tryz.zeroCells288 288)).setRow (w.heap.size + 1) HC.toArray = w2 at *; have c7 : w2.cell? ⟨g, 72, none⟩ = some (.int .u64 (xs.length : Nat)) := blk_cell ((HL2.out.block g HGL.out).trans HHB.out) HGC.out))
  generalize hB : w.heap.size = B at *
  have HBB := hide hB
  clear hB c7
  have hlb : xs.length ≤ 140737488355328 := by have := HLE.out; omega
  refine (ending_any w2 xs.length hlb).mono ?_
  rintro e w3 ⟨v3, rfl, ho3, hb3⟩
  have HS2 := hide (HSX.out w2 (B + 1) HE2.out)
  have HS3 := hide (HS2.out.below hb3)
  have HL3 : Hid (Below B w w3) := HL2.out.trans (hb3.mono (by have := HL2.out.size; have := HBB.out; omega))
  have HEL := hide (blk_lt HE2.out)
  have HV3 : Hid (BSl w3 v3 (endg xs.length)) := BSl.own ho3 (endg_byte _)
  have HN3 : Hid (v3.ownBlock ≠ some (B + 1)) := fun h => by
    have := (ho3.lt (B + 1) h).1
    have := HEL.out
    omega
  have HR3 := hide ((hb3.block B (blk_lt HR2.out)).trans HR2.out)
  have HC3 := hide (HCB.out.below (by rw [HBB.out]; exact HL3.out))
  obtain ⟨a3, c3, hv3, hv1, hv2, hv4⟩ := own_form ho3
  subst hv3
  clear hv1 hv2 hv4 ho3 hb3 HE2 HR2 HL2 HS2 hlb
  go_wp2_with fail
  refine (write_any w3 (B + 1) _ xs (endg xs.length) HC3.out (by have := HCB.out.pos; have := HBB.out; omega) HS3.out HXB.out HV3.out (fun _ => HN3.out) (by have := HLE.out; have := endg_len xs.length; omega)).mono ?_
  rintro e w4 ⟨rfl, hs4, hk4⟩
  rw [← pad_endg] at hs4
  have HB4 := hide (hs4.hb (pad_byte xs HXB.out))
  have HR4 := hide ((hk4.block B (blk_lt HR3.out) (by omega)).trans HR3.out)
  have HL4 : Hid (Below B w w4) := by
    have h3 := HL3.out.size
    have hb := HBB.out
    exact HL3.out.trans (hk4.below (by omega) (fun q e => by omega))
  clear hs4 hk4 HS3 HV3 HN3 HR3 HL3 HC3
  have HSH : Hid (sha xs = outb (abs (pad xs) hh ((pad xs).length / 64))) := rfl
  have HI8 : Hid ((Tryz.prog.info? 182).map (·.size) = some (wv (abs (pad xs) hh ((pad xs).length / 64))).length) := by
    have h := info8w _ HB4.out.s8
    show _ = _
    simpa using h
  have HLD : Hid (∀ j v, (wv (abs (pad xs) hh ((pad xs).length / 64)))[j]? = some v → w4.cell? ⟨B + 1, 0 + j, none⟩ = some v) := by
    intro j v hv
    rw [Nat.zero_add]
    exact blk_cell HB4.out.b (hc_gets hv)
  have H8 := hide HB4.out.s8
  have HSW := hide HB4.out.sw
  clear HB4
  generalize abs (pad xs) hh ((pad xs).length / 64) = S at *
  go_wp2_with (refine wpList_loadPart rfl rfl (B + 1) 0 (wv S) rfl Tryz.underlying182 HI8.out HLD.out ?_)
  refine (laid_any w4 S H8.out HSW.out).mono ?_
  rintro e w5 ⟨rfl, hb5⟩
  have HR5 := hide ((hb5.block B (blk_lt HR4.out)).trans HR4.out)
  have HL5 : Hid (Below B w w5) := HL4.out.trans (hb5.mono (by have := HL4.out.size; have := HBB.out; omega))
  have HOL := hide (outb_len S H8.out)
  have HI32 : Hid ((Tryz.prog.info? 155).map (·.size) = some (bv (outb S)).toArray.size) := by
    have h := info32
    show _ = _
    simpa [bv_len, HOL.out] using h
  have HSZ2 : Hid ((bv (List.replicate 32 0)).toArray.size = (bv (outb S)).toArray.size) := by show _ = _; simp [bv_len, HOL.out]
  have HON2 : Hid ((bv (outb S)).toArray.all (·.oneCell') = true) := by
    show _ = _
    rw [Array.all_eq_true_iff_forall_mem]
    intro u hu
    exact bv_one _ u (by simpa using hu)
  generalize outb S = D at *
  go_wp2_with (refine wpList_storeRow rfl rfl B _ (bv D).toArray 155 rfl rfl HR5.out HI32.out HSZ2.out HON2.out ?_)
  refine bodyPost_ret (v := .agg (bv D).toArray) ((results_one (p := 2) (ty := 155) rfl _ _ _).trans (run_loadVar_row (P := Tryz.prog) _ B 155 155 (bv D).toArray (0, 0) _ (row_same HR5.out) Tryz.underlying155 rfl HI32.out)) rfl ⟨by rw [HSH.out], ?_⟩
  rw [HBB.out]
  exact HL5.out.trans ((row_kp w5 B _).below (by have := HL5.out.size; have := HBB.out; omega) (fun q e => by omega))
end
section
open Go.RowKit Go
theorem own_lt {w : World} {v : Value} {xs : List Nat} (h : BSl w v xs) (h0 : xs ≠ []) {k : Nat} (hk : v.ownBlock = some k) : k < w.heap.size := by
  obtain ⟨⟨a, cap, rfl, hn, hc⟩, hmax, hb⟩ := h
  rcases hc with hc | ⟨b, off, rfl, hc⟩
  · exact absurd hc h0
  · simp [Value.ownBlock] at hk
    subst hk
    have h1 := hc 0 (List.length_pos_iff.2 h0)
    by_cases hlt : b < w.heap.size
    · exact hlt
    · exfalso
      have e : w.heap[b]? = none := Array.getElem?_eq_none (by omega)
      simp [World.cell?, e] at h1

set_option maxRecDepth 1000000 in
set_option maxHeartbeats 1000000 in
theorem sum_any (w : World) (v : Value) (xs : List Nat) (hcb : Cb w) (hsl : BSl w v xs) (hlen : xs.length ≤ 140737488351232) :
    Calls Tryz.prog 74 #[v] w fun e w' => e = .returned (.agg (bv (sha xs)).toArray) ∧ Below w.heap.size w w' := by
  have HCB := hide hcb
  have HSL := hide hsl
  have HLE := hide hlen
  clear hcb hsl hlen
  go_enter Tryz.func74, Tryz.ntmps74
  go_wp2_with fail
  rw [← z32_lit]
  have HR1 : Hid ((w.alloc (.cells (bv (List.replicate 32 0)).toArray 155)).heap[w.heap.size]? = some (.cells (bv (List.replicate 32 0)).toArray 155 (0, 0))) := heap_alloc_new w _
  have HL1 : Hid (Below w.heap.size w (w.alloc (.cells (bv (List.replicate 32 0)).toArray 155))) := (Below.refl _ _).alloc (Nat.le_refl _) _
  generalize w.alloc (.cells (bv (List.replicate 32 0)).toArray 155) = w1 at *
  refine (new_any w1).mono ?_
  rintro e w2 ⟨g, rfl, hg2, hs2, hb2⟩
  have HS2 := hide hs2
  have HG2 := hide hg2
  have HR2 := hide ((hb2.block _ (blk_lt HR1.out)).trans HR1.out)
  have HRL := hide (blk_lt HR1.out)
  have HL2 : Hid (Below w.heap.size w w2) := HL1.out.trans (hb2.mono HL1.out.size)
  have HC2 := hide (HCB.out.below HL2.out)
  have HV2 := hide (HSL.out.move (keep_below HL2.out))
  clear hg2 hs2 hb2 HR1 HL1
  go_wp2_with fail
  refine (write_any w2 g v [] xs HC2.out (by have := HRL.out; have := HG2.out; have := HCB.out.pos; omega) HS2.out (fun x hx => by cases hx) HV2.out (fun h0 h => by have := own_lt HSL.out h0 h; have := HRL.out; have := HG2.out; omega) (by have := HLE.out; simp; omega)).mono ?_
  rintro e w3 ⟨rfl, hs3, hk3⟩
  rw [List.nil_append] at hs3
  have HS3 := hide hs3
  have HR3 := hide ((hk3.block _ (blk_lt HR2.out) (by have := HRL.out; have := HG2.out; omega)).trans HR2.out)
  have HL3 : Hid (Below w.heap.size w w3) := by
    have h2 := HL2.out.size
    exact HL2.out.trans (hk3.below (by omega) (fun q e => by have := HRL.out; have := HG2.out; omega))
  have HC3 := hide (HCB.out.below HL3.out)
  clear hs3 hk3 HS2 HR2 HL2 HC2 HV2
  go_wp2_with fail
  refine (hsum_any w3 g xs HC3.out HS3.out HSL.out.byte HLE.out).mono ?_
  rintro e w4 ⟨rfl, hb4⟩
  have HR4 := hide ((hb4.block _ (blk_lt HR3.out)).trans HR3.out)
  have HL4 : Hid (Below w.heap.size w w4) := HL3.out.trans (hb4.mono HL3.out.size)
  have HOL := hide (sha_len xs)
  have HI32 := hide (info32d xs)
  have HON := hide (one32 xs)
  clear hb4 HR3 HL3 HC3 HS3
  have HSZ : Hid ((bv (List.replicate 32 0)).toArray.size = (bv (sha xs)).toArray.size) := by show _ = _; simp [bv_len, HOL.out]
  generalize hD : sha xs = D at *
  have HD := hide hD
  clear hD
  go_wp2_with (refine wpList_storeRow rfl rfl w.heap.size _ (bv D).toArray 155 rfl rfl HR4.out HI32.out HSZ.out HON.out ?_)
  refine bodyPost_ret (v := .agg (bv D).toArray) ((results_one (p := 2) (ty := 155) rfl _ _ _).trans (run_loadVar_row (P := Tryz.prog) _ w.heap.size 155 155 (bv D).toArray (0, 0) _ (row_same HR4.out) Tryz.underlying155 rfl HI32.out)) rfl ⟨by rw [HD.out], ?_⟩
  exact HL4.out.trans ((row_kp w4 w.heap.size _).below HL4.out.size (fun q e => by omega))
end
section
open Go.RowKit Go
set_option maxRecDepth 1000000 in
theorem equal_any (w : World) (v u : Value) (xs ys : List Nat) (h1 : BSl w v xs) (h2 : BSl w u ys) :
    Calls Tryz.prog 79 #[v, u] w fun e w' => e = .returned (.bool (decide (xs = ys))) ∧ Below w.heap.size w w' := by
  have e1 := h1.text
  have e2 := h2.text
  have H1 := hide h1.byte
  have H2 := hide h2.byte
  clear h1 h2
  go_enter Tryz.func79, Tryz.ntmps79
  go_wp2_with fail
  have e : ((nstr xs).toList == (nstr ys).toList) = decide (xs = ys) := by
    by_cases h : xs = ys
    · subst h; simp
    · have hn : ¬ (nstr xs).toList = (nstr ys).toList := fun e => h (nstr_inj H1.out H2.out e)
      rw [beq_eq_false_iff_ne.2 hn]
      simp [h]
  rw [e]
  go_ret
  exact ⟨rfl, Below.refl _ _⟩
end
end Go.Proofs.YtnkghcndaafmoaaGreatDoor

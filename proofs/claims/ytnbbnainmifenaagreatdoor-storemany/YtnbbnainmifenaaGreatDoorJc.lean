import Derived.Test.YtnbbnainmifenaaGreatDoorJb
import Derived.Test.YtnbbnainmifenaaGreatDoorJa
import Derived.Laws.CopyRow
import Derived.Laws.ResultCell
import Derived.Deep.QuietTactic
import Derived.Laws.StructEq
namespace Go.Proofs.YtnbbnainmifenaaGreatDoor
section
open Go.RowKit Go
structure HB (w : World) (g : Nat) (s r : List Nat) (c : Nat) : Prop where
  b : w.heap[g]? = some (.cells (hc s r c).toArray 137 (0, 0))
  s8 : s.length = 8
  sw : ∀ x ∈ s, x < 4294967296
  r64 : r.length = 64
  rb : ∀ x ∈ r, x < 256
theorem tl_byte {xs : List Nat} (h : ∀ x ∈ xs, x < 256) : ∀ x ∈ tl xs, x < 256 := fun x hx => h x (List.mem_of_mem_drop hx)
theorem fillz_byte {xs : List Nat} (h : ∀ x ∈ xs, x < 256) : ∀ x ∈ fillz xs, x < 256 := fun x hx => by
  rcases List.mem_append.1 hx with hx | hx
  · exact h x hx
  · rw [List.eq_of_mem_replicate hx]; decide
theorem HS.hb {w : World} {g : Nat} {xs : List Nat} (h : HS w g xs) (hx : ∀ x ∈ xs, x < 256) : HB w g (abs xs hh (xs.length / 64)) (fillz (tl xs)) xs.length :=
  ⟨h.b, abs_len _ _ rfl _, abs_lt _ _ hh_lt _, fillz_len (by rw [tl_len]; omega), fillz_byte (tl_byte hx)⟩

theorem bsl_nil (w : World) (p : Addr) (c : Nat) : BSl w (.slice (some p) 0 c) [] := ⟨⟨_, c, rfl, ⟨Nat.zero_le _, fun h => by cases h⟩, .inl rfl⟩, by simp, by simp⟩
theorem Kp.bsl0 {S : Nat → Prop} {w w' : World} (h : Kp S w w') {v : Value} {xs : List Nat} (hb : BSl w v xs) (hs : xs ≠ [] → ∀ k, v.ownBlock = some k → ¬ S k) : BSl w' v xs := by
  by_cases h0 : xs = []
  · subst h0
    obtain ⟨⟨a, cap, rfl, hn, _⟩, hmax, hy⟩ := hb
    exact ⟨⟨a, cap, rfl, hn, .inl rfl⟩, hmax, hy⟩
  · exact h.bsl hb (hs h0)
theorem drop_ne {l : List Nat} {a b : Nat} (hab : a ≤ b) (h : l.drop b ≠ []) : l.drop a ≠ [] := fun e => h (by
  have := List.drop_eq_nil_iff.1 e
  exact List.drop_eq_nil_of_le (by omega))
theorem fillz_splice (l ys : List Nat) (H : Nat) (h : l.length = H) (hf : H + ys.length ≤ 64) : fillz (l ++ ys) = splice (fillz l) H ys := by
  subst h
  unfold fillz splice
  rw [List.take_left' rfl, List.drop_append, List.drop_eq_nil_of_le (by omega), List.nil_append, List.drop_replicate, List.append_assoc]
  have e : 64 - (l ++ ys).length = 64 - l.length - (l.length + ys.length - l.length) := by simp; omega
  rw [e]
theorem fillz_full (l ys : List Nat) (H : Nat) (h : l.length = H) (hf : H + ys.length = 64) : splice (fillz l) H ys = l ++ ys := by
  rw [← fillz_splice l ys H h (by omega)]
  unfold fillz
  have e : 64 - (l ++ ys).length = 0 := by simp; omega
  rw [e]
  simp

theorem fillz_end (R T : List Nat) (L : Nat) (hT : T.length = L) (hR : R.length = 64) (hL : L ≤ 64) : splice (splice R 0 T) L (List.replicate (64 - L) 0) = fillz T := by
  subst hT
  unfold splice fillz
  simp only [List.take_zero, List.nil_append, List.length_replicate, List.take_left' rfl]
  rw [List.drop_eq_nil_of_le (by simp; omega)]
  simp

set_option maxRecDepth 1000000 in
set_option maxHeartbeats 1000000 in
theorem write_any (w : World) (g : Nat) (v : Value) (xs ys : List Nat) (hcb : Cb w) (hg0 : 1 < g) (hh0 : HS w g xs) (hx : ∀ x ∈ xs, x < 256) (hsl : BSl w v ys) (hne : ys ≠ [] → v.ownBlock ≠ some g) (hlen : xs.length + ys.length ≤ 140737488355328) :
    Calls Tryz.prog 51 #[.pointer (some ⟨g, 0, none⟩), v] w fun e w' => e = .returned (.tuple #[]) ∧ HS w' g (xs ++ ys) ∧ Kp (fun q => q = g) w w' := by
  have HCB := hide hcb
  have HH := hide (hh0.hb hx)
  have HXB := hide hx
  have HSL := hide hsl
  have HNE := hide hne
  have HG0 := hide hg0
  obtain ⟨⟨a, cap, rfl, hn, hc⟩, hmax, hb⟩ := hsl
  clear hn hc hb hcb hh0 hne hmax hx hg0
  have c0 : w.cell? ⟨g, 72, none⟩ = some (.int .u64 (xs.length : Nat)) := blk_cell HH.out.b (hc_getc HH.out.s8 HH.out.r64)
  have f0 := blk_frozen 72 HH.out.b
  go_enter Tryz.func51, Tryz.ntmps51
  go_upto_if 24 with fail
  have HZ : Hid ((xs ++ ys).length = xs.length + ys.length) := List.length_append
  have ez : (xs.length : Int) + (ys.length : Int) = ((xs.length + ys.length : Nat) : Int) := by omega
  rw [ez]
  have HB1 : Hid (HB (w.setCell ⟨g, 72, none⟩ (.int .u64 ((xs.length + ys.length : Nat) : Int))) g (abs xs hh (xs.length / 64)) (fillz (tl xs)) (xs.length + ys.length)) := by
    have h := HH.out
    refine ⟨?_, h.s8, h.sw, h.r64, h.rb⟩
    rw [← hc_count h.s8 h.r64 (c := xs.length)]
    exact blk_set 72 _ h.b
  have HK1 : Hid (Kp (fun q => q = g) w (w.setCell ⟨g, 72, none⟩ (.int .u64 ((xs.length + ys.length : Nat) : Int)))) := (Kp.refl _ _).setCell _ _ (fun _ => rfl)
  have HNB : Hid (ys ≠ [] → ∀ k, (Value.slice a ys.length cap).ownBlock = some k → ¬ k = g) := fun h0 k hk e => HNE.out h0 (by rw [hk, e])
  have HS1 := hide (HK1.out.bsl0 HSL.out HNB.out)
  clear ez c0 f0
  generalize w.setCell ⟨g, 72, none⟩ (.int .u64 ((xs.length + ys.length : Nat) : Int)) = w1 at *
  generalize hZ : xs.length + ys.length = Z at *
  have hHe : (xs.length : Int) % 64 = ((xs.length % 64 : Nat) : Int) := by omega
  rw [hHe]
  clear hHe
  have HTL := hide (tl_len xs)
  have HTT : Hid (tl xs = xs.drop (64 * (xs.length / 64))) := rfl
  have hH64 : xs.length % 64 < 64 := Nat.mod_lt _ (by decide)
  have HXE : Hid (xs.length = 64 * (xs.length / 64) + xs.length % 64) := by show _ = _; omega
  have HZX : Hid (xs.length + ys.length = Z) := hZ
  clear hZ
  generalize xs.length % 64 = H at *
  generalize xs.length / 64 = q at *
  have hZl : Z ≤ 140737488355328 := hlen
  go_cut [1] (fun u wx => ∃ (m : Nat) (R : List Nat), 64 * m ≤ Z ∧ Hid (BSl wx u ((xs ++ ys).drop (64 * m))) ∧ Hid ((xs ++ ys).drop (64 * m) ≠ [] → u.ownBlock ≠ some g) ∧ Hid (HB wx g (abs (xs ++ ys) hh m) R Z) ∧ Hid (Kp (fun q => q = g) w wx))
  case first => as_aux_lemma =>
    by_cases hH : H = 0
    · have hH' : ¬ (0 : Int) < (H : Int) := by omega
      have HHH := hide hH
      clear hH
      go_wp2_with fail
      go_meet
      case rel =>
        have e := HXE.out
        have hz := HZX.out
        have ed : (xs ++ ys).drop (64 * q) = ys := by rw [List.drop_append_of_le_length (by omega), List.drop_eq_nil_of_le (by have := HHH.out; omega), List.nil_append]
        refine ⟨q, fillz (tl xs), by have := HHH.out; omega, ?_, ?_, ?_, HK1⟩
        · show BSl _ _ _
          rw [ed]
          exact HS1.out
        · intro h
          rw [ed] at h
          exact HNE.out h
        · show HB _ _ _ _ _
          rw [abs_app xs ys hh q (by omega)]
          exact HB1.out
    · have hH' : (0 : Int) < (H : Int) := by omega
      have hH6 : (H : Int) ≤ 64 := by omega
      have hHn : ¬ 64 = H := by omega
      have HH0 := hide hH
      clear hH
      by_cases hsh : H + ys.length < 64
      · have hsh' : (H : Int) + (ys.length : Int) < 64 := by omega
        have HTK : Hid (8 + H + ys.length ≤ (hc (abs xs hh q) (fillz (tl xs)) Z).length) := by
          show _ ≤ _
          rw [hc_len HB1.out.s8 HB1.out.r64]
          omega
        have HYT : Hid (ys = ys.take (64 - H)) := by show _ = _; rw [List.take_of_length_le (by omega)]
        have HSH := hide hsh
        clear hsh
        go_wp2_with (refine wpList_copyPart rfl _ _ rfl g (8 + H) (64 - H) (64 - H) rfl ys _ rfl HS1.out _ _ HB1.out.b ys ys.length rfl HYT.out HTK.out ?_; intro w2 hb2 hk2)
        refine bodyPost_ret (results_none rfl _ _ _) rfl ?_
        refine ⟨rfl, ⟨?_⟩, HK1.out.trans hk2.out (fun _ _ h => h)⟩
        have h2 := hb2.out
        have hx := HXE.out
        have hz := HZX.out
        have hsh2 := HSH.out
        rw [hc_rest HB1.out.s8 (by rw [fillz_len (by rw [HTL.out]; omega)]; omega)] at h2
        have e1 : (xs ++ ys).length / 64 = q := by rw [HZ.out]; omega
        have e2 : abs (xs ++ ys) hh q = abs xs hh q := abs_app xs ys hh q (by omega)
        have e3 : fillz (tl (xs ++ ys)) = splice (fillz (tl xs)) H ys := by
          have e4 : tl (xs ++ ys) = tl xs ++ ys := by
            rw [HTT.out]
            unfold tl
            rw [e1, List.drop_append_of_le_length (by omega)]
          rw [e4]
          exact fillz_splice (tl xs) ys H HTL.out (by omega)
        rw [e1, e2, e3, HZ.out]
        exact h2
      · obtain ⟨N, hN⟩ : ∃ N, H + N = 64 := ⟨64 - H, by omega⟩
        have hNH : 64 - H = N := by omega
        have hsh' : ¬ (H : Int) + (N : Int) < 64 := by omega
        have hN6 : N < 64 := by have := HH0.out; omega
        have HYL : Hid ((ys.take N).length = N) := by show _ = _; simp; omega
        have HTK : Hid (8 + H + (ys.take N).length ≤ (hc (abs xs hh q) (fillz (tl xs)) Z).length) := by
          show _ ≤ _
          rw [hc_len HB1.out.s8 HB1.out.r64, HYL.out]
          omega
        have HYN : Hid (N ≤ ys.length) := by show _ ≤ _; omega
        have HHN := hide hN
        have HSE : Hid (splice (fillz (tl xs)) H (ys.take N) = ((xs ++ ys).drop (64 * q)).take 64) := by
          have hx := HXE.out
          show _ = _
          have e5 : (tl xs).take 64 = tl xs := List.take_of_length_le (by rw [HTL.out]; omega)
          rw [List.drop_append_of_le_length (by omega), ← HTT.out, List.take_append, HTL.out, hNH, e5]
          exact fillz_full (tl xs) (ys.take N) H HTL.out (by rw [HYL.out]; omega)
        clear hsh hN
        go_wp2_with (refine wpList_copyPart rfl _ _ rfl g (8 + H) N N rfl ys _ rfl HS1.out _ _ HB1.out.b (ys.take N) N HYL.out rfl HTK.out ?_; intro w2 hb2 hk2)
        have HB2 : Hid (HB w2 g (abs xs hh q) (((xs ++ ys).drop (64 * q)).take 64) Z) := by
          have h2 := hb2.out
          rw [hc_rest HB1.out.s8 (by rw [fillz_len (by rw [HTL.out]; omega), HYL.out]; have := HHN.out; omega), HSE.out] at h2
          refine ⟨h2, HB1.out.s8, HB1.out.sw, ?_, ?_⟩
          · have := HYN.out
            have := HHN.out
            have := HXE.out
            simp
            omega
          · intro x hx
            rcases List.mem_append.1 (List.mem_of_mem_drop (List.mem_of_mem_take hx)) with hx | hx
            · exact HXB.out x hx
            · exact HSL.out.byte x hx
        have HK2 : Hid (Kp (fun q => q = g) w w2) := HK1.out.trans hk2.out (fun _ _ h => h)
        have HS2 := hide (hk2.out.bsl0 HS1.out HNB.out)
        have HCB2 := hide (HCB.out.kp HK2.out (fun e => by have := HG0.out; omega))
        have HAE : Hid (abs xs hh q = abs (xs ++ ys) hh q) := (abs_app xs ys hh q (by have := HXE.out; omega)).symm
        have HCM : Hid (cmp (((xs ++ ys).drop (64 * q)).take 64) 0 (abs xs hh q) = abs (xs ++ ys) hh (q + 1)) := by
          show _ = _
          rw [HAE.out, cmp_take]
          rfl
        clear hb2 hk2 HB1 HK1 HS1 HTK HSE HAE
        generalize ((xs ++ ys).drop (64 * q)).take 64 = P at *
        generalize abs xs hh q = S at *
        have HLD : Hid (∀ w, (∃ t : Ext w2, w = t.w') → ∀ j v, (wv S)[j]? = some v → w.cell? ⟨g, 0 + j, none⟩ = some v) := by
          rintro w' ⟨t, rfl⟩ j v hv
          rw [Nat.zero_add]
          exact Ext.cell (blk_cell HB2.out.b (hc_gets hv)) t
        have HI8 : Hid ((Tryz.prog.info? 93).map (·.size) = some (wv S).length) := by
          have h := info8w S HB2.out.s8
          show _ = _
          simpa using h
        have HCH : Hid (∀ t : Ext w2, Calls Tryz.prog 80 #[.agg (wv S).toArray, .slice (some ⟨g, 8, none⟩) 64 64] t.w' fun e w'' => e = .returned (.agg (wv (cmp P 0 S)).toArray) ∧ ∃ t' : Ext w2, w'' = t'.w') := fun t =>
          Calls.ext_below (changed_any t.w' _ P S (HCB2.out.below t.h) (Ext.bsl (bsl_rest HB2.out.b HB2.out.s8 HB2.out.r64 HB2.out.rb) t) HB2.out.r64 HB2.out.s8 HB2.out.sw)
        refine region_ext_tail 10 (by kernel_rfl) (by kernel_rfl) ?_
        simp only [List.take_succ_cons, List.take_zero, List.drop_succ_cons, List.drop_zero]
        repeat (
          refine wpQuiet_step (fun K hK => ?_)
          first
            | (refine qstep_load rfl rfl g 0 (wv S) rfl Tryz.underlying93 HI8.out HLD.out (hK _ ?_); clear hK K)
            | (go_simp
               first
                 | (refine hK _ ?_; clear hK K)
                 | (apply Exists.intro
                    refine ⟨fun _ => ?_, hK _ ?_⟩
                    (go_at_call 80; exact HCH.out _)
                    clear hK K)))
        refine wpQuiet_nil ?_
        rintro _ ⟨tq, rfl⟩
        have HBT := hide ((tq.h.block g (blk_lt HB2.out.b)).trans HB2.out.b)
        have HC8 := hide (cmp_len P 0 S HB2.out.s8)
        have HI9 : Hid ((Tryz.prog.info? 93).map (·.size) = some (wv (cmp P 0 S)).length) := by
          have h := info8w (cmp P 0 S) HC8.out
          show _ = _
          simpa using h
        have HF9 : Hid (0 + (wv (cmp P 0 S)).length ≤ (hc S P Z).length) := by
          show _ ≤ _
          rw [hc_len HB2.out.s8 HB2.out.r64, wv_len, HC8.out]
          decide
        have HKT : Hid (Kp (fun q => q = g) w tq.w') := HK2.out.trans (Kp.of_below tq.h) (fun _ _ h => h)
        have HST : Hid (BSl tq.w' (.slice a ys.length cap) ys) := Ext.bsl HS2.out tq
        generalize tq.w' = wt at *
        have hbt := HST.out
        obtain ⟨⟨a', cap', hv, hn, hc⟩, hmax, hb⟩ := hbt
        injection hv with hv1 hv2 hv3
        subst hv1
        subst hv3
        rcases hc with hc | ⟨bb, off, rfl, hc⟩
        · exfalso
          have h1 := HYN.out
          have h2 := HHN.out
          rw [hc] at h1
          simp at h1
          omega
        have hcl : (ys.length : Int) ≤ (cap : Int) := by have := hn.1; omega
        have hNl : (N : Int) ≤ (ys.length : Int) := by have := HYN.out; omega
        clear hn hc hmax hb hv2
        have HW3 : Hid (∀ w3, w3.heap[g]? = some (.cells (splice (hc S P Z) 0 (wv (cmp P 0 S))).toArray 137 (0, 0)) → HB w3 g (abs (xs ++ ys) hh (q + 1)) P Z) := by
          intro w3 h3
          rw [hc_state HB2.out.s8 HC8.out, HCM.out] at h3
          refine ⟨h3, ?_, abs_lt _ _ hh_lt _, HB2.out.r64, HB2.out.rb⟩
          exact abs_len _ _ rfl _
        have HDR : Hid ((xs ++ ys).drop (64 * (q + 1)) = ys.drop N) := by
          show _ = _
          have h1 := HXE.out
          have h2 := HHN.out
          rw [List.drop_append, List.drop_eq_nil_of_le (by omega), List.nil_append]
          congr 1
          omega
        have HM1 : Hid (64 * (q + 1) ≤ Z) := by
          have h1 := HXE.out
          have h2 := HHN.out
          have h3 := HZX.out
          have h4 := HYN.out
          show _ ≤ _
          omega
        by_cases hcp : cap = N
        · have hyN : (N : Int) = (ys.length : Int) := by omega
          go_wp2_with (refine wpList_storePart rfl rfl g 0 _ (wv (cmp P 0 S)) _ rfl rfl HBT.out HI9.out HF9.out (wv_one _) ?_; intro w3 hb3 hk3)
          go_meet
          case rel =>
            refine ⟨q + 1, P, HM1.out, ?_, fun h0 h => HNE.out (by rw [HDR.out] at h0; exact drop_ne (l := ys) (Nat.zero_le _) h0) h, HW3.out w3 hb3.out, HKT.out.trans hk3.out (fun _ _ h => h)⟩
            show BSl _ _ _
            rw [HDR.out, List.drop_eq_nil_of_le (by omega)]
            exact bsl_nil _ _ _
        · go_wp2_with (refine wpList_storePart rfl rfl g 0 _ (wv (cmp P 0 S)) _ rfl rfl HBT.out HI9.out HF9.out (wv_one _) ?_; intro w3 hb3 hk3)
          go_meet
          case rel =>
            refine ⟨q + 1, P, HM1.out, ?_, fun h0 h => HNE.out (by rw [HDR.out] at h0; exact drop_ne (l := ys) (Nat.zero_le _) h0) h, HW3.out w3 hb3.out, HKT.out.trans hk3.out (fun _ _ h => h)⟩
            show BSl _ _ _
            rw [HDR.out]
            exact (hk3.out.bsl0 HST.out HNB.out).drop N (by have := HYN.out; omega)
  case rest => as_aux_lemma =>
    clear HB1 HK1 HS1 HSL HNE HNB
    go_wp2_with fail
    go_loopw [1] (fun u wx => ∃ (m : Nat) (R : List Nat), 64 * m ≤ Z ∧ lenOf u = Z - 64 * m ∧ Hid (BSl wx u ((xs ++ ys).drop (64 * m))) ∧ Hid ((xs ++ ys).drop (64 * m) ≠ [] → u.ownBlock ≠ some g) ∧ Hid (HB wx g (abs (xs ++ ys) hh m) R Z) ∧ Hid (Kp (fun q => q = g) w wx)) (fun u _ => lenOf u)
    case atStart =>
      obtain ⟨m, R, hm, hb, hne, hB, hk⟩ := hcut
      refine ⟨m, R, hm, ?_, hb, hne, hB, hk⟩
      obtain ⟨⟨a', cap', hv, hn, hc⟩, hmax, hby⟩ := hb.out
      rw [hv]
      simp only [lenOf, List.length_drop, HZ.out]
    case round =>
      obtain ⟨m, R, hm, hlu, HSL, HNE, HB1, HK1⟩ := hrel
      clear hcut
      have hbt := HSL.out
      obtain ⟨⟨a1, cap1, hv, hn, hc⟩, hmax, hb⟩ := hbt
      subst hv
      have hLL : ((xs ++ ys).drop (64 * m)).length = Z - 64 * m := by rw [List.length_drop, HZ.out]
      rw [hLL] at HSL HNE hn hmax hlu ⊢
      obtain ⟨L, hL⟩ : ∃ L, Z - 64 * m = L := ⟨_, rfl⟩
      rw [hL] at HSL HNE hn hmax hlu hLL ⊢
      have HLL := hide hLL
      have HLZ := hide hL
      clear hLL hL hlu
      by_cases h64 : 64 ≤ L
      · have h64' : (64 : Int) ≤ (L : Int) := by omega
        rcases hc with hc | ⟨b1, o1, rfl, hc⟩
        · exfalso
          have h1 := HLL.out
          rw [hc] at h1
          simp at h1
          omega
        have hcl : (L : Int) ≤ (cap1 : Int) := by have := hn.1; omega
        have hc64 : (64 : Int) ≤ (cap1 : Int) := by omega
        clear hn hc hmax hb
        have HNB : Hid ((xs ++ ys).drop (64 * m) ≠ [] → ∀ k, (Value.slice (some ⟨b1, o1, none⟩) L cap1).ownBlock = some k → ¬ k = g) := fun h0 k hk e => HNE.out h0 (by rw [hk, e])
        have HCB2 := hide (HCB.out.kp HK1.out (fun e => by have := HG0.out; omega))
        have HCM : Hid (cmp (((xs ++ ys).drop (64 * m)).take 64) 0 (abs (xs ++ ys) hh m) = abs (xs ++ ys) hh (m + 1)) := by
          show _ = _
          rw [cmp_take]
          rfl
        have HPL : Hid ((((xs ++ ys).drop (64 * m)).take 64).length = 64) := by
          show _ = _
          rw [List.length_take, HLL.out]
          omega
        have HPS : Hid (BSl wr (.slice (some ⟨b1, o1, none⟩) 64 64) (((xs ++ ys).drop (64 * m)).take 64)) := HSL.out.take3 64 (by rw [HLL.out]; omega)
        have HD64 : Hid (((xs ++ ys).drop (64 * m)).drop 64 = (xs ++ ys).drop (64 * (m + 1))) := by
          show _ = _
          rw [List.drop_drop]
          congr 1
        generalize ((xs ++ ys).drop (64 * m)).take 64 = P at *
        generalize abs (xs ++ ys) hh m = S at *
        have HLD : Hid (∀ w, (∃ t : Ext wr, w = t.w') → ∀ j v, (wv S)[j]? = some v → w.cell? ⟨g, 0 + j, none⟩ = some v) := by
          rintro w' ⟨t, rfl⟩ j v hv
          rw [Nat.zero_add]
          exact Ext.cell (blk_cell HB1.out.b (hc_gets hv)) t
        have HI8 : Hid ((Tryz.prog.info? 93).map (·.size) = some (wv S).length) := by
          have h := info8w S HB1.out.s8
          show _ = _
          simpa using h
        have HCH : Hid (∀ t : Ext wr, Calls Tryz.prog 80 #[.agg (wv S).toArray, .slice (some ⟨b1, o1, none⟩) 64 64] t.w' fun e w'' => e = .returned (.agg (wv (cmp P 0 S)).toArray) ∧ ∃ t' : Ext wr, w'' = t'.w') := fun t =>
          Calls.ext_below (changed_any t.w' _ P S (HCB2.out.below t.h) (Ext.bsl HPS.out t) HPL.out HB1.out.s8 HB1.out.sw)
        go_wp2_with fail
        refine region_ext_tail 8 (by kernel_rfl) (by kernel_rfl) ?_
        simp only [List.take_succ_cons, List.take_zero, List.drop_succ_cons, List.drop_zero]
        repeat (
          refine wpQuiet_step (fun K hK => ?_)
          first
            | (refine qstep_load rfl rfl g 0 (wv S) rfl Tryz.underlying93 HI8.out HLD.out (hK _ ?_); clear hK K)
            | (go_simp
               first
                 | (refine hK _ ?_; clear hK K)
                 | (apply Exists.intro
                    refine ⟨fun _ => ?_, hK _ ?_⟩
                    (go_at_call 80; exact HCH.out _)
                    clear hK K)))
        refine wpQuiet_nil ?_
        rintro _ ⟨tq, rfl⟩
        have HBT := hide ((tq.h.block g (blk_lt HB1.out.b)).trans HB1.out.b)
        have HC8 := hide (cmp_len P 0 S HB1.out.s8)
        have HI9 : Hid ((Tryz.prog.info? 93).map (·.size) = some (wv (cmp P 0 S)).length) := by
          have h := info8w (cmp P 0 S) HC8.out
          show _ = _
          simpa using h
        have HF9 : Hid (0 + (wv (cmp P 0 S)).length ≤ (hc S R Z).length) := by
          show _ ≤ _
          rw [hc_len HB1.out.s8 HB1.out.r64, wv_len, HC8.out]
          decide
        have HKT : Hid (Kp (fun q => q = g) w tq.w') := HK1.out.trans (Kp.of_below tq.h) (fun _ _ h => h)
        have HST := hide (Ext.bsl HSL.out tq)
        generalize tq.w' = wt at *
        have HW3 : Hid (∀ w3, w3.heap[g]? = some (.cells (splice (hc S R Z) 0 (wv (cmp P 0 S))).toArray 137 (0, 0)) → HB w3 g (abs (xs ++ ys) hh (m + 1)) R Z) := by
          intro w3 h3
          rw [hc_state HB1.out.s8 HC8.out, HCM.out] at h3
          refine ⟨h3, ?_, abs_lt _ _ hh_lt _, HB1.out.r64, HB1.out.rb⟩
          exact abs_len _ _ rfl _
        have HM1 : Hid (64 * (m + 1) ≤ Z) := by
          have h1 := HLZ.out
          show _ ≤ _
          omega
        by_cases hcp : cap1 = 64
        · have hl64 : L = 64 := by omega
          subst hl64
          subst hcp
          go_wp2_with (refine wpList_storePart rfl rfl g 0 _ (wv (cmp P 0 S)) _ rfl rfl HBT.out HI9.out HF9.out (wv_one _) ?_; intro w3 hb3 hk3)
          go_roundw
          case rel =>
            refine ⟨m + 1, R, HM1.out, by have := HLZ.out; simp only [lenOf]; omega, ?_, fun h0 h => HNE.out (drop_ne (by omega) h0) h, HW3.out w3 hb3.out, HKT.out.trans hk3.out (fun _ _ h => h)⟩
            show BSl _ _ _
            rw [← HD64.out, List.drop_eq_nil_of_le (by rw [HLL.out]; exact Nat.le_refl _)]
            exact bsl_nil _ _ _
          case measure => simp [lenOf]
        · have hcp' : ¬ 64 = cap1 := fun e => hcp e.symm
          go_wp2_with (refine wpList_storePart rfl rfl g 0 _ (wv (cmp P 0 S)) _ rfl rfl HBT.out HI9.out HF9.out (wv_one _) ?_; intro w3 hb3 hk3)
          go_roundw
          case rel =>
            refine ⟨m + 1, R, HM1.out, by have := HLZ.out; simp only [lenOf]; omega, ?_, fun h0 h => HNE.out (drop_ne (by omega) h0) h, HW3.out w3 hb3.out, HKT.out.trans hk3.out (fun _ _ h => h)⟩
            show BSl _ _ _
            rw [← HD64.out]
            exact (hk3.out.bsl0 HST.out HNB.out).drop 64 (by rw [HLL.out]; omega)
          case measure => simp [lenOf]; omega
      · have h64' : ¬ (64 : Int) ≤ (L : Int) := by omega
        have hL6 : (L : Int) ≤ 64 := by omega
        have hLn : ¬ 64 = L := by omega
        have HL64 := hide h64
        clear hn hc hmax hb h64
        have hML : (xs ++ ys).length / 64 = m := by have := HLZ.out; have := HZ.out; have := HL64.out; omega
        have HTE : Hid ((xs ++ ys).drop (64 * m) = tl (xs ++ ys)) := by show _ = _; unfold tl; rw [hML]
        have HME := hide hML
        clear hML
        rw [HTE.out] at HSL HLL
        have HF1 : Hid (8 + (tl (xs ++ ys)).length ≤ (hc (abs (xs ++ ys) hh m) R Z).length) := by
          show _ ≤ _
          rw [hc_len HB1.out.s8 HB1.out.r64, HLL.out]
          have := HL64.out
          omega
        have HYT : Hid (tl (xs ++ ys) = (tl (xs ++ ys)).take 64) := by show _ = _; rw [List.take_of_length_le (by rw [HLL.out]; have := HL64.out; omega)]
        go_wp2_with (first
          | (refine wpList_copyPart rfl _ _ rfl g 8 64 64 rfl (tl (xs ++ ys)) _ rfl HSL.out _ _ HB1.out.b (tl (xs ++ ys)) L HLL.out HYT.out HF1.out ?_; intro w2 hb2 hk2; have HB2 := hide hb2; have HK2 := hide hk2)
          | (refine wpList_clearPart rfl _ rfl g (8 + L) (64 - L) (64 - L) rfl ?c1 _ _ HB2.out.out ?c2 ?_; rotate_left; rotate_left; intro w3 hb3 hk3))
        case c1 => have := HL64.out; omega
        case c2 =>
          have h8 := hc_rest (c := Z) (off := 0) (ys := tl (xs ++ ys)) (r := R) HB1.out.s8 (by rw [HLL.out, HB1.out.r64]; have := HL64.out; omega)
          rw [Nat.add_zero] at h8
          rw [h8, hc_len HB1.out.s8 (by rw [length_splice _ _ _ (by rw [HLL.out, HB1.out.r64]; have := HL64.out; omega)]; exact HB1.out.r64)]
          have := HL64.out
          omega
        go_end0
        refine ⟨rfl, ⟨?_⟩, (HK1.out.trans HK2.out.out (fun _ _ h => h)).trans hk3.out (fun _ _ h => h)⟩
        have h3 := hb3.out
        have h8 := hc_rest (c := Z) (off := 0) (ys := tl (xs ++ ys)) (r := R) HB1.out.s8 (by rw [HLL.out, HB1.out.r64]; have := HL64.out; omega)
        rw [Nat.add_zero] at h8
        have hl := HL64.out
        rw [h8, hc_rest HB1.out.s8 (by rw [length_splice _ _ _ (by rw [HLL.out, HB1.out.r64]; omega), HB1.out.r64, List.length_replicate]; omega), fillz_end R _ L HLL.out HB1.out.r64 (by omega)] at h3
        rw [HME.out, HZ.out]
        exact h3
end
section
open Go.RowKit Go
theorem wpList_loadAll {ops : Array Oper} {rest : List Oper} {o : Oper} {a : Act} {Q : Exit → Act → World → Prop} {w : World} {T : TypeId} {p : Operand} (hgd : o.guard = none) (ho : o.op = .load T p) (g : Nat) (cs : Array Value) (t : TypeId) {fs : Array Field}
    (hp : a.eval p = .pointer (some ⟨g, 0, none⟩)) (hg : w.heap[g]? = some (.cells cs t (0, 0))) (hu : Tryz.prog.underlying T = some (.struct fs)) (hi : (Tryz.prog.info? T).map (·.size) = some cs.size)
    (h : wpList Tryz.prog ops Q rest (a.put o.dst (.agg cs)) w) : wpList Tryz.prog ops Q (o :: rest) a w := by
  refine wpList_plain hgd fun K hK => ?_
  unfold Oper.wp execOp
  have hr : (Instr.loadAt T (.pointer (some ⟨g, 0, none⟩))).run Tryz.prog w = .ok (.agg cs) w := by
    simp only [Instr.loadAt, Instr.sureAddr, Sem.run_bind, Sem.run_pure, Result.andThen]
    exact run_loadVar_row (P := Tryz.prog) w g t T cs (0, 0) _ hg hu rfl hi
  simp only [ho, Sem.run_bind, hp, hr, Result.andThen_ok]
  exact hK _ _ h
theorem wpList_loadPart {ops : Array Oper} {rest : List Oper} {o : Oper} {a : Act} {Q : Exit → Act → World → Prop} {w : World} {T e : TypeId} {n : Nat} {p : Operand} (hgd : o.guard = none) (ho : o.op = .load T p) (g off : Nat) (cs : List Value)
    (hp : a.eval p = .pointer (some ⟨g, off, none⟩)) (hu : Tryz.prog.underlying T = some (.array n e)) (hi : (Tryz.prog.info? T).map (·.size) = some cs.length) (hc : ∀ j v, cs[j]? = some v → w.cell? ⟨g, off + j, none⟩ = some v)
    (h : wpList Tryz.prog ops Q rest (a.put o.dst (.agg cs.toArray)) w) : wpList Tryz.prog ops Q (o :: rest) a w := by
  refine wpList_plain hgd fun K hK => ?_
  unfold Oper.wp execOp
  simp only [ho, Sem.run_bind, hp, part_load g off cs hu hi hc, Result.andThen_ok]
  exact hK _ _ h
theorem alloc2_new (w : World) (o1 o2 : Obj) : ((w.alloc o1).alloc o2).heap[w.heap.size + 1]? = some o2 := by
  have h := heap_alloc_new (w.alloc o1) o2
  have e : (w.alloc o1).heap.size = w.heap.size + 1 := by simp
  rwa [e] at h
theorem endg_byte (n : Nat) : ∀ x ∈ endg n, x < 256 := by
  intro x hx
  unfold endg at hx
  rcases List.mem_append.1 hx with hx | hx
  · rcases List.mem_append.1 hx with hx | hx
    · simp at hx; omega
    · rw [List.eq_of_mem_replicate hx]; decide
  · exact beb_byte _ _ _ hx
theorem endg_len (n : Nat) : (endg n).length ≤ 73 := by
  unfold endg
  have := zer_lt n
  simp [beb_len]
  omega
theorem info73 : (Tryz.prog.info? 137).map (·.size) = some 73 := by kernel_rfl
theorem hc_one (s r : List Nat) (c : Nat) : (hc s r c).toArray.all (·.oneCell') = true := by
  rw [Array.all_eq_true_iff_forall_mem]
  intro u hu
  have hu' : u ∈ hc s r c := by simpa using hu
  unfold hc at hu'
  rcases List.mem_append.1 hu' with h | h
  · exact wv_one _ u h
  · rcases List.mem_append.1 h with h | h
    · exact bv_one _ u h
    · simp at h; subst h; rfl
theorem zero73 : Tryz.zeroCells137.size = 73 := by kernel_rfl

set_option maxRecDepth 1000000 in
set_option maxHeartbeats 1000000 in
theorem hsum_any (w : World) (g : Nat) (xs : List Nat) (hcb : Cb w) (hh0 : HS w g xs) (hx : ∀ x ∈ xs, x < 256) (hlen : xs.length ≤ 140737488351232) :
    Calls Tryz.prog 52 #[.pointer (some ⟨g, 0, none⟩)] w fun e w' => e = .returned (.agg (bv (sha xs)).toArray) ∧ Below w.heap.size w w' := by
  have HCB := hide hcb
  have HH := hide hh0
  have HB0 := hide (hh0.hb hx)
  have HXB := hide hx
  have HLE := hide hlen
  clear hcb hh0 hx hlen
  have HP8 := hide HB0.out.s8
  have HP6 := hide HB0.out.r64
  have HB1 : Hid ((w.alloc (.cells (bv (List.replicate 32 0)).toArray 77)).heap[g]? = some (.cells (hc (abs xs hh (xs.length / 64)) (fillz (tl xs)) xs.length).toArray 137 (0, 0))) := blk_alloc _ HB0.out.b
  have HI7 : Hid ((Tryz.prog.info? 137).map (·.size) = some (hc (abs xs hh (xs.length / 64)) (fillz (tl xs)) xs.length).toArray.size) := by
    show _ = _
    rw [List.size_toArray, hc_len HB0.out.s8 HB0.out.r64]
    exact info73
  have HSZ : Hid (Tryz.zeroCells137.size = (hc (abs xs hh (xs.length / 64)) (fillz (tl xs)) xs.length).toArray.size) := by
    have e : (hc (abs xs hh (xs.length / 64)) (fillz (tl xs)) xs.length).toArray.size = 73 := by rw [List.size_toArray, hc_len HB0.out.s8 HB0.out.r64]
    show _ = _
    rw [e]
    exact zero73
  have HON := hide (hc_one (abs xs hh (xs.length / 64)) (fillz (tl xs)) xs.length)
  have HGC : Hid ((hc (abs xs hh (xs.length / 64)) (fillz (tl xs)) xs.length).toArray[72]? = some (.int .u64 (xs.length : Nat))) := hc_getc HB0.out.s8 HB0.out.r64
  have HSX : Hid (∀ wx k, wx.heap[k]? = some (.cells (hc (abs xs hh (xs.length / 64)) (fillz (tl xs)) xs.length).toArray 137 (0, 0)) → HS wx k xs) := fun wx k h => ⟨h⟩
  have HHB := hide HB0.out.b
  clear HB0
  have HGL := hide (blk_lt HH.out.b)
  generalize hc (abs xs hh (xs.length / 64)) (fillz (tl xs)) xs.length = HC at *
  have HR2 : Hid ((((w.alloc (.cells (bv (List.replicate 32 0)).toArray 77)).alloc (.cells Tryz.zeroCells137 137)).setRow (w.heap.size + 1) HC.toArray).heap[w.heap.size]? = some (.cells (bv (List.replicate 32 0)).toArray 77 (0, 0))) := by
    show _ = _
    rw [row_other (by omega)]
    exact blk_alloc _ (heap_alloc_new w _)
  have HE2 : Hid ((((w.alloc (.cells (bv (List.replicate 32 0)).toArray 77)).alloc (.cells Tryz.zeroCells137 137)).setRow (w.heap.size + 1) HC.toArray).heap[w.heap.size + 1]? = some (.cells HC.toArray 137 (0, 0))) := row_same (alloc2_new _ _ _)
  have HL2 : Hid (Below w.heap.size w (((w.alloc (.cells (bv (List.replicate 32 0)).toArray 77)).alloc (.cells Tryz.zeroCells137 137)).setRow (w.heap.size + 1) HC.toArray)) := (((Below.refl _ _).alloc (Nat.le_refl _) _).alloc (by simp) _).trans ((row_kp _ _ _).below (by simp; omega) (fun q e => by omega))
  rw [z32_lit] at HB1
  go_enter Tryz.func52, Tryz.ntmps52
  go_wp2_with (first
    | (refine wpList_loadAll rfl rfl g HC.toArray 137 rfl HB1.out Tryz.underlying137 HI7.out ?_)
    | (refine wpList_storeRow rfl rfl (w.heap.size + 1) _ HC.toArray 137 rfl rfl (alloc2_new _ _ _) HI7.out HSZ.out HON.out ?_; rw [← z32_lit]; generalize ((w.alloc (.cells (bv (List.replicate 32 0)).toArray 77)).alloc (.cells Tryz.zeroCells137 137)).setRow (w.heap.size + 1) HC.toArray = w2 at *; have c7 : w2.cell? ⟨g, 72, none⟩ = some (.int .u64 (xs.length : Nat)) := blk_cell ((HL2.out.block g HGL.out).trans HHB.out) HGC.out))
  generalize hB : w.heap.size = B at *
  have HBB := hide hB
  clear hB c7
  have hlb : xs.length ≤ 140737488355328 := by have := HLE.out; omega
  refine (ending_any w2 xs.length hlb).mono ?_
  rintro e w3 ⟨v3, rfl, ho3, hb3⟩
  have HS2 := hide (HSX.out w2 (B + 1) HE2.out)
  have HS3 := hide (HS2.out.below hb3)
  have HL3 : Hid (Below B w w3) := HL2.out.trans (hb3.mono (by have := HL2.out.size; have := HBB.out; omega))
  have HEL := hide (blk_lt HE2.out)
  have HV3 : Hid (BSl w3 v3 (endg xs.length)) := BSl.own ho3 (endg_byte _)
  have HN3 : Hid (v3.ownBlock ≠ some (B + 1)) := fun h => by
    have := (ho3.lt (B + 1) h).1
    have := HEL.out
    omega
  have HR3 := hide ((hb3.block B (blk_lt HR2.out)).trans HR2.out)
  have HC3 := hide (HCB.out.below (by rw [HBB.out]; exact HL3.out))
  obtain ⟨a3, c3, hv3, hv1, hv2, hv4⟩ := own_form ho3
  subst hv3
  clear hv1 hv2 hv4 ho3 hb3 HE2 HR2 HL2 HS2 hlb
  go_wp2_with fail
  refine (write_any w3 (B + 1) _ xs (endg xs.length) HC3.out (by have := HCB.out.pos; have := HBB.out; omega) HS3.out HXB.out HV3.out (fun _ => HN3.out) (by have := HLE.out; have := endg_len xs.length; omega)).mono ?_
  rintro e w4 ⟨rfl, hs4, hk4⟩
  rw [← pad_endg] at hs4
  have HB4 := hide (hs4.hb (pad_byte xs HXB.out))
  have HR4 := hide ((hk4.block B (blk_lt HR3.out) (by omega)).trans HR3.out)
  have HL4 : Hid (Below B w w4) := by
    have h3 := HL3.out.size
    have hb := HBB.out
    exact HL3.out.trans (hk4.below (by omega) (fun q e => by omega))
  clear hs4 hk4 HS3 HV3 HN3 HR3 HL3 HC3
  have HSH : Hid (sha xs = outb (abs (pad xs) hh ((pad xs).length / 64))) := rfl
  have HI8 : Hid ((Tryz.prog.info? 93).map (·.size) = some (wv (abs (pad xs) hh ((pad xs).length / 64))).length) := by
    have h := info8w _ HB4.out.s8
    show _ = _
    simpa using h
  have HLD : Hid (∀ j v, (wv (abs (pad xs) hh ((pad xs).length / 64)))[j]? = some v → w4.cell? ⟨B + 1, 0 + j, none⟩ = some v) := by
    intro j v hv
    rw [Nat.zero_add]
    exact blk_cell HB4.out.b (hc_gets hv)
  have H8 := hide HB4.out.s8
  have HSW := hide HB4.out.sw
  clear HB4
  generalize abs (pad xs) hh ((pad xs).length / 64) = S at *
  go_wp2_with (refine wpList_loadPart rfl rfl (B + 1) 0 (wv S) rfl Tryz.underlying93 HI8.out HLD.out ?_)
  refine (laid_any w4 S H8.out HSW.out).mono ?_
  rintro e w5 ⟨rfl, hb5⟩
  have HR5 := hide ((hb5.block B (blk_lt HR4.out)).trans HR4.out)
  have HL5 : Hid (Below B w w5) := HL4.out.trans (hb5.mono (by have := HL4.out.size; have := HBB.out; omega))
  have HOL := hide (outb_len S H8.out)
  have HI32 : Hid ((Tryz.prog.info? 77).map (·.size) = some (bv (outb S)).toArray.size) := by
    have h := info32
    show _ = _
    simpa [bv_len, HOL.out] using h
  have HSZ2 : Hid ((bv (List.replicate 32 0)).toArray.size = (bv (outb S)).toArray.size) := by show _ = _; simp [bv_len, HOL.out]
  have HON2 : Hid ((bv (outb S)).toArray.all (·.oneCell') = true) := by
    show _ = _
    rw [Array.all_eq_true_iff_forall_mem]
    intro u hu
    exact bv_one _ u (by simpa using hu)
  generalize outb S = D at *
  go_wp2_with (refine wpList_storeRow rfl rfl B _ (bv D).toArray 77 rfl rfl HR5.out HI32.out HSZ2.out HON2.out ?_)
  refine bodyPost_ret (v := .agg (bv D).toArray) ((results_one (p := 2) (ty := 77) rfl _ _ _).trans (run_loadVar_row (P := Tryz.prog) _ B 77 77 (bv D).toArray (0, 0) _ (row_same HR5.out) Tryz.underlying77 rfl HI32.out)) rfl ⟨by rw [HSH.out], ?_⟩
  rw [HBB.out]
  exact HL5.out.trans ((row_kp w5 B _).below (by have := HL5.out.size; have := HBB.out; omega) (fun q e => by omega))
end
section
open Go.RowKit Go
theorem own_lt {w : World} {v : Value} {xs : List Nat} (h : BSl w v xs) (h0 : xs ≠ []) {k : Nat} (hk : v.ownBlock = some k) : k < w.heap.size := by
  obtain ⟨⟨a, cap, rfl, hn, hc⟩, hmax, hb⟩ := h
  rcases hc with hc | ⟨b, off, rfl, hc⟩
  · exact absurd hc h0
  · simp [Value.ownBlock] at hk
    subst hk
    have h1 := hc 0 (List.length_pos_iff.2 h0)
    by_cases hlt : b < w.heap.size
    · exact hlt
    · exfalso
      have e : w.heap[b]? = none := Array.getElem?_eq_none (by omega)
      simp [World.cell?, e] at h1

set_option maxRecDepth 1000000 in
set_option maxHeartbeats 1000000 in
theorem sum_any (w : World) (v : Value) (xs : List Nat) (hcb : Cb w) (hsl : BSl w v xs) (hlen : xs.length ≤ 140737488351232) :
    Calls Tryz.prog 31 #[v] w fun e w' => e = .returned (.agg (bv (sha xs)).toArray) ∧ Below w.heap.size w w' := by
  have HCB := hide hcb
  have HSL := hide hsl
  have HLE := hide hlen
  clear hcb hsl hlen
  go_enter Tryz.func31, Tryz.ntmps31
  go_wp2_with fail
  rw [← z32_lit]
  have HR1 : Hid ((w.alloc (.cells (bv (List.replicate 32 0)).toArray 77)).heap[w.heap.size]? = some (.cells (bv (List.replicate 32 0)).toArray 77 (0, 0))) := heap_alloc_new w _
  have HL1 : Hid (Below w.heap.size w (w.alloc (.cells (bv (List.replicate 32 0)).toArray 77))) := (Below.refl _ _).alloc (Nat.le_refl _) _
  generalize w.alloc (.cells (bv (List.replicate 32 0)).toArray 77) = w1 at *
  refine (new_any w1).mono ?_
  rintro e w2 ⟨g, rfl, hg2, hs2, hb2⟩
  have HS2 := hide hs2
  have HG2 := hide hg2
  have HR2 := hide ((hb2.block _ (blk_lt HR1.out)).trans HR1.out)
  have HRL := hide (blk_lt HR1.out)
  have HL2 : Hid (Below w.heap.size w w2) := HL1.out.trans (hb2.mono HL1.out.size)
  have HC2 := hide (HCB.out.below HL2.out)
  have HV2 := hide (HSL.out.move (keep_below HL2.out))
  clear hg2 hs2 hb2 HR1 HL1
  go_wp2_with fail
  refine (write_any w2 g v [] xs HC2.out (by have := HRL.out; have := HG2.out; have := HCB.out.pos; omega) HS2.out (fun x hx => by cases hx) HV2.out (fun h0 h => by have := own_lt HSL.out h0 h; have := HRL.out; have := HG2.out; omega) (by have := HLE.out; simp; omega)).mono ?_
  rintro e w3 ⟨rfl, hs3, hk3⟩
  rw [List.nil_append] at hs3
  have HS3 := hide hs3
  have HR3 := hide ((hk3.block _ (blk_lt HR2.out) (by have := HRL.out; have := HG2.out; omega)).trans HR2.out)
  have HL3 : Hid (Below w.heap.size w w3) := by
    have h2 := HL2.out.size
    exact HL2.out.trans (hk3.below (by omega) (fun q e => by have := HRL.out; have := HG2.out; omega))
  have HC3 := hide (HCB.out.below HL3.out)
  clear hs3 hk3 HS2 HR2 HL2 HC2 HV2
  go_wp2_with fail
  refine (hsum_any w3 g xs HC3.out HS3.out HSL.out.byte HLE.out).mono ?_
  rintro e w4 ⟨rfl, hb4⟩
  have HR4 := hide ((hb4.block _ (blk_lt HR3.out)).trans HR3.out)
  have HL4 : Hid (Below w.heap.size w w4) := HL3.out.trans (hb4.mono HL3.out.size)
  have HOL := hide (sha_len xs)
  have HI32 := hide (info32d xs)
  have HON := hide (one32 xs)
  clear hb4 HR3 HL3 HC3 HS3
  have HSZ : Hid ((bv (List.replicate 32 0)).toArray.size = (bv (sha xs)).toArray.size) := by show _ = _; simp [bv_len, HOL.out]
  generalize hD : sha xs = D at *
  have HD := hide hD
  clear hD
  go_wp2_with (refine wpList_storeRow rfl rfl w.heap.size _ (bv D).toArray 77 rfl rfl HR4.out HI32.out HSZ.out HON.out ?_)
  refine bodyPost_ret (v := .agg (bv D).toArray) ((results_one (p := 2) (ty := 77) rfl _ _ _).trans (run_loadVar_row (P := Tryz.prog) _ w.heap.size 77 77 (bv D).toArray (0, 0) _ (row_same HR4.out) Tryz.underlying77 rfl HI32.out)) rfl ⟨by rw [HD.out], ?_⟩
  exact HL4.out.trans ((row_kp w4 w.heap.size _).below HL4.out.size (fun q e => by omega))
end
section
open Go.RowKit Go
set_option maxRecDepth 1000000 in
theorem equal_any (w : World) (v u : Value) (xs ys : List Nat) (h1 : BSl w v xs) (h2 : BSl w u ys) :
    Calls Tryz.prog 54 #[v, u] w fun e w' => e = .returned (.bool (decide (xs = ys))) ∧ Below w.heap.size w w' := by
  have e1 := h1.text
  have e2 := h2.text
  have H1 := hide h1.byte
  have H2 := hide h2.byte
  clear h1 h2
  go_enter Tryz.func54, Tryz.ntmps54
  go_wp2_with fail
  have e : ((nstr xs).toList == (nstr ys).toList) = decide (xs = ys) := by
    by_cases h : xs = ys
    · subst h; simp
    · have hn : ¬ (nstr xs).toList = (nstr ys).toList := fun e => h (nstr_inj H1.out H2.out e)
      rw [beq_eq_false_iff_ne.2 hn]
      simp [h]
  rw [e]
  go_ret
  exact ⟨rfl, Below.refl _ _⟩
end
section
open Go.RowKit
theorem lay_byte (m : Nat) (h : m < 9223372036854775808) : bits .or .u8 (bits .and .u64 (m : Int) 127 % 256) 128 = ((m % 128 + 128 : Nat) : Int) := by
  have h1 := u64_and_nat m 127 (by omega) (by omega)
  have h2 : m &&& 127 = m % 128 := Nat.and_two_pow_sub_one_eq_mod m 7
  rw [h2] at h1
  have h3 : bits .and .u64 (m : Int) 127 = ((m % 128 : Nat) : Int) := h1
  rw [h3]
  have e : ((m % 128 : Nat) : Int) % 256 = ((m % 128 : Nat) : Int) := by omega
  rw [e, u8_or128_right _ (by omega) (by omega)]
  omega
theorem pow_lid (f : Nat) (h : f ≤ 8) : 128 ^ (f + 1) ≤ 9223372036854775808 := by
  have h2 : 128 ^ (f + 1) ≤ 128 ^ 9 := Nat.pow_le_pow_right (by decide) (by omega)
  exact h2
theorem make9 (w : World) : (Instr.makeSlice 41 (.int .i64 0) (.int .i64 9)).run Tryz.prog w = .ok (.slice (some ⟨w.heap.size, 0, none⟩) 0 9) (w.alloc (.cells #[.int .u8 0, .int .u8 0, .int .u8 0, .int .u8 0, .int .u8 0, .int .u8 0, .int .u8 0, .int .u8 0, .int .u8 0] 5)) := by kernel_rfl

set_option maxRecDepth 1000000 in
set_option maxHeartbeats 400000 in
theorem vlay_any (n : Int) (w : World) (h0 : 0 ≤ n) (h1 : n < 9223372036854775808) :
    Calls Tryz.prog 65 #[.int .u64 n] w fun e w' => ∃ v, e = .returned (.tuple #[v, .int .i64 0]) ∧ w'.ownsRow w.heap.size 5 1 v (digs 9 n.toNat).length (bv (digs 9 n.toNat)) ∧ Below w.heap.size w w' := by
  have hmk := make9
  obtain ⟨i5, hi, hz0, hz1, hz2⟩ := info5_ex
  have HI : Hid (Tryz.prog.info? 5 = some i5) := hi
  have HZ0 : Hid (i5.zero = some (.int .u8 0)) := hz0
  have HZ1 : Hid (i5.size = 1) := hz1
  have HZ2 : Hid (i5.bytes = 1) := hz2
  clear hi hz0 hz1 hz2
  generalize hB : w.heap.size = B
  generalize hD : digs 9 n.toNat = D
  have HB := hide hB
  have HD := hide hD
  clear hB hD
  go_enter Tryz.func65, Tryz.ntmps65
  go_wp2
  refine scope_again 0 (fun a' w' => Below B w w' ∧ ∃ (m f k : Nat) (pre : List Nat) (v u5 u6 u7 u8 u9 u10 u11 u12 u13 u14 u15 u16 u17 u18 u19 u20 u21 u22 u23 : Value), a' = { tmps := #[.int .u64 m, undef, .slice none 0 0, .int .i64 0, v, u5, u6, u7, u8, u9, u10, u11, u12, u13, u14, u15, u16, u17, u18, u19, u20, u21, u22, u23], defers := [] } ∧ m < 128 ^ (f + 1) ∧ f + k = 8 ∧ w'.ownsRow B 5 1 v k (bv pre) ∧ pre ++ digs (f + 1) m = D) (fun a' _ => (intOf (a'.tmps.getD 0 undef)).toNat) rfl ?_ ?_
  · clear HD hmk h0 h1
    rintro a' w' ⟨hbel, m, f, k, pre, v, u5, u6, u7, u8, u9, u10, u11, u12, u13, u14, u15, u16, u17, u18, u19, u20, u21, u22, u23, rfl, hm, hfk, hown, hrel⟩
    have HREL := hide hrel
    have HFK := hide hfk
    have HM := hide hm
    clear hrel hfk hm
    by_cases hb : 128 ≤ m
    · have hb' : (128 : Int) ≤ (m : Int) := by omega
      have HBY := hide (lay_byte m (by have := pow_lid f (by have := HFK.out; omega); have := HM.out; omega))
      go_wp2_with (first | (at_builtin; refine wpList_append_own _ rfl _ _ 41 rfl B 5 i5 (.int .u8 0) 1 1 Tryz.underlying41 HI.out HZ0.out HZ1.out HZ2.out rfl (by decide) _ _ _ rfl (hown.alloc _) ⟨w'.heap.size, 0, none⟩ 1 1 [.int .u8 (bits .or .u8 (bits .and .u64 (m : Int) 127 % 256) 128)] rfl rfl ?c1 ?c2 ?c3 ?c4 ?c5 ?_))
      case c1 => exact cell_one_new _ _ _
      case c2 => intro u hu; simp at hu; subst hu; rfl
      case c3 => have := HFK.out; unfold maxLen; omega
      case c4 => have := HFK.out; omega
      case c5 => have := hbel.size; have := HB.out; simp; omega
      intro v' w1 hown' hgrow _
      go_wp2
      obtain ⟨g, hg, hlt⟩ := fuel_down hb HM.out
      go_step3
      have hbel' : Below B w w1 := (hbel.alloc (by have := hbel.size; have := HB.out; omega) _).grown hgrow (by have := hbel.size; have := HB.out; simp; omega) (fun q hq => (hown.lt q hq).1)
      rw [HBY.out] at hown'
      refine ⟨rfl, ⟨hbel', m / 128, g, k + 1, pre ++ [m % 128 + 128], v', _, _, _, _, _, _, _, _, _, _, _, _, _, _, _, _, _, _, _, rfl, hlt, by have := HFK.out; omega, by rw [bv_app]; exact hown', ?_⟩, ?_⟩
      · have h := HREL.out
        rw [digs_big hb, hg] at h
        rw [List.append_assoc]
        exact h
      · simp [intOf]; omega
    · have hb' : (m : Int) < 128 := by omega
      go_wp2_with (first | (at_builtin; refine wpList_append_own _ rfl _ _ 41 rfl B 5 i5 (.int .u8 0) 1 1 Tryz.underlying41 HI.out HZ0.out HZ1.out HZ2.out rfl (by decide) _ _ _ rfl (hown.alloc _) ⟨w'.heap.size, 0, none⟩ 1 1 [.int .u8 (m : Int)] rfl rfl ?c1 ?c2 ?c3 ?c4 ?c5 ?_))
      case c1 => exact cell_one_new _ _ _
      case c2 => intro u hu; simp at hu; subst hu; rfl
      case c3 => have := HFK.out; unfold maxLen; omega
      case c4 => have := HFK.out; omega
      case c5 => have := hbel.size; have := HB.out; simp; omega
      intro v' w1 hown' hgrow _
      go_wp2
      have hbel' : Below B w w1 := (hbel.alloc (by have := hbel.size; have := HB.out; omega) _).grown hgrow (by have := hbel.size; have := HB.out; simp; omega) (fun q hq => (hown.lt q hq).1)
      simp only [Exit.jump]
      go_ret2
      have h := HREL.out
      rw [digs_small (by omega)] at h
      refine ⟨v', rfl, ?_, hbel'⟩
      have hl : D.length = k + 1 := by
        have h1 := hown'.1
        rw [← h]
        simp [bv] at h1 ⊢
        omega
      rw [hl, ← h, bv_app]
      exact hown'
  · intro HR
    go_wp2
    go_step3
    rename_i hK
    refine hK _ _ (HR.out _ _ ⟨?_, n.toNat, 8, 0, [], _, _, _, _, _, _, _, _, _, _, _, _, _, _, _, _, _, _, _, _, by rw [Int.toNat_of_nonneg h0], ?_, rfl, ?_, by simpa using HD.out⟩)
    · exact (Below.refl _ _).alloc (by have := HB.out; omega) _
    · show n.toNat < 9223372036854775808
      omega
    · rw [← HB.out]
      exact World.ownsRow_made w _ 9 (Nat.le_refl _) (by decide) rfl
end
section
open Go.RowKit Go
def dfit (h n : Nat) : Nat := if h ≠ 18 ∧ h ≠ 0 then 30 else if (h = 18 ∧ n ≠ 32) ∨ (h = 0 ∧ 64 < n) then 31 else 0

set_option maxRecDepth 1000000 in
theorem fits_any (w : World) (h n : Nat) (hh : h < 18446744073709551616) (hn : n < 18446744073709551616) :
    Calls Tryz.prog 104 #[.int .u64 (h : Nat), .int .u64 (n : Nat)] w fun e w' => e = .returned (.int .i64 (dfit h n : Nat)) ∧ w' = w := by
  by_cases h18 : h = 18
  · subst h18
    by_cases hn32 : n = 32
    · subst hn32
      go_enter Tryz.func104, Tryz.ntmps104
      go_wp2_with fail
      go_ret
      exact ⟨rfl, rfl⟩
    · have e : dfit 18 n = 31 := by simp [dfit, hn32]
      rw [e]
      have g : ((n : Int) != 32) = true := bne_iff_ne.2 (by omega)
      go_enter Tryz.func104, Tryz.ntmps104
      go_wp2_with fail
      go_ret
      exact ⟨rfl, rfl⟩
  · by_cases h0 : h = 0
    · subst h0
      by_cases hn64 : 64 < n
      · have e : dfit 0 n = 31 := by simp [dfit, hn64]
        rw [e]
        have g : (64 : Int) < (n : Int) := by omega
        go_enter Tryz.func104, Tryz.ntmps104
        go_wp2_with fail
        go_ret
        exact ⟨rfl, rfl⟩
      · have e : dfit 0 n = 0 := by simp [dfit, hn64]
        rw [e]
        have g : ¬ (64 : Int) < (n : Int) := by omega
        go_enter Tryz.func104, Tryz.ntmps104
        go_wp2_with fail
        go_ret
        exact ⟨rfl, rfl⟩
    · have e : dfit h n = 30 := by simp [dfit, h18, h0]
      rw [e]
      have g1 : ((h : Int) != 18) = true := bne_iff_ne.2 (by omega)
      have g2 : ((h : Int) != 0) = true := bne_iff_ne.2 (by omega)
      go_enter Tryz.func104, Tryz.ntmps104
      go_wp2_with fail
      go_ret
      exact ⟨rfl, rfl⟩

set_option maxRecDepth 1000000 in
set_option maxHeartbeats 1000000 in
theorem holds3_any (w : World) (h : Nat) (v u : Value) (d xs : List Nat) (hcb : Cb w) (hh : h < 18446744073709551616) (h1 : BSl w v d) (h2 : BSl w u xs) (hlen : xs.length ≤ 140737488351232) :
    Calls Tryz.prog 33 #[.int .u64 (h : Nat), v, u] w fun e w' => e = .returned (.bool (dholds h d xs)) ∧ Below w.heap.size w w' := by
  have HCB := hide hcb
  have H1 := hide h1
  have H2 := hide h2
  have HL := hide hlen
  clear hlen hcb
  by_cases h18 : h = 18
  · subst h18
    have HE : Hid (dholds 18 d xs = decide (d = sha xs)) := by show _ = _; simp [dholds]
    clear h1 h2
    go_enter Tryz.func33, Tryz.ntmps33
    go_wp2_with fail
    refine (sum_any w u xs HCB.out H2.out HL.out).mono ?_
    rintro e w1 ⟨rfl, hb1⟩
    have HB1 := hide hb1
    have H11 := hide (H1.out.move (keep_below hb1))
    have HI := hide (info32d xs)
    have HO := hide (one32 xs)
    have HSL := hide (sha_len xs)
    have HSB := hide (sha_byte xs)
    generalize sha xs = D at *
    clear hb1
    go_wp2_with (refine wpList_storeRow rfl rfl w1.heap.size _ (bv D).toArray 77 rfl rfl (heap_alloc_new w1 _) HI.out (by simp [bv_len, HSL.out]) HO.out ?_)
    rw [World.setRow_alloc_new]
    have HBB := hide (bsl_block (heap_alloc_new w1 (.cells (bv D).toArray 77)) HSB.out (by rw [HSL.out]; decide))
    rw [HSL.out] at HBB
    refine (equal_any _ _ _ d D (H11.out.move (keep_alloc w1 _)) HBB.out).mono ?_
    rintro e w2 ⟨rfl, hb2⟩
    have HB2 : Hid (Below w.heap.size w w2) := (HB1.out.alloc HB1.out.size _).trans (hb2.mono (by have := HB1.out.size; simp; omega))
    clear hb2
    rw [← HE.out]
    go_wp2
    go_ret
    exact ⟨rfl, HB2.out⟩
  · have g18 : ((h : Int) == 18) = false := beq_eq_false_iff_ne.2 (by omega)
    obtain ⟨⟨a1, cap1, rfl, hn1, hc1⟩, hm1, hby1⟩ := h1
    clear hn1 hc1 hby1 h2
    by_cases h0 : h = 0
    · subst h0
      by_cases hd : d.length ≤ 64
      · have hd' : (d.length : Int) ≤ 64 := by omega
        have HE : Hid (dholds 0 d xs = decide (d = xs)) := by show _ = _; simp [dholds, hd]
        go_enter Tryz.func33, Tryz.ntmps33
        go_wp2_with fail
        refine (equal_any _ _ _ d xs H1.out H2.out).mono ?_
        rintro e w2 ⟨rfl, hb2⟩
        have HB2 := hide hb2
        clear hb2
        rw [← HE.out]
        go_wp2
        go_ret
        exact ⟨rfl, HB2.out⟩
      · have hd' : ¬ (d.length : Int) ≤ 64 := by omega
        have e : dholds 0 d xs = false := by simp [dholds, hd]
        rw [e]
        go_enter Tryz.func33, Tryz.ntmps33
        go_wp2
        go_ret
        exact ⟨rfl, Below.refl _ _⟩
    · have e : dholds h d xs = false := by simp [dholds, h18, h0]
      rw [e]
      have g0 : ((h : Int) == 0) = false := beq_eq_false_iff_ne.2 (by omega)
      go_enter Tryz.func33, Tryz.ntmps33
      go_wp2
      go_ret
      exact ⟨rfl, Below.refl _ _⟩
end
section
open Go.RowKit
theorem own_below {w w' : World} {B base : Nat} {e : TypeId} {size : Nat} {v : Value} {n : Nat} {xs : List Value} (h : w.ownsRow base e size v n xs) (hb : Below w.heap.size w w') (_hB : B = B) : w'.ownsRow base e size v n xs :=
  (Kp.of_below (S := fun _ => False) hb).owns h (fun _ _ hf => hf)
end
section
open Go.RowKit Go
theorem dlay_fit (h : Nat) (d : List Nat) : dlay h d = if dfit h d.length = 0 then (h :: d.length :: d, 0) else ([], dfit h d.length) := by
  unfold dlay dfit
  by_cases h1 : h ≠ 18 ∧ h ≠ 0
  · rw [if_pos h1, if_pos h1]; rfl
  · rw [if_neg h1, if_neg h1]
    by_cases h2 : (h = 18 ∧ d.length ≠ 32) ∨ (h = 0 ∧ 64 < d.length)
    · rw [if_pos h2, if_pos h2]; rfl
    · rw [if_neg h2, if_neg h2]; rfl
theorem dfit_ok {h n : Nat} (e : dfit h n = 0) : (h = 18 ∨ h = 0) ∧ n ≤ 64 := by
  unfold dfit at e
  by_cases h1 : h ≠ 18 ∧ h ≠ 0
  · rw [if_pos h1] at e; cases e
  · rw [if_neg h1] at e
    by_cases h2 : (h = 18 ∧ n ≠ 32) ∨ (h = 0 ∧ 64 < n)
    · rw [if_pos h2] at e; cases e
    · omega
theorem dfit_lt (h n : Nat) : dfit h n < 32 := by
  unfold dfit
  split
  · decide
  · split <;> decide

set_option maxRecDepth 1000000 in
set_option maxHeartbeats 1000000 in
theorem dlay_any (w : World) (h : Nat) (v : Value) (d : List Nat) (hh : h < 18446744073709551616) (hsl : BSl w v d) :
    Calls Tryz.prog 64 #[.int .u64 (h : Nat), v] w fun e w' => ∃ v', e = .returned (.tuple #[v', .int .i64 ((dlay h d).2 : Nat)]) ∧ w'.ownsRow w.heap.size 5 1 v' (dlay h d).1.length (bv (dlay h d).1) ∧ Below w.heap.size w w' := by
  have HSL := hide hsl
  obtain ⟨⟨a, cap, rfl, hn, hc⟩, hmax, hb⟩ := hsl
  clear hn hc hb
  have HE := hide (dlay_fit h d)
  have HF := hide (dfit_lt h d.length)
  have HK := hide (dfit_ok (h := h) (n := d.length))
  generalize hB : w.heap.size = B at *
  have HB := hide hB
  clear hB
  go_enter Tryz.func64, Tryz.ntmps64
  go_wp2_with fail
  refine (fits_any w h d.length hh (by omega)).mono ?_
  rintro e w' ⟨rfl, rfl⟩
  generalize dfit h d.length = f at *
  by_cases h0 : f = 0
  · subst h0
    have hk := HK.out rfl
    rw [if_pos rfl] at HE
    go_wp2_with fail
    refine (vlay_any (h : Int) w' (by omega) (by omega)).mono ?_
    rintro e w1 ⟨v1, rfl, ho1, hb1⟩
    rw [Int.toNat_natCast, digs_small (by omega)] at ho1
    have HO1 := hide ho1
    have HB1 := hide hb1
    obtain ⟨a1, c1, hv1, _, _, _⟩ := own_form ho1
    subst hv1
    clear ho1 hb1
    go_wp2_with fail
    refine (vlay_any (d.length : Int) w1 (by omega) (by omega)).mono ?_
    rintro e w2 ⟨v2, rfl, ho2, hb2⟩
    rw [Int.toNat_natCast, digs_small (by omega)] at ho2
    have HS2 : Hid (BSl w2 v2 [d.length]) := BSl.own ho2 (by simp; omega)
    have HO2 : Hid (w2.ownsRow B 5 1 (.slice a1 [h].length c1) 1 (bv [h])) := own_mono (own_below HO1.out hb2 (rfl : 0 = 0)) (by have := HB.out; omega)
    have HB2 : Hid (Below B w' w2) := by
      rw [HB.out] at HB1
      exact HB1.out.trans (hb2.mono (by have := HB1.out.size; have := HB.out; omega))
    have hs2 : B ≤ w2.heap.size := by have := HB2.out.size; have := HB.out; omega
    obtain ⟨a2, c2, hv2, _, _, _⟩ := own_form ho2
    subst hv2
    clear ho2 hb2 HO1 HB1
    go_wp2_with (at_builtin; refine append_bsl rfl _ _ rfl B _ 1 [h] rfl HO2.out _ [d.length] rfl HS2.out ?b1 ?b2 ?_)
    case b1 => simp
    case b2 => exact hs2
    intro v3 w3 ho3 hg3
    have hlo := fun g (h : _ = some g) => (HO2.out.lt g h).1
    have HB3 : Hid (Below B w' w3) := HB2.out.grown hg3 hs2 (fun g hg => hlo g hg)
    have HO3 := hide ho3
    have HS3 : Hid (BSl w3 (.slice a d.length cap) d) := HSL.out.move (keep_below (by rw [HB.out]; exact HB3.out))
    have hs3 : B ≤ w3.heap.size := by have := HB3.out.size; have := HB.out; omega
    obtain ⟨a3, c3, hv3, _, _, _⟩ := own_form ho3
    subst hv3
    clear ho3 hg3 hlo HO2 HB2 HS2 hs2
    go_wp2_with (at_builtin; refine append_bsl rfl _ _ rfl B _ 2 [h, d.length] rfl HO3.out _ d rfl HS3.out ?b1 ?b2 ?_)
    case b1 => omega
    case b2 => exact hs3
    intro v4 w4 ho4 hg4
    have hlo := fun g (h : _ = some g) => (HO3.out.lt g h).1
    have HB4 : Hid (Below B w' w4) := HB3.out.grown hg4 hs3 (fun g hg => hlo g hg)
    have HO4 := hide ho4
    obtain ⟨a4, c4, hv4, _, _, _⟩ := own_form ho4
    subst hv4
    clear ho4 hg4 hlo HO3 HB3 HS3 hs3
    go_wp2_with fail
    go_ret2
    refine ⟨_, by rw [HE.out]; rfl, ?_, HB4.out⟩
    rw [HE.out]
    have e : (h :: d.length :: d, 0).1.length = 2 + d.length := by simp; omega
    rw [e]
    exact HO4.out
  · have g : ((f : Int) != 0) = true := bne_iff_ne.2 (by omega)
    rw [if_neg h0] at HE
    go_wp2_with fail
    go_ret2
    exact ⟨.slice none 0 0, by rw [HE.out]; rfl, by rw [HE.out]; exact World.ownsRow_nil _ _ _ _, Below.refl _ _⟩
end
section
open Go.RowKit Go
theorem dread_fit {xs : List Nat} {hn u n m : Nat} (h : dnum xs = (hn, u, 0)) (h2 : dnum (xs.drop u) = (n, m, 0)) :
    (dfit hn n ≠ 0 → dread xs = (0, [], 0, dfit hn n)) ∧ (dfit hn n = 0 → (xs.length - (u + m) < n → dread xs = (0, [], 0, 32)) ∧ (¬ xs.length - (u + m) < n → dread xs = (hn, (xs.drop (u + m)).take n, u + m + n, 0))) := by
  have K := (dread_rest h).2 n m h2
  unfold dfit
  by_cases h1 : hn ≠ 18 ∧ hn ≠ 0
  · rw [if_pos h1]
    exact ⟨fun _ => K.1 h1, fun h => by cases h⟩
  · rw [if_neg h1]
    have K2 := K.2 h1
    by_cases h3 : (hn = 18 ∧ n ≠ 32) ∨ (hn = 0 ∧ 64 < n)
    · rw [if_pos h3]
      exact ⟨fun _ => K2.1 h3, fun h => by cases h⟩
    · rw [if_neg h3]
      exact ⟨fun h => absurd rfl h, fun _ => K2.2 h3⟩
end
section
open Go.RowKit Go
theorem dnum_small {n : Nat} (h : n < 128) (r : List Nat) : dnum (n :: r) = (n, 1, 0) := by
  have e : rd 0 0 (n :: r) = (n, 1, 0) := by
    rw [rd]
    have h1 : ¬ 128 ≤ n := by omega
    simp [h1]
    omega
  unfold dnum
  rw [e]
  rfl
theorem dread_laid {h : Nat} {d ms : List Nat} (hk : (h = 18 ∧ d.length = 32) ∨ (h = 0 ∧ d.length ≤ 64)) : dread (h :: d.length :: d ++ ms) = (h, d, 2 + d.length, 0) := by
  have e1 : dnum (h :: d.length :: d ++ ms) = (h, 1, 0) := dnum_small (by omega) _
  have e2 : dnum ((h :: d.length :: d ++ ms).drop 1) = (d.length, 1, 0) := dnum_small (by omega) _
  have f : dfit h d.length = 0 := by
    unfold dfit
    rw [if_neg (by omega), if_neg (by omega)]
  have K := ((dread_fit e1 e2).2 f).2 (by simp)
  rw [K]
  simp
theorem dlay_ok {h : Nat} {d : List Nat} (hk : (h = 18 ∧ d.length = 32) ∨ (h = 0 ∧ d.length ≤ 64)) : dlay h d = (h :: d.length :: d, 0) := by
  unfold dlay
  rw [if_neg (by omega), if_neg (by omega)]
end
section
open Go.RowKit Go
theorem rd_digs : ∀ (f n k m : Nat) (r : List Nat), k + f = 9 → n < 128 ^ f → (k = 0 ∨ 0 < n) → rd k m (digs f n ++ r) = (m + n * 128 ^ k, k + (digs f n).length, 0)
  | 0, n, k, m, r, hk, hn, h0 => by
    simp at hn
    omega
  | f + 1, n, k, m, r, hk, hn, h0 => by
    by_cases h : n < 128
    · rw [digs_small h]
      simp only [List.cons_append, List.nil_append, List.length_singleton]
      unfold rd
      rw [if_neg (by omega), if_neg (by omega), if_neg (by omega), Nat.mod_eq_of_lt h]
    · have hge : 128 ≤ n := by omega
      rw [digs_big hge, List.cons_append]
      unfold rd
      rw [if_neg (by omega), if_pos (by omega), rd_digs f (n / 128) (k + 1) _ r (by omega) (by rw [Nat.pow_succ] at hn; exact Nat.div_lt_of_lt_mul (by omega)) (.inr (Nat.div_pos hge (by decide)))]
      have e1 : (n % 128 + 128) % 128 = n % 128 := by omega
      have e2 : n % 128 * 128 ^ k + n / 128 * 128 ^ (k + 1) = n * 128 ^ k := by
        rw [Nat.pow_succ, Nat.mul_comm (128 ^ k) 128, ← Nat.mul_assoc, ← Nat.add_mul]
        congr 1
        omega
      rw [e1, List.length_cons, Nat.add_assoc, e2]
      congr 2
      omega
theorem dnum_digs {n : Nat} (h : n < 9223372036854775808) (r : List Nat) : dnum (digs 9 n ++ r) = (n, (digs 9 n).length, 0) := by
  have e := rd_digs 9 n 0 0 r rfl (by have : (128 : Nat) ^ 9 = 9223372036854775808 := by decide
                                      omega) (.inl rfl)
  rw [Nat.pow_zero, Nat.mul_one, Nat.zero_add, Nat.zero_add] at e
  unfold dnum
  rw [e]
  simp
structure Lk where
  v : Int
  c : Nat
  h : Nat
  d : List Nat
def Lk.none : Lk := ⟨0, 0, 0, []⟩
def okd (h : Nat) (d : List Nat) : Prop := (h = 18 ∧ d.length = 32) ∨ (h = 0 ∧ d.length ≤ 64)
instance (h : Nat) (d : List Nat) : Decidable (okd h d) := inferInstanceAs (Decidable (_ ∨ _))
def lok (l : Lk) : Prop := (l.v = 0 ∧ l.c = 112 ∧ l.h = 18 ∧ l.d.length = 32) ∨ (l.v = 1 ∧ l.c < 9223372036854775808 ∧ okd l.h l.d)
instance (l : Lk) : Decidable (lok l) := inferInstanceAs (Decidable (_ ∨ _))
theorem lok_okd {l : Lk} (h : lok l) : okd l.h l.d := by
  rcases h with ⟨_, _, h1, h2⟩ | ⟨_, _, h⟩
  · exact .inl ⟨h1, h2⟩
  · exact h
def lbytes (l : Lk) : List Nat := if l.v = 0 then l.h :: l.d.length :: l.d else 1 :: digs 9 l.c ++ (l.h :: l.d.length :: l.d)
def lerr (e : Nat) : Nat := if e = 32 ∨ e = 33 then 42 else 43
def lthird (v : Int) (c at' : Nat) (b : List Nat) : Lk × Nat × Nat := if (dread (b.drop at')).2.2.2 = 0 then (⟨v, c, (dread (b.drop at')).1, (dread (b.drop at')).2.1⟩, at' + (dread (b.drop at')).2.2.1, 0) else (Lk.none, 0, lerr (dread (b.drop at')).2.2.2)
def lfirst (b : List Nat) : Lk × Nat × Nat :=
  if b.head? = some 18 then lthird 0 112 0 b
  else if (dnum b).2.2 ≠ 0 then (Lk.none, 0, 42) else if (dnum b).1 ≠ 1 then (Lk.none, 0, 41)
  else if (dnum (b.drop (dnum b).2.1)).2.2 ≠ 0 then (Lk.none, 0, 42)
  else lthird 1 (dnum (b.drop (dnum b).2.1)).1 ((dnum b).2.1 + (dnum (b.drop (dnum b).2.1)).2.1) b
theorem lfirst_bytes {l : Lk} (h : lok l) (ms : List Nat) : lfirst (lbytes l ++ ms) = (l, (lbytes l).length, 0) := by
  obtain ⟨v, c, hh, d⟩ := l
  have hk := lok_okd h
  simp only at hk
  have hr := dread_laid (ms := ms) hk
  rcases h with ⟨h1, h2, h3, h4⟩ | ⟨h1, h2, _⟩
  · simp only at h1 h2 h3 h4
    subst h1
    subst h2
    subst h3
    unfold lfirst lbytes
    simp only [if_true, List.cons_append, List.head?_cons]
    unfold lthird
    simp only [List.cons_append] at hr
    rw [List.drop_zero, hr]
    simp
    omega
  · simp only at h1 h2
    subst h1
    have e1 : lbytes ⟨1, c, hh, d⟩ = 1 :: (digs 9 c ++ (hh :: d.length :: d)) := rfl
    rw [e1]
    have n1 : dnum (1 :: (digs 9 c ++ (hh :: d.length :: d)) ++ ms) = (1, 1, 0) := by
      rw [List.cons_append]
      exact dnum_small (by decide) _
    have n2 : dnum ((1 :: (digs 9 c ++ (hh :: d.length :: d)) ++ ms).drop 1) = (c, (digs 9 c).length, 0) := by
      rw [List.cons_append, List.drop_succ_cons, List.drop_zero, List.append_assoc]
      exact dnum_digs h2 _
    have n3 : (1 :: (digs 9 c ++ (hh :: d.length :: d)) ++ ms).drop (1 + (digs 9 c).length) = hh :: d.length :: d ++ ms := by
      rw [List.cons_append, Nat.add_comm, List.drop_succ_cons, List.append_assoc, List.drop_append_of_le_length (Nat.le_refl _), List.drop_length, List.nil_append]
    unfold lfirst
    rw [if_neg (by simp), n1]
    simp only [ne_eq, not_true_eq_false, if_false]
    rw [n2]
    simp only [not_true_eq_false, if_false]
    unfold lthird
    rw [n3, hr]
    simp
    omega
end
section
open Go.RowKit Go
theorem lbytes_free {l m : Lk} (hl : lok l) (hm : lok m) {r : List Nat} (h : lbytes l ++ r = lbytes m) : l = m ∧ r = [] := by
  have e1 := lfirst_bytes hl r
  have e2 := lfirst_bytes hm []
  rw [List.append_nil] at e2
  rw [h, e2] at e1
  simp only [Prod.mk.injEq, and_true] at e1
  refine ⟨e1.1.symm, ?_⟩
  have := congrArg List.length h
  rw [List.length_append, e1.2] at this
  exact List.eq_nil_of_length_eq_zero (by omega)
theorem lbytes_inj {l m : Lk} (hl : lok l) (hm : lok m) (h : lbytes l = lbytes m) : l = m := (lbytes_free hl hm (r := []) (by rw [List.append_nil]; exact h)).1
theorem lbytes_len {l : Lk} (h : lok l) : (lbytes l).length ≤ 76 := by
  have hk := lok_okd h
  have hd := digs_len 9 l.c
  unfold lbytes
  unfold okd at hk
  split
  · simp
    omega
  · simp
    omega
end
section
open Go.RowKit Go
def look : List Nat → Nat → Option Nat
  | [], _ => none
  | x :: t, c => if x = c then some 0 else (look t c).map (· + 1)
theorem lbytes_byte {l : Lk} (h : lok l) (hd : ∀ x ∈ l.d, x < 256) : ∀ x ∈ lbytes l, x < 256 := by
  have hk := lok_okd h
  have hdg : ∀ (f n : Nat), ∀ x ∈ digs f n, x < 256 := by
    intro f
    induction f with
    | zero => intro n x hx; simp [digs] at hx
    | succ f ih =>
      intro n x hx
      unfold digs at hx
      split at hx
      · simp at hx
        omega
      · rcases List.mem_cons.1 hx with e | e
        · omega
        · exact ih _ x e
  have hrow : ∀ x ∈ l.h :: l.d.length :: l.d, x < 256 := fun x hx => by
    unfold okd at hk
    simp only [List.mem_cons] at hx
    rcases hx with e | e | e
    · omega
    · omega
    · exact hd x e
  intro x hx
  unfold lbytes at hx
  split at hx
  · exact hrow x hx
  · rcases List.mem_append.1 hx with e | e
    · rcases List.mem_cons.1 e with e | e
      · omega
      · exact hdg 9 l.c x e
    · exact hrow x e
end
section
open Go.RowKit Go

end
section
open Go.RowKit Go
theorem below_alloc4 (w : World) (o : Obj) : Below w.heap.size w (w.alloc o) := (Below.refl _ _).alloc (Nat.le_refl _) _
end
section
open Go.RowKit Go

end
section
open Go.RowKit Go
theorem own_mono4 {w : World} {b b' : Nat} {v : Value} {n : Nat} {xs : List Value} (h : w.ownsRow b 5 1 v n xs) (hb : b' ≤ b) : w.ownsRow b' 5 1 v n xs := by
  refine ⟨h.1, ?_⟩
  rcases h.2 with h1 | ⟨g, cap, cur, e, hg, r⟩
  · exact .inl h1
  · exact .inr ⟨g, cap, cur, e, Nat.le_trans hb hg, r⟩
theorem own_below4 {w w' : World} {b : Nat} {v : Value} {n : Nat} {xs : List Value} (h : w.ownsRow b 5 1 v n xs) (hb : Below w.heap.size w w') : w'.ownsRow b 5 1 v n xs := (Kp.of_below (S := fun _ => False) hb).owns h (fun _ _ e => e)
end
section
open Go.RowKit Go
def lkv (l : Lk) : Value := .agg #[.int .i64 l.v, .int .u64 (l.c : Nat), .int .u64 (l.h : Nat), .string (nstr l.d)]
end
section
open Go.RowKit Go

end
section
open Go.RowKit Go
def zlk : Array Value := #[.int .i64 0, .int .u64 0, .int .u64 0, .string ⟨#[]⟩]
theorem info61 : (Tryz.prog.info? 38).map (·.size) = some 4 := by kernel_rfl
structure Fq (w wx : World) (R L : Nat) (lv : Array Value) : Prop where
  r : wx.heap[R]? = some (.cells zlk 38 (0, 0))
  l : wx.heap[L]? = some (.cells lv 38 (0, 0))
  b : Below w.heap.size w wx
  rb : w.heap.size ≤ R
  lb : w.heap.size ≤ L
  ne : R ≠ L
theorem Fq.below {w wx wy : World} {R L : Nat} {lv : Array Value} (h : Fq w wx R L lv) (hb : Below wx.heap.size wx wy) : Fq w wy R L lv :=
  ⟨(hb.block R (blk_lt h.r)).trans h.r, (hb.block L (blk_lt h.l)).trans h.l, h.b.trans (hb.mono h.b.size), h.rb, h.lb, h.ne⟩
theorem Fq.set {w wx : World} {R L : Nat} {lv : Array Value} (h : Fq w wx R L lv) (j : Nat) (v : Value) : Fq w (wx.setCell ⟨L, j, none⟩ v) R L (lv.setIfInBounds j v) := by
  have hk : Kp (fun q => q = L) wx (wx.setCell ⟨L, j, none⟩ v) := (Kp.refl _ _).setCell _ _ (fun _ => rfl)
  have lb := h.lb
  exact ⟨(hk.block R (blk_lt h.r) h.ne).trans h.r, blk_set j v h.l, h.b.trans (hk.below h.b.size (fun q e => by omega)), h.rb, h.lb, h.ne⟩
theorem wpList_zero {ops : Array Oper} {rest : List Oper} {o : Oper} {a : Act} {Q : Exit → Act → World → Prop} {w : World} {p x : Operand} (hgd : o.guard = none) (ho : o.op = .store 38 p x) (g : Nat)
    (hp : a.eval p = .pointer (some ⟨g, 0, none⟩)) (hx : a.eval x = .agg zlk) (hg : w.heap[g]? = some (.cells zlk 38 (0, 0))) (h : wpList Tryz.prog ops Q rest (a.put o.dst undef) w) : wpList Tryz.prog ops Q (o :: rest) a w := by
  refine wpList_storeRow hgd ho g zlk zlk 38 hp hx hg info61 rfl (by kernel_rfl) ?_
  rw [setRow_self w g zlk 38 (0, 0) hg]
  exact h
end
section
open Go.RowKit Go

end
section
open Go.RowKit Go

end
section
open Go.RowKit Go

end
section
open Go.RowKit Go
def blt : List Nat → List Nat → Bool
  | x :: r, y :: q => if x = y then blt r q else decide (x < y)
  | _, _ => false
def lb (v : Int) (c h : Nat) (s : ByteArray) : List Nat := if lok ⟨v, c, h, sl s⟩ then lbytes ⟨v, c, h, sl s⟩ else []
end
section
open Go.RowKit Go
theorem sl_nstr {xs : List Nat} (h : ∀ x ∈ xs, x < 256) : sl (nstr xs) = xs := by
  have key : ∀ l : List Nat, (∀ x ∈ l, x < 256) → (nstr l).data.toList.map UInt8.toNat = l := by
    intro l hl
    simp only [nstr, strOfNums_data, List.map_map]
    conv => rhs; rw [← List.map_id l]
    apply List.map_congr_left
    intro x hx
    have := hl x hx
    simp; omega
  exact key xs h
def lof (c : Nat) (b : List Nat) : Lk × Nat := if c < 9223372036854775808 then (⟨1, c, 18, sha b⟩, 0) else (Lk.none, 40)
end
section
open Go.RowKit Go

end
section
open Go.RowKit Go
theorem nstr_sl (s : ByteArray) : nstr (sl s) = s := by
  obtain ⟨⟨l⟩⟩ := s
  have e : nstr (sl ⟨⟨l⟩⟩) = ⟨(nstr (sl ⟨⟨l⟩⟩)).data⟩ := rfl
  rw [e]
  congr 1
  apply Array.ext'
  simp only [nstr, sl, strOfNums_data, List.map_map]
  conv => rhs; rw [← List.map_id l]
  apply List.map_congr_left
  intro x _
  simp
theorem nstr_size {xs : List Nat} (h : ∀ x ∈ xs, x < 256) : (nstr xs).size = xs.length := by rw [← sl_len, sl_nstr h]
def lcs (l : Lk) : Array Value := #[.int .i64 l.v, .int .u64 (l.c : Nat), .int .u64 (l.h : Nat), .string (nstr l.d)]
structure Lkb (l : Lk) : Prop where
  c : l.c < 18446744073709551616
  h : l.h < 18446744073709551616
  d : ∀ x ∈ l.d, x < 256
  n : l.d.length ≤ 9223372036854775807
theorem Lkb.size {l : Lk} (h : Lkb l) : (nstr l.d).size = l.d.length := nstr_size h.d
theorem lk_ext {a b : Lk} : a = b ↔ a.v = b.v ∧ a.c = b.c ∧ a.h = b.h ∧ a.d = b.d := by
  constructor
  · rintro rfl
    exact ⟨rfl, rfl, rfl, rfl⟩
  · obtain ⟨_, _, _, _⟩ := a
    obtain ⟨_, _, _, _⟩ := b
    rintro ⟨h1, h2, h3, h4⟩
    simp only at h1 h2 h3 h4
    subst h1 h2 h3 h4
    rfl
instance : DecidableEq Lk := fun a b => decidable_of_iff _ (lk_ext (a := a) (b := b)).symm
theorem eqlk (w : World) {a b : Lk} (ha : ∀ x ∈ a.d, x < 256) (hb : ∀ x ∈ b.d, x < 256) : (Op.equalIn 10000 38 (.agg (lcs a)) (.agg (lcs b))).run Tryz.prog w = .ok (decide (a = b)) w := by
  have u3 := Tryz.underlying3
  have u9 := Tryz.underlying9
  have u33 := Tryz.underlying36
  have a3 := Tryz.isAgg3
  have a9 := Tryz.isAgg9
  have a33 := Tryz.isAgg36
  have z3 := Tryz.sizeOf3
  have z9 := Tryz.sizeOf9
  have z33 := Tryz.sizeOf36
  have hS : Tryz.prog.underlying 38 = some (.struct (Tryz.prog.fieldsOf 38)) := by kernel_rfl
  have hp : Tryz.prog.stoodInHeld 38 = false := by kernel_rfl
  have hs : ((nstr a.d).toList == (nstr b.d).toList) = decide (a.d = b.d) := by
    by_cases h : a.d = b.d
    · rw [h]; simp
    · rw [beq_eq_false_iff_ne.2 (fun e => h (nstr_inj ha hb e))]; simp [h]
  have hr : decide (a = b) = (decide (a.v = b.v) && (decide (a.c = b.c) && (decide (a.h = b.h) && decide (a.d = b.d)))) := by
    rw [Bool.eq_iff_iff]
    simp [lk_ext]
  rw [hr]
  unfold lcs
  rw [show (10000 : Nat) = 9999 + 1 from rfl, run_equalIn_agg w 9999 38 _ _ hS hp]
  simp only [Program.fieldsOf, Tryz.underlying38]
  go_simp
  by_cases h1 : a.v = b.v <;> by_cases h2 : a.c = b.c <;> by_cases h3 : a.h = b.h <;> by_cases h4 : a.d = b.d <;> first | (simp [h1, h2, h3, h4]; done) | (simp [h1, h2, h3, h4]; omega)

theorem eqg : Tryz.prog.eqGuardType Tryz.prog.depth 38 = false := by kernel_rfl
theorem qstep_link {C : World → Prop} {ops : Array Oper} {o : Oper} {a : Act} {K : Act → Prop} {p : Operand} (hgd : Region.wanted o (yielded ops a.tmps) = true) (ho : o.op = .load 38 p) (g : Nat) (cs : Array Value)
    (hp : a.eval p = .pointer (some ⟨g, 0, none⟩)) (hn : cs.size = 4) (hc : ∀ w, C w → w.heap[g]? = some (.cells cs 38 (0, 0)))
    (h : K (a.put o.dst (.agg cs))) : if Region.wanted o (yielded ops a.tmps) = true then o.quiet Tryz.prog a C K else K (a.put o.dst undef) := by
  rw [if_pos hgd]
  refine ⟨.agg cs, fun w hC => ?_, h⟩
  have hr : (Instr.loadAt 38 (.pointer (some ⟨g, 0, none⟩))).run Tryz.prog w = .ok (.agg cs) w := by
    simp only [Instr.loadAt, Instr.sureAddr, Sem.run_bind, Sem.run_pure, Result.andThen]
    exact run_loadVar_row (P := Tryz.prog) w g 38 38 cs (0, 0) _ (hc w hC) Tryz.underlying38 rfl (by rw [hn]; exact info61)
  unfold Oper.quietAt execOp
  simp only [ho, Sem.run_bind, hp, hr, Result.andThen_ok]
  exact ⟨rfl, rfl⟩

theorem wpList_wanted {P : Program} {ops : Array Oper} {Q : Exit → Act → World → Prop} {a : Act} {w : World} {rest : List Oper} {o : Oper} (hw : Region.wanted o (yielded ops a.tmps) = true)
    (h : ∀ K : Act → World → Prop, (∀ a w, wpList P ops Q rest a w → K a w) → o.wp P a w K Q) : wpList P ops Q (o :: rest) a w := wpList_step fun K hK => by rw [if_pos hw]; exact h K hK
theorem exec_eqlk {o : Oper} {a : Act} {x y : Operand} {T2 : TypeId} {A B : Array Value} {r : Bool} {w : World} (ho : o.op = .binOp .eql 38 x y T2) (hx : a.eval x = .agg A) (hy : a.eval y = .agg B) (he : (Op.equalIn 10000 38 (.agg A) (.agg B)).run Tryz.prog w = .ok r w) : (execOp a.eval o).run Tryz.prog w = .ok (.value (.bool r)) w := by
  unfold execOp
  simp only [ho, Sem.run_bind, hx, hy, run_eqGuard_agg w _ 38 x y A B eqg, run_eql_struct, he, Result.andThen_ok]
  rfl
theorem qstep_eqlk {C : World → Prop} {ops : Array Oper} {o : Oper} {a : Act} {K : Act → Prop} {x y : Operand} {T2 : TypeId} (hgd : Region.wanted o (yielded ops a.tmps) = true) (ho : o.op = .binOp .eql 38 x y T2) (A B : Array Value) (r : Bool)
    (hx : a.eval x = .agg A) (hy : a.eval y = .agg B) (he : ∀ w, C w → (Op.equalIn 10000 38 (.agg A) (.agg B)).run Tryz.prog w = .ok r w)
    (h : K (a.put o.dst (.bool r))) : if Region.wanted o (yielded ops a.tmps) = true then o.quiet Tryz.prog a C K else K (a.put o.dst undef) := by
  rw [if_pos hgd]
  refine ⟨.bool r, fun w hC => ?_, h⟩
  unfold Oper.quietAt
  rw [exec_eqlk ho hx hy (he w hC)]
  exact ⟨rfl, rfl⟩
theorem wpList_eqlk {ops : Array Oper} {rest : List Oper} {o : Oper} {a : Act} {Q : Exit → Act → World → Prop} {w : World} {x y : Operand} {T2 : TypeId} (hgd : Region.wanted o (yielded ops a.tmps) = true) (ho : o.op = .binOp .eql 38 x y T2) (A B : Array Value) (r : Bool)
    (hx : a.eval x = .agg A) (hy : a.eval y = .agg B) (he : (Op.equalIn 10000 38 (.agg A) (.agg B)).run Tryz.prog w = .ok r w) (h : wpList Tryz.prog ops Q rest (a.put o.dst (.bool r)) w) : wpList Tryz.prog ops Q (o :: rest) a w := by
  refine wpList_wanted hgd fun K hK => ?_
  unfold Oper.wp
  rw [exec_eqlk ho hx hy he]
  exact hK _ _ h
set_option maxRecDepth 1000000 in
theorem old_any (w : World) (s : ByteArray) : Calls Tryz.prog 43 #[.string s] w fun e w' => e = .returned (.agg #[.int .i64 0, .int .u64 112, .int .u64 18, .string s]) ∧ Below w.heap.size w w' := by
  go_enter Tryz.func43, Tryz.ntmps43
  go_wp2_with fail
  exact bodyPost_ret (v := .agg #[.int .i64 0, .int .u64 112, .int .u64 18, .string s]) ((results_one (p := 2) (ty := 38) rfl _ _ _).trans (by go_simp; first | done | rfl)) rfl ⟨rfl, below_alloc4 w _⟩
set_option maxRecDepth 1000000 in
theorem fits4_any (w : World) (l : Lk) (hl : Lkb l) : Calls Tryz.prog 44 #[lkv l] w fun e w' => e = .returned (.bool (decide (okd l.h l.d))) ∧ Below w.heap.size w w' := by
  have hs := hl.size
  have hn := hl.n
  obtain ⟨v, c, h, d⟩ := l
  simp only at hs hn
  simp only [lkv]
  have HE : Hid (okd h d ↔ (h = 18 ∧ d.length = 32) ∨ (h = 0 ∧ d.length ≤ 64)) := Iff.rfl
  generalize hS : nstr d = S at *
  clear hS hl
  by_cases h1 : h = 18
  · subst h1
    have HR : Hid (decide (okd 18 d) = ((d.length : Int) == 32)) := by
      show _ = _
      rw [Bool.eq_iff_iff, decide_eq_true_iff, HE.out, beq_iff_eq]
      omega
    rw [HR.out]
    clear HE HR
    go_enter Tryz.func44, Tryz.ntmps44
    go_wp2_with fail
    go_ret
    exact ⟨rfl, below_alloc4 w _⟩
  · have g1 : ((h : Int) == 18) = false := beq_eq_false_iff_ne.2 (by omega)
    by_cases h2 : h = 0
    · subst h2
      have HR : Hid (decide (okd 0 d) = decide ((d.length : Int) ≤ 64)) := by
        show _ = _
        rw [Bool.eq_iff_iff, decide_eq_true_iff, HE.out, decide_eq_true_iff]
        omega
      rw [HR.out]
      clear HE HR
      go_enter Tryz.func44, Tryz.ntmps44
      go_wp2_with fail
      go_ret
      exact ⟨rfl, below_alloc4 w _⟩
    · have g2 : ((h : Int) == 0) = false := beq_eq_false_iff_ne.2 (by omega)
      have HR : Hid (decide (okd h d) = false) := by
        show _ = _
        rw [decide_eq_false_iff_not, HE.out]
        omega
      rw [HR.out]
      clear HE HR
      go_enter Tryz.func44, Tryz.ntmps44
      go_wp2_with fail
      go_ret
      exact ⟨rfl, below_alloc4 w _⟩
end
section
open Go.RowKit Go
structure GSl {α : Type} (n : Nat) (P : World → α → Array Value → Prop) (w : World) (v : Value) (xs : List α) : Prop where
  form : ∃ a cap, v = .slice a xs.length cap ∧ (xs.length ≤ cap ∧ (a = none → cap = 0)) ∧ (xs = [] ∨ ∃ b off, a = some ⟨b, off, none⟩ ∧ ∀ i x, xs[i]? = some x → ∃ c, P w x c ∧ ∀ j u, c[j]? = some u → w.cell? ⟨b, off + i * n + j, none⟩ = some u)
  max : xs.length ≤ 140737488351232
theorem load_agg {w : World} {T n : Nat} (hi : (Tryz.prog.info? T).map (·.size) = some n) (ha : ∀ w, (isAgg T).run Tryz.prog w = .ok true w) (g o : Nat) (cs : Array Value) (hn : cs.size = n) (hc : ∀ j u, cs[j]? = some u → w.cell? ⟨g, o + j, none⟩ = some u) : (Instr.loadAt T (.pointer (some ⟨g, o, none⟩))).run Tryz.prog w = .ok (.agg cs) w := by
  have hl := run_loadCells_list (P := Tryz.prog) (w := w) ⟨g, o, none⟩ cs.toList (fun j v hv => by rw [addr_add]; exact hc j v (by simpa using hv))
  simp only [Instr.loadAt, Instr.sureAddr, Sem.run_bind, Sem.run_pure, Result.andThen]
  cases hq : Tryz.prog.info? T with
  | none => simp [hq] at hi
  | some i =>
    have hs : i.size = n := by simpa [hq] using hi
    have hn2 : cs.toList.length = n := by simpa using hn
    rw [hn2] at hl
    simp [loadVar, ha w, sizeOf, typeInfo, hq, hs, hl]
theorem wpList_aggAt {ops : Array Oper} {rest : List Oper} {o : Oper} {a : Act} {Q : Exit → Act → World → Prop} {w : World} {p : Operand} {T n : Nat} (hgd : Region.wanted o (yielded ops a.tmps) = true) (ho : o.op = .load T p) (hi : (Tryz.prog.info? T).map (·.size) = some n) (ha : ∀ w, (isAgg T).run Tryz.prog w = .ok true w) (g off : Nat) (cs : Array Value)
    (hp : a.eval p = .pointer (some ⟨g, off, none⟩)) (hn : cs.size = n) (hc : ∀ j u, cs[j]? = some u → w.cell? ⟨g, off + j, none⟩ = some u)
    (h : wpList Tryz.prog ops Q rest (a.put o.dst (.agg cs)) w) : wpList Tryz.prog ops Q (o :: rest) a w := by
  refine wpList_wanted hgd fun K hK => ?_
  unfold Oper.wp execOp
  simp only [ho, Sem.run_bind, hp, load_agg hi ha g off cs hn hc, Result.andThen_ok]
  exact hK _ _ h
theorem exec_aggAt {o : Oper} {a : Act} {p : Operand} {g off : Nat} {cs : Array Value} {w : World} {T n : Nat} (hi : (Tryz.prog.info? T).map (·.size) = some n) (ha : ∀ w, (isAgg T).run Tryz.prog w = .ok true w) (ho : o.op = .load T p) (hp : a.eval p = .pointer (some ⟨g, off, none⟩)) (hn : cs.size = n) (hc : ∀ j u, cs[j]? = some u → w.cell? ⟨g, off + j, none⟩ = some u) : (execOp a.eval o).run Tryz.prog w = .ok (.value (.agg cs)) w := by
  unfold execOp
  have hr := load_agg (w := w) hi ha g off cs hn hc
  simp only [ho, Sem.run_bind, hp, hr, Result.andThen_ok]
  rfl
end
end Go.Proofs.YtnbbnainmifenaaGreatDoor

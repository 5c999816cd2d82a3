import Derived.Test.YtedgdnoafajhoaaDoorRn
namespace Go.Proofs.YtedgdnoafajhoaaDoor
open Go.RowKit

theorem rd_bound : ∀ (xs : List Nat) (k m : Nat), k ≤ 9 → m < 128 ^ k → (rd k m xs).2.2 = 0 → (rd k m xs).1 < 9223372036854775808 ∧ (rd k m xs).2.1 ≤ k + xs.length ∧ (rd k m xs).2.1 ≤ 9
  | [], k, m, hk, hm, h => by
    rw [rd] at h
    split at h <;> simp at h
  | x :: r, k, m, hk, hm, h => by
    rw [rd] at h ⊢
    by_cases h9 : k = 9
    · rw [if_pos h9] at h; simp at h
    · rw [if_neg h9] at h ⊢
      have hn := next_small x m k hm
      by_cases hx : 128 ≤ x
      · rw [if_pos hx] at h ⊢
        have := rd_bound r (k + 1) _ (by omega) hn h
        simp only [List.length_cons]
        omega
      · rw [if_neg hx] at h ⊢
        by_cases hz : x = 0 ∧ 0 < k
        · rw [if_pos hz] at h; simp at h
        · rw [if_neg hz]
          have hp : 128 ^ (k + 1) ≤ 128 ^ 9 := Nat.pow_le_pow_right (by decide) (by omega)
          have e9 : 128 ^ 9 = 9223372036854775808 := rfl
          simp only [List.length_cons]
          omega
theorem dnum_bound (xs : List Nat) (h : (dnum xs).2.2 = 0) : (dnum xs).1 < 9223372036854775808 ∧ (dnum xs).2.1 ≤ xs.length ∧ (dnum xs).2.1 ≤ 9 := by
  unfold dnum at h ⊢
  by_cases h0 : (rd 0 0 xs).2.2 = 0
  · rw [if_pos h0]
    have := rd_bound xs 0 0 (by omega) (by simp) h0
    omega
  · rw [if_neg h0] at h
    simp only at h
    split at h <;> simp at h
theorem dnum_bad (xs : List Nat) (h : (dnum xs).2.2 ≠ 0) : (dnum xs).2.2 = 32 ∨ (dnum xs).2.2 = 33 := by
  unfold dnum at h ⊢
  by_cases h0 : (rd 0 0 xs).2.2 = 0
  · rw [if_pos h0] at h; exact absurd h0 h
  · rw [if_neg h0]
    simp only
    split
    · exact .inl rfl
    · exact .inr rfl
/-- What Read of the document tells. -/
def dread (xs : List Nat) : Nat × List Nat × Nat × Nat :=
  if (dnum xs).2.2 ≠ 0 then (0, [], 0, (dnum xs).2.2)
  else if (dnum (xs.drop (dnum xs).2.1)).2.2 ≠ 0 then (0, [], 0, (dnum (xs.drop (dnum xs).2.1)).2.2)
  else if (dnum xs).1 ≠ 18 ∧ (dnum xs).1 ≠ 0 then (0, [], 0, 30)
  else if ((dnum xs).1 = 18 ∧ (dnum (xs.drop (dnum xs).2.1)).1 ≠ 32) ∨ ((dnum xs).1 = 0 ∧ 64 < (dnum (xs.drop (dnum xs).2.1)).1) then (0, [], 0, 31)
  else if xs.length - ((dnum xs).2.1 + (dnum (xs.drop (dnum xs).2.1)).2.1) < (dnum (xs.drop (dnum xs).2.1)).1 then (0, [], 0, 32)
  else ((dnum xs).1, (xs.drop ((dnum xs).2.1 + (dnum (xs.drop (dnum xs).2.1)).2.1)).take (dnum (xs.drop (dnum xs).2.1)).1, (dnum xs).2.1 + (dnum (xs.drop (dnum xs).2.1)).2.1 + (dnum (xs.drop (dnum xs).2.1)).1, 0)

theorem dread_one {xs : List Nat} (h : (dnum xs).2.2 ≠ 0) : dread xs = (0, [], 0, (dnum xs).2.2) := by unfold dread; rw [if_pos h]
theorem dread_rest {xs : List Nat} {hn u : Nat} (h : dnum xs = (hn, u, 0)) : 
    ((dnum (xs.drop u)).2.2 ≠ 0 → dread xs = (0, [], 0, (dnum (xs.drop u)).2.2)) ∧
    ∀ n m, dnum (xs.drop u) = (n, m, 0) →
      (hn ≠ 18 ∧ hn ≠ 0 → dread xs = (0, [], 0, 30)) ∧ (¬ (hn ≠ 18 ∧ hn ≠ 0) →
      ((hn = 18 ∧ n ≠ 32) ∨ (hn = 0 ∧ 64 < n) → dread xs = (0, [], 0, 31)) ∧ (¬ ((hn = 18 ∧ n ≠ 32) ∨ (hn = 0 ∧ 64 < n)) →
      (xs.length - (u + m) < n → dread xs = (0, [], 0, 32)) ∧ (¬ xs.length - (u + m) < n → dread xs = (hn, (xs.drop (u + m)).take n, u + m + n, 0)))) := by
  have e1 : (dnum xs).1 = hn := by rw [h]
  have e2 : (dnum xs).2.1 = u := by rw [h]
  have e3 : ¬ (dnum xs).2.2 ≠ 0 := by rw [h]; simp
  unfold dread
  rw [if_neg e3, e1, e2]
  refine ⟨fun hb => by rw [if_pos hb], fun n m hq => ?_⟩
  have q1 : (dnum (xs.drop u)).1 = n := by rw [hq]
  have q2 : (dnum (xs.drop u)).2.1 = m := by rw [hq]
  have q3 : ¬ (dnum (xs.drop u)).2.2 ≠ 0 := by rw [hq]; simp
  rw [if_neg q3, q1, q2]
  refine ⟨fun h1 => by rw [if_pos h1], fun h1 => ?_⟩
  rw [if_neg h1]
  refine ⟨fun h2 => by rw [if_pos h2], fun h2 => ?_⟩
  rw [if_neg h2]
  exact ⟨fun h3 => by rw [if_pos h3], fun h3 => by rw [if_neg h3]⟩
/-- The bytes from a place on, where something is left behind it. -/
theorem BSl.drop {w : World} {b off n cap : Nat} {xs : List Nat} (h : BSl w (.slice (some ⟨b, off, none⟩) n cap) xs) (k : Nat) (hk : k ≤ xs.length) : BSl w (.slice (some ⟨b, off + k, none⟩) (n - k) (cap - k)) (xs.drop k) := by
  obtain ⟨⟨a, cap', hv, hn, hc⟩, hmax, hby⟩ := h
  injection hv with h1 h2 h3
  subst h1
  subst h3
  subst h2
  refine ⟨⟨_, cap - k, by rw [List.length_drop], ⟨by rw [List.length_drop]; omega, fun h => by cases h⟩, ?_⟩, by rw [List.length_drop]; omega, fun z hz => hby z (List.mem_of_mem_drop hz)⟩
  rcases hc with hc | ⟨b', off', e, hc⟩
  · exact .inl (by subst hc; simp)
  · injection e with e
    injection e with e1 e2 e3
    subst e1
    subst e2
    refine .inr ⟨b, off + k, rfl, fun j hj => ?_⟩
    rw [List.length_drop] at hj
    have hq := hc (k + j) (by omega)
    have e : off + (k + j) = off + k + j := by omega
    rw [e] at hq
    rw [hq]
    simp [List.getD]

theorem results_four {fn : Func} {p q r s : Tmp} (h : fn.results = #[.tmp p, .tmp q, .tmp r, .tmp s]) (tmps : Array Value) (P : Program) (w : World) :
    (results fn tmps).run P w = .ok (.tuple #[tmps.getD p undef, tmps.getD q undef, tmps.getD r undef, tmps.getD s undef]) w := by
  simp only [results, h]
  simp
theorem dnum_nil : dnum [] = (0, 0, 32) := rfl

set_option maxRecDepth 1000000 in
set_option maxHeartbeats 4000000 in
theorem refDRead_any (w : World) (v : Value) (xs : List Nat) (hsl : BSl w v xs) :
    Calls Tryd.prog 29 #[v] w fun e w' => ∃ v', e = .returned (.tuple #[.int .u64 ((dread xs).1 : Nat), v', .int .i64 ((dread xs).2.2.1 : Nat), .int .i64 ((dread xs).2.2.2 : Nat)]) ∧ w'.ownsRow w.heap.size 5 1 v' (dread xs).2.1.length (bv (dread xs).2.1) ∧ Below w.heap.size w w' := by
  have HSL := hide hsl
  have HRB := hide (dnum_bound xs)
  have HRX := hide (dnum_bad xs)
  have HD1 := hide (@dread_one xs)
  have HD2 : Hid (∀ hn u : Nat, dnum xs = (hn, u, 0) → _) := fun hn u h => dread_rest (xs := xs) (hn := hn) (u := u) h
  obtain ⟨⟨a, cap, rfl, hn, hc⟩, hmax, hb⟩ := hsl
  have hcap := hn.1
  clear hn hc hb
  go_enter Tryd.func29, Tryd.ntmps29
  go_wp2_with fail
  refine (refNumber_any _ _ xs HSL.out).mono ?_
  rintro e w1 ⟨rfl, hk1⟩
  have HS1 := hide (HSL.out.move (fun p u h => hk1.cell h (fun h => h)))
  have HB1 : Hid (Below w.heap.size w w1) := hk1.below (Nat.le_refl _) (fun _ h => h.elim)
  clear hk1
  by_cases hr : (dnum xs).2.2 = 0
  · have hrb := HRB.out hr
    obtain ⟨hn, u, re, hR⟩ : ∃ hn u re, dnum xs = (hn, u, re) := ⟨_, _, _, rfl⟩
    rw [hR] at hr hrb
    simp only at hr hrb
    subst hr
    obtain ⟨hhn, hu, hu9⟩ := hrb
    have HH := hide (HD2.out hn u hR)
    clear HD1 HD2 HRX HRB
    obtain ⟨⟨a', cap', hv, hn1, hc⟩, hmax1, hb1⟩ := HS1.out
    injection hv with hv1 hv2 hv3
    subst hv1
    subst hv3
    rcases hc with hc | ⟨b, off, rfl, hc⟩
    · subst hc
      rw [dnum_nil] at hR
      injection hR with _ hR
      injection hR with _ hR
      cases hR
    clear hn1 hc hb1 hv2
    simp only [dnumR]
    by_cases hcu : cap = u
    · have hxu : xs.drop u = [] := List.drop_of_length_le (by omega)
      have HE : Hid (dread xs = (0, [], 0, 32)) := by
        have h := HH.out.1
        rw [hxu, dnum_nil] at h
        exact h (by simp)
      have HSD : Hid (BSl w1 (.slice (some ⟨b, off, none⟩) 0 0) []) := ⟨⟨_, 0, rfl, ⟨by simp, fun h => by cases h⟩, .inl rfl⟩, by simp, fun z hz => by cases hz⟩
      have hul : xs.length = u := by omega
      rw [hul] at HS1
      clear hxu HH hhn
      subst hcu
      go_wp2_with fail
      refine (refNumber_any _ _ [] HSD.out).mono ?_
      rintro e w2 ⟨rfl, hk2⟩
      have HB2 : Hid (Below w.heap.size w w2) := HB1.out.trans (hk2.below HB1.out.size (fun _ h => h.elim))
      clear hk2 HSD HS1 HB1 HSL
      rw [dnum_nil]
      simp only [dnumR]
      go_wp2
      refine bodyPost_ret (results_four rfl _ _ _) rfl ⟨_, by rw [HE.out]; rfl, by rw [HE.out]; exact World.ownsRow_nil _ _ _ _, HB2.out⟩
    · have hcu' : ¬ u = cap := fun e => hcu e.symm
      have huc : (u : Int) ≤ (xs.length : Int) := by omega
      have HSD := hide (HS1.out.drop u hu)
      go_wp2_with fail
      refine (refNumber_any _ _ (xs.drop u) HSD.out).mono ?_
      rintro e w2 ⟨rfl, hk2⟩
      have HS2 := hide (HS1.out.move (fun p u h => hk2.cell h (fun h => h)))
      have HB2 : Hid (Below w.heap.size w w2) := HB1.out.trans (hk2.below HB1.out.size (fun _ h => h.elim))
      clear hk2 HSD HS1 HB1 HSL
      have HQB := hide (dnum_bound (xs.drop u))
      have HQX := hide (dnum_bad (xs.drop u))
      obtain ⟨n, m, qe, hQ⟩ : ∃ n m qe, dnum (xs.drop u) = (n, m, qe) := ⟨_, _, _, rfl⟩
      rw [hQ] at HQB HQX HH ⊢
      simp only [dnumR] at HQB HQX HH ⊢
      by_cases hq : qe = 0
      · subst hq
        have hqb := HQB.out rfl
        rw [List.length_drop] at hqb
        obtain ⟨hqn, hqm, hqm9⟩ := hqb
        have HK := hide (HH.out.2 n m rfl)
        clear HQB HQX HH hQ hR
        by_cases h18 : hn = 18
        · subst h18
          have HK2 := hide (HK.out.2 (by omega))
          by_cases hn32 : n = 32
          · subst hn32
            have HK3 := hide (HK2.out.2 (by omega))
            clear HK HK2
            by_cases hs : xs.length - (u + m) < 32
            · have HE : Hid (dread xs = (0, [], 0, 32)) := HK3.out.1 hs
              have hs' : (xs.length : Int) - ((u : Int) + (m : Int)) < (32 : Int) := by omega
              go_wp2
              refine bodyPost_ret (results_four rfl _ _ _) rfl ⟨_, by rw [HE.out]; rfl, by rw [HE.out]; exact World.ownsRow_nil _ _ _ _, HB2.out⟩
            · have HE : Hid (dread xs = (18, (xs.drop (u + m)).take 32, u + m + 32, 0)) := HK3.out.2 hs
              have hs' : ¬ (xs.length : Int) - ((u : Int) + (m : Int)) < (32 : Int) := by omega
              have hum : u + m ≤ xs.length := by omega
              have hca : ¬ u + m = cap := by omega
              have hum' : (u : Int) + (m : Int) + (32 : Int) ≤ (cap : Int) := by omega
              have HSX : Hid (BSl w2 (.slice (some ⟨b, off + (u + m), none⟩) 32 (cap - (u + m))) ((xs.drop (u + m)).take 32)) := (HS2.out.drop (u + m) hum).take 32 (by rw [List.length_drop]; omega)
              have HDL : Hid (((xs.drop (u + m)).take 32).length = 32) := by show _ = _; rw [List.length_take, List.length_drop]; omega
              generalize (xs.drop (u + m)).take 32 = D at *
              go_wp2_with (at_builtin; refine append_bsl rfl _ _ rfl w.heap.size _ 0 [] rfl (World.ownsRow_nil _ _ _ _) _ D rfl ?hs ?b1 ?b2 ?_)
              case hs => exact HSX.out
              case b1 => rw [HDL.out]; omega
              case b2 => exact HB2.out.size
              intro v3 w3 ho3 hg3
              have HB3 : Hid (Below w.heap.size w w3) := HB2.out.grown hg3 HB2.out.size (fun q hq => by cases hq)
              have HO3 := hide ho3
              clear ho3 hg3
              go_wp2
              refine bodyPost_ret (results_four rfl _ _ _) rfl ⟨v3, ?_, ?_, HB3.out⟩
              · rw [HE.out]
                have e1 : ((u + m + 32 : Nat) : Int) = (u : Int) + (m : Int) + 32 := by omega
                simp only [e1]
                rfl
              · rw [HE.out]
                have h := HO3.out
                simpa using h
          · have g32 : ((n : Int) != 32) = true := bne_iff_ne.2 (by omega)
            have HE : Hid (dread xs = (0, [], 0, 31)) := HK2.out.1 (by omega)
            go_wp2
            refine bodyPost_ret (results_four rfl _ _ _) rfl ⟨_, by rw [HE.out]; rfl, by rw [HE.out]; exact World.ownsRow_nil _ _ _ _, HB2.out⟩
        · have g18 : ((hn : Int) != 18) = true := bne_iff_ne.2 (by omega)
          have g18' : ((hn : Int) == 18) = false := beq_eq_false_iff_ne.2 (by omega)
          by_cases h0 : hn = 0
          · subst h0
            have HK2 := hide (HK.out.2 (by omega))
            by_cases hn64 : 64 < n
            · have g64 : (64 : Int) < (n : Int) := by omega
              have HE : Hid (dread xs = (0, [], 0, 31)) := HK2.out.1 (by omega)
              go_wp2
              refine bodyPost_ret (results_four rfl _ _ _) rfl ⟨_, by rw [HE.out]; rfl, by rw [HE.out]; exact World.ownsRow_nil _ _ _ _, HB2.out⟩
            · have g64 : ¬ (64 : Int) < (n : Int) := by omega
              have HK3 := hide (HK2.out.2 (by omega))
              clear HK HK2
              by_cases hs : xs.length - (u + m) < n
              · have HE : Hid (dread xs = (0, [], 0, 32)) := HK3.out.1 hs
                have hs' : (xs.length : Int) - ((u : Int) + (m : Int)) < (n : Int) := by omega
                go_wp2
                refine bodyPost_ret (results_four rfl _ _ _) rfl ⟨_, by rw [HE.out]; rfl, by rw [HE.out]; exact World.ownsRow_nil _ _ _ _, HB2.out⟩
              · have HE : Hid (dread xs = (0, (xs.drop (u + m)).take n, u + m + n, 0)) := HK3.out.2 hs
                have hs' : ¬ (xs.length : Int) - ((u : Int) + (m : Int)) < (n : Int) := by omega
                have hum : u + m ≤ xs.length := by omega
                have hum' : (u : Int) + (m : Int) + (n : Int) ≤ (cap : Int) := by omega
                have hn65 : n ≤ 64 := by omega
                have e65 : IntKind.i64.wrap (n : Int) = (n : Int) := by rw [IntKind.wrap_i64]; omega
                have hu9' : (u : Int) ≤ 9 := by omega
                have hm9' : (m : Int) ≤ 9 := by omega
                have HDL : Hid (((xs.drop (u + m)).take n).length = n) := by show _ = _; rw [List.length_take, List.length_drop]; omega
                by_cases hca : u + m = cap
                · obtain rfl : n = 0 := by omega
                  rw [List.take_zero] at HE
                  have HSX : Hid (BSl w2 (.slice (some ⟨b, off, none⟩) 0 0) []) := ⟨⟨_, 0, rfl, ⟨by simp, fun h => by cases h⟩, .inl rfl⟩, by simp, fun z hz => by cases hz⟩
                  subst hca
                  go_wp2_with (at_builtin; refine append_bsl rfl _ _ rfl w.heap.size _ 0 [] rfl (World.ownsRow_nil _ _ _ _) _ [] rfl ?hs ?b1 ?b2 ?_)
                  case hs => exact HSX.out
                  case b2 => exact HB2.out.size
                  intro v3 w3 ho3 hg3
                  have HB3 : Hid (Below w.heap.size w w3) := HB2.out.grown hg3 HB2.out.size (fun q hq => by cases hq)
                  have HO3 := hide ho3
                  clear ho3 hg3
                  go_wp2
                  refine bodyPost_ret (results_four rfl _ _ _) rfl ⟨v3, ?_, ?_, HB3.out⟩
                  · rw [HE.out]
                    have e1 : ((u + m + 0 : Nat) : Int) = (u : Int) + (m : Int) := by omega
                    simp only [e1]
                    rfl
                  · rw [HE.out]
                    have h := HO3.out
                    simpa using h
                · have HSX : Hid (BSl w2 (.slice (some ⟨b, off + (u + m), none⟩) n (cap - (u + m))) ((xs.drop (u + m)).take n)) := (HS2.out.drop (u + m) hum).take n (by rw [List.length_drop]; omega)
                  generalize (xs.drop (u + m)).take n = D at *
                  go_wp2_with (at_builtin; refine append_bsl rfl _ _ rfl w.heap.size _ 0 [] rfl (World.ownsRow_nil _ _ _ _) _ D rfl ?hs (by rw [HDL.out]; omega) HB2.out.size ?_)
                  case hs => exact HSX.out
                  intro v3 w3 ho3 hg3
                  have HB3 : Hid (Below w.heap.size w w3) := HB2.out.grown hg3 HB2.out.size (fun q hq => by cases hq)
                  have HO3 := hide ho3
                  clear ho3 hg3
                  go_wp2
                  refine bodyPost_ret (results_four rfl _ _ _) rfl ⟨v3, ?_, ?_, HB3.out⟩
                  · rw [HE.out]
                    have e1 : ((u + m + n : Nat) : Int) = (u : Int) + (m : Int) + (n : Int) := by omega
                    simp only [e1]
                    rfl
                  · rw [HE.out]
                    have h := HO3.out
                    simpa using h
          · have g0 : ((hn : Int) != 0) = true := bne_iff_ne.2 (by omega)
            have HE : Hid (dread xs = (0, [], 0, 30)) := HK.out.1 ⟨h18, h0⟩
            go_wp2
            refine bodyPost_ret (results_four rfl _ _ _) rfl ⟨_, by rw [HE.out]; rfl, by rw [HE.out]; exact World.ownsRow_nil _ _ _ _, HB2.out⟩
      · have HE : Hid (dread xs = (0, [], 0, qe)) := HH.out.1 hq
        have g1 : ((qe : Int) != 0) = true := bne_iff_ne.2 (by omega)
        clear HQB HQX HH hQ hR
        go_wp2
        refine bodyPost_ret (results_four rfl _ _ _) rfl ⟨_, by rw [HE.out]; rfl, by rw [HE.out]; exact World.ownsRow_nil _ _ _ _, HB2.out⟩
  · have HE := hide (HD1.out hr)
    have hbad := HRX.out hr
    clear HD1 HD2 HRX HRB
    generalize dnum xs = R at *
    obtain ⟨rn, ru, re⟩ := R
    simp only [dnumR]
    have hr2 : ((re : Int) != 0) = true := bne_iff_ne.2 (by simp only at hr; omega)
    clear hr hbad
    go_wp2
    refine bodyPost_ret (results_four rfl _ _ _) rfl ⟨_, by rw [HE.out]; rfl, by rw [HE.out]; exact World.ownsRow_nil _ _ _ _, HB1.out⟩
end Go.Proofs.YtedgdnoafajhoaaDoor

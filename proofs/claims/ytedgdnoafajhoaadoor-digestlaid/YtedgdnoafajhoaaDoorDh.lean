import Derived.Test.YtedgdnoafajhoaaDoorDb
import Derived.Test.YtedgdnoafajhoaaDoorRq
import Derived.Test.YtedgdnoafajhoaaDoorVl
namespace Go.Proofs.YtedgdnoafajhoaaDoor
open Go.RowKit Go

/-- What fits tells. -/
def dfit (h n : Nat) : Nat := if h ≠ 18 ∧ h ≠ 0 then 30 else if (h = 18 ∧ n ≠ 32) ∨ (h = 0 ∧ 64 < n) then 31 else 0

set_option maxRecDepth 1000000 in
theorem fits_any (w : World) (h n : Nat) (hh : h < 18446744073709551616) (hn : n < 18446744073709551616) :
    Calls Tryd.prog 45 #[.int .u64 (h : Nat), .int .u64 (n : Nat)] w fun e w' => e = .returned (.int .i64 (dfit h n : Nat)) ∧ w' = w := by
  by_cases h18 : h = 18
  · subst h18
    by_cases hn32 : n = 32
    · subst hn32
      go_enter Tryd.func45, Tryd.ntmps45
      go_wp2_with fail
      go_ret
      exact ⟨rfl, rfl⟩
    · have e : dfit 18 n = 31 := by simp [dfit, hn32]
      rw [e]
      have g : ((n : Int) != 32) = true := bne_iff_ne.2 (by omega)
      go_enter Tryd.func45, Tryd.ntmps45
      go_wp2_with fail
      go_ret
      exact ⟨rfl, rfl⟩
  · by_cases h0 : h = 0
    · subst h0
      by_cases hn64 : 64 < n
      · have e : dfit 0 n = 31 := by simp [dfit, hn64]
        rw [e]
        have g : (64 : Int) < (n : Int) := by omega
        go_enter Tryd.func45, Tryd.ntmps45
        go_wp2_with fail
        go_ret
        exact ⟨rfl, rfl⟩
      · have e : dfit 0 n = 0 := by simp [dfit, hn64]
        rw [e]
        have g : ¬ (64 : Int) < (n : Int) := by omega
        go_enter Tryd.func45, Tryd.ntmps45
        go_wp2_with fail
        go_ret
        exact ⟨rfl, rfl⟩
    · have e : dfit h n = 30 := by simp [dfit, h18, h0]
      rw [e]
      have g1 : ((h : Int) != 18) = true := bne_iff_ne.2 (by omega)
      have g2 : ((h : Int) != 0) = true := bne_iff_ne.2 (by omega)
      go_enter Tryd.func45, Tryd.ntmps45
      go_wp2_with fail
      go_ret
      exact ⟨rfl, rfl⟩

set_option maxRecDepth 1000000 in
theorem number_any (w : World) (v : Value) (xs : List Nat) (hsl : BSl w v xs) :
    Calls Tryd.prog 47 #[v] w fun e w' => e = .returned (dnumR (dnum xs)) ∧ w' = w := by
  have HV := hide hsl.vread
  clear hsl
  have HE : Hid (dnum xs = if (rd 0 0 xs).2.2 = 0 then rd 0 0 xs else (0, 0, if (rd 0 0 xs).2.2 = 10 then 32 else 33)) := rfl
  generalize rd 0 0 xs = r at *
  obtain ⟨n, u, E⟩ := r
  simp only [] at HV HE
  go_enter Tryd.func47, Tryd.ntmps47
  go_wp2_with fail
  refine HV.out.mono ?_
  rintro e w' ⟨rfl, rfl⟩
  by_cases h0 : E = 0
  · subst h0
    have e : dnum xs = (n, u, 0) := by rw [HE.out, if_pos rfl]
    go_wp2_with fail
    go_ret3
    exact ⟨by rw [e]; rfl, rfl⟩
  · have g0 : ((E : Int) == 0) = false := beq_eq_false_iff_ne.2 (by omega)
    by_cases h1 : E = 10
    · subst h1
      have e : dnum xs = (0, 0, 32) := by rw [HE.out, if_neg (by omega), if_pos rfl]
      go_wp2_with fail
      go_ret3
      exact ⟨by rw [e]; rfl, rfl⟩
    · have g1 : ((E : Int) == 10) = false := beq_eq_false_iff_ne.2 (by omega)
      have e : dnum xs = (0, 0, 33) := by rw [HE.out, if_neg h0, if_neg h1]
      go_wp2_with fail
      go_ret3
      exact ⟨by rw [e]; rfl, rfl⟩

set_option maxRecDepth 1000000 in
set_option maxHeartbeats 1000000 in
theorem holds3_any (w : World) (h : Nat) (v u : Value) (d xs : List Nat) (hcb : Cb w) (hh : h < 18446744073709551616) (h1 : BSl w v d) (h2 : BSl w u xs) (hlen : xs.length ≤ 140737488351232) :
    Calls Tryd.prog 33 #[.int .u64 (h : Nat), v, u] w fun e w' => e = .returned (.bool (dholds h d xs)) ∧ Below w.heap.size w w' := by
  have HCB := hide hcb
  have H1 := hide h1
  have H2 := hide h2
  have HL := hide hlen
  clear hlen hcb
  by_cases h18 : h = 18
  · subst h18
    have HE : Hid (dholds 18 d xs = decide (d = sha xs)) := by show _ = _; simp [dholds]
    clear h1 h2
    go_enter Tryd.func33, Tryd.ntmps33
    go_wp2_with fail
    refine (sum_any w u xs HCB.out H2.out HL.out).mono ?_
    rintro e w1 ⟨rfl, hb1⟩
    have HB1 := hide hb1
    have H11 := hide (H1.out.move (keep_below hb1))
    have HI := hide (info32d xs)
    have HO := hide (one32 xs)
    have HSL := hide (sha_len xs)
    have HSB := hide (sha_byte xs)
    generalize sha xs = D at *
    clear hb1
    go_wp2_with (refine wpList_storeRow rfl rfl w1.heap.size _ (bv D).toArray 28 rfl rfl (heap_alloc_new w1 _) HI.out (by simp [bv_len, HSL.out]) HO.out ?_)
    rw [World.setRow_alloc_new]
    have HBB := hide (bsl_block (heap_alloc_new w1 (.cells (bv D).toArray 28)) HSB.out (by rw [HSL.out]; decide))
    rw [HSL.out] at HBB
    refine (equal_any _ _ _ d D (H11.out.move (keep_alloc w1 _)) HBB.out).mono ?_
    rintro e w2 ⟨rfl, hb2⟩
    have HB2 : Hid (Below w.heap.size w w2) := (HB1.out.alloc HB1.out.size _).trans (hb2.mono (by have := HB1.out.size; simp; omega))
    clear hb2
    rw [← HE.out]
    go_wp2
    go_ret
    exact ⟨rfl, HB2.out⟩
  · have g18 : ((h : Int) == 18) = false := beq_eq_false_iff_ne.2 (by omega)
    obtain ⟨⟨a1, cap1, rfl, hn1, hc1⟩, hm1, hby1⟩ := h1
    clear hn1 hc1 hby1 h2
    by_cases h0 : h = 0
    · subst h0
      by_cases hd : d.length ≤ 64
      · have hd' : (d.length : Int) ≤ 64 := by omega
        have HE : Hid (dholds 0 d xs = decide (d = xs)) := by show _ = _; simp [dholds, hd]
        go_enter Tryd.func33, Tryd.ntmps33
        go_wp2_with fail
        refine (equal_any _ _ _ d xs H1.out H2.out).mono ?_
        rintro e w2 ⟨rfl, hb2⟩
        have HB2 := hide hb2
        clear hb2
        rw [← HE.out]
        go_wp2
        go_ret
        exact ⟨rfl, HB2.out⟩
      · have hd' : ¬ (d.length : Int) ≤ 64 := by omega
        have e : dholds 0 d xs = false := by simp [dholds, hd]
        rw [e]
        go_enter Tryd.func33, Tryd.ntmps33
        go_wp2
        go_ret
        exact ⟨rfl, Below.refl _ _⟩
    · have e : dholds h d xs = false := by simp [dholds, h18, h0]
      rw [e]
      have g0 : ((h : Int) == 0) = false := beq_eq_false_iff_ne.2 (by omega)
      go_enter Tryd.func33, Tryd.ntmps33
      go_wp2
      go_ret
      exact ⟨rfl, Below.refl _ _⟩
end Go.Proofs.YtedgdnoafajhoaaDoor

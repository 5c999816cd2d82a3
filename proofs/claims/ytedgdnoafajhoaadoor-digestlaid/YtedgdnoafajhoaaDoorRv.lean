import Derived.Test.YtedgdnoafajhoaaDoorRu
namespace Go.Proofs.YtedgdnoafajhoaaDoor
open Go.RowKit

theorem sha_len (xs : List Nat) : (sha xs).length = 32 := outb_len _ (abs_len _ hh rfl _)
theorem sha_byte (xs : List Nat) : ∀ x ∈ sha xs, x < 256 := outb_byte _
/-- A block of bytes, as a slice of all of it. -/
theorem bsl_block {w : World} {g : Nat} {xs : List Nat} {t : TypeId} (h : w.heap[g]? = some (.cells (bv xs).toArray t (0, 0))) (hb : ∀ x ∈ xs, x < 256) (hl : xs.length ≤ 9223372036854775807) : BSl w (.slice (some ⟨g, 0, none⟩) xs.length xs.length) xs := by
  refine ⟨⟨_, xs.length, rfl, ⟨Nat.le_refl _, fun h => by cases h⟩, .inr ⟨g, 0, rfl, fun j hj => ?_⟩⟩, hl, hb⟩
  rw [Nat.zero_add]
  exact blk_cell h (by rw [List.getElem?_toArray]; exact bv_get hj)
/-- What Holds of the document tells. -/
def dholds (h : Nat) (d xs : List Nat) : Bool := if h = 18 then decide (d = sha xs) else decide (h = 0) && (decide (d.length ≤ 64) && decide (d = xs))

theorem info32d (xs : List Nat) : (Tryd.prog.info? 28).map (·.size) = some (bv (sha xs)).toArray.size := by
  have h := info32
  simpa [bv_len, sha_len] using h
theorem one32 (xs : List Nat) : (bv (sha xs)).toArray.all (·.oneCell') = true := by
  rw [Array.all_eq_true_iff_forall_mem]
  intro u hu
  exact bv_one _ u (by simpa using hu)

set_option maxRecDepth 1000000 in
set_option maxHeartbeats 400000 in
theorem refHolds_any (w : World) (h : Nat) (v u : Value) (d xs : List Nat) (hh : h < 18446744073709551616) (h1 : BSl w v d) (h2 : BSl w u xs) (hlen : xs.length ≤ 140737488351232) :
    Calls Tryd.prog 34 #[.int .u64 (h : Nat), v, u] w fun e w' => e = .returned (.bool (dholds h d xs)) ∧ Below w.heap.size w w' := by
  have H1 := hide h1
  have H2 := hide h2
  have HL := hide hlen
  clear h1 h2 hlen
  by_cases h18 : h = 18
  · subst h18
    have HE : Hid (dholds 18 d xs = decide (d = sha xs)) := by show _ = _; simp [dholds]
    go_enter Tryd.func34, Tryd.ntmps34
    go_wp2_with fail
    refine (refSum_any _ _ xs H2.out HL.out).mono ?_
    rintro e w1 ⟨rfl, hb1⟩
    have HB1 := hide hb1
    have H11 := hide (H1.out.move (keep_below hb1))
    clear hb1
    have HI := hide (info32d xs)
    have HO := hide (one32 xs)
    have HSL := hide (sha_len xs)
    have HSB := hide (sha_byte xs)
    generalize sha xs = D at *
    go_wp2_with (refine wpList_storeRow rfl rfl w1.heap.size _ (bv D).toArray 28 rfl rfl (heap_alloc_new w1 _) HI.out (by simp [bv_len, HSL.out]) HO.out ?_)
    rw [World.setRow_alloc_new]
    have HBB := hide (bsl_block (heap_alloc_new w1 (.cells (bv D).toArray 28)) HSB.out (by rw [HSL.out]; decide))
    rw [HSL.out] at HBB
    refine (same3_any _ _ _ d D (H11.out.move (keep_alloc w1 _)) HBB.out).mono ?_
    rintro e w2 ⟨rfl, hk2⟩
    have HB2 : Hid (Below w.heap.size w w2) := (HB1.out.alloc HB1.out.size _).trans (hk2.below (by have := HB1.out.size; simp; omega) (fun _ h => h.elim))
    clear hk2
    rw [← HE.out]
    go_wp2
    go_ret
    exact ⟨rfl, HB2.out⟩
  · have g18 : ((h : Int) == 18) = false := beq_eq_false_iff_ne.2 (by omega)
    obtain ⟨⟨a1, cap1, rfl, hn1, hc1⟩, hm1, hby1⟩ := H1.out
    clear hn1 hc1 hby1
    by_cases h0 : h = 0
    · subst h0
      by_cases hd : d.length ≤ 64
      · have hd' : (d.length : Int) ≤ 64 := by omega
        have HE : Hid (dholds 0 d xs = decide (d = xs)) := by show _ = _; simp [dholds, hd]
        go_enter Tryd.func34, Tryd.ntmps34
        go_wp2_with fail
        refine (same3_any _ _ _ d xs H1.out H2.out).mono ?_
        rintro e w2 ⟨rfl, hk2⟩
        have HB2 : Hid (Below w.heap.size w w2) := hk2.below (Nat.le_refl _) (fun _ h => h.elim)
        clear hk2
        rw [← HE.out]
        go_wp2
        go_ret
        exact ⟨rfl, HB2.out⟩
      · have hd' : ¬ (d.length : Int) ≤ 64 := by omega
        have e : dholds 0 d xs = false := by simp [dholds, hd]
        rw [e]
        go_enter Tryd.func34, Tryd.ntmps34
        go_wp2
        go_ret
        exact ⟨rfl, Below.refl _ _⟩
    · have e : dholds h d xs = false := by simp [dholds, h18, h0]
      rw [e]
      have g0 : ((h : Int) == 0) = false := beq_eq_false_iff_ne.2 (by omega)
      go_enter Tryd.func34, Tryd.ntmps34
      go_wp2
      go_ret
      exact ⟨rfl, Below.refl _ _⟩
end Go.Proofs.YtedgdnoafajhoaaDoor

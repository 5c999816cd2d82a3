import Derived.Test.YtedgdnoafajhoaaDoorSl
namespace Go.Proofs.YtedgdnoafajhoaaDoor
open Go.RowKit

theorem mark_any (n : Int) (w : World) (h0 : 0 ≤ n) (h1 : n < 70) : Calls Tryd.prog 39 #[.int .i64 n] w fun e w' => e = .returned (.int .u8 (165 - n)) ∧ w' = w := by
  go_enter Tryd.func39, Tryd.ntmps39
  go_wp2
  go_ret
  exact ⟨rfl, rfl⟩

def marks : List Nat := (List.range 70).map fun i => 165 - i

theorem marks_snoc (k : Nat) (h : k < 70) : marks.take (k + 1) = marks.take k ++ [165 - k] := by
  rw [List.take_succ_eq_append_getElem (by simpa [marks] using h)]
  simp [marks]

set_option maxRecDepth 1000000 in
set_option maxHeartbeats 400000 in
theorem lend_any (w : World) (v : Value) (xs : List Nat) (hsl : BSl w v xs) (hlen : xs.length ≤ 140737488351232) :
    Calls Tryd.prog 11 #[v] w fun e w' => ∃ g cap, e = .returned (.slice (some ⟨g, 0, none⟩) xs.length cap) ∧ w'.ownsRow w.heap.size 5 1 (.slice (some ⟨g, 0, none⟩) (xs.length + 70) cap) (xs.length + 70) (bv (xs ++ marks)) ∧ Below w.heap.size w w' := by
  obtain ⟨i5, hi, hz0, hz1, hz2⟩ := info5_ex
  have HI := hide hi
  have HZ0 := hide hz0
  have HZ1 := hide hz1
  have HZ2 := hide hz2
  have HSL := hide hsl
  obtain ⟨⟨a, cap, rfl, hn, hc⟩, hmax, hb⟩ := hsl
  clear hn hc hmax hb
  obtain ⟨w0, hmk, hown0, hgr0⟩ := run_make_own (P := Tryd.prog) w w.heap.size 27 5 i5 (.int .u8 0) 1 Tryd.underlying27 hi hz0 hz1 .i64 .i64 (xs.length + 70) (by rw [hz2]; omega) (by unfold maxLen; omega) (Nat.le_refl _)
  have ec : ((xs.length + 70 : Nat) : Int) = (xs.length : Int) + 70 := by omega
  rw [ec] at hmk
  clear ec hi hz0 hz1 hz2
  have hbel0 : Below w.heap.size w w0 := (Below.refl _ _).grown hgr0 (Nat.le_refl _) (fun _ h => by cases h)
  have HSL0 := hide (HSL.out.move (keep_below hbel0))
  generalize hB : w.heap.size = B at *
  have HB := hide hB
  clear hB hgr0
  have HO0 := hide hown0
  clear hown0
  have HBL0 := hide hbel0
  clear hbel0
  go_enter Tryd.func11, Tryd.ntmps11
  go_wp2_with (at_builtin; refine append_bsl rfl _ _ rfl B _ 0 [] rfl HO0.out _ xs rfl HSL0.out ?b1 ?b2 ?_)
  case b1 => omega
  case b2 => have := HBL0.out.size; have := HB.out; omega
  intro v1 w1 hown1 hgr1
  have hbel1 : Below B w w1 := HBL0.out.grown hgr1 (by have := HBL0.out.size; have := HB.out; omega) (fun q hq => (HO0.out.lt q hq).1)
  clear hgr1 HO0 HBL0 HSL0 hmk
  have HO1 := hide hown1
  clear hown1
  have HBL1 := hide hbel1
  clear hbel1
  go_wp2
  go_loopw [3, 4] (fun v i wr => ∃ k : Nat, k ≤ 70 ∧ i = .int .i64 k ∧ wr.ownsRow B 5 1 v (xs.length + k) (bv (xs ++ marks.take k)) ∧ Below B w wr) (fun _ i _ => 70 - (intOf i).toNat)
  case atStart => exact ⟨0, by omega, rfl, by simpa using HO1.out, HBL1.out⟩
  case round =>
    obtain ⟨k, hk, rfl, hown, hbel⟩ := hrel
    clear HO1 HBL1
    have HO := hide hown
    have HBL := hide hbel
    clear hown hbel
    by_cases hlt : k < 70
    · have hlt' : (k : Int) < 70 := by omega
      go_wp2_with fail
      refine (mark_any (k : Int) _ (by omega) hlt').mono ?_
      rintro e w' ⟨rfl, rfl⟩
      have em : (165 - (k : Int)) = ((165 - k : Nat) : Int) := by omega
      rw [em]
      clear em
      go_wp2_with (at_builtin; refine append_bsl rfl _ _ rfl B _ (xs.length + k) (xs ++ marks.take k) rfl (HO.out.alloc _) _ [165 - k] rfl (one_bsl _ _ (by omega)) ?b1 ?b2 ?_)
      case b1 => simp; omega
      case b2 => have := HBL.out.size; have := HB.out; simp; omega
      intro v2 w2 hown2 hgr2
      have hbel2 : Below B w w2 := (HBL.out.alloc (by have := HBL.out.size; have := HB.out; omega) _).grown hgr2 (by have := HBL.out.size; have := HB.out; simp; omega) (fun q hq => (HO.out.lt q hq).1)
      have hown3 : w2.ownsRow B 5 1 v2 (xs.length + (k + 1)) (bv (xs ++ marks.take (k + 1))) := by
        rw [marks_snoc k hlt]; exact hown2
      have HO2 := hide hown3
      have HBL2 := hide hbel2
      clear hgr2 hown2 hown3 hbel2
      go_wp2
      go_roundw
      case rel => exact ⟨k + 1, by omega, by go_num, HO2.out, HBL2.out⟩
      case measure => simp [intOf]; omega
    · have hlt' : ¬ (k : Int) < 70 := by omega
      have hk70 : k = 70 := by omega
      have ho := HO.out
      rw [hk70] at ho
      have em : marks.take 70 = marks := List.take_of_length_le (by simp [marks])
      rw [em] at ho
      rcases ho.2 with ⟨_, h0⟩ | ⟨g, cap', cur, hv, _, hg, h1, h2, h3, h4⟩
      · omega
      subst hv
      have HO2 := hide ho
      have h2' : xs.length ≤ cap' := by omega
      clear ho h3 h4 hg em HO hk70 hlt cur
      go_wp2
      go_ret
      exact ⟨g, cap', rfl, HO2.out, HBL.out⟩

/-- What Lend gives reads as what was lent. -/
theorem BSl.lent {w : World} {B g n cap : Nat} {xs : List Nat} (h : w.ownsRow B 5 1 (.slice (some ⟨g, 0, none⟩) (n + 70) cap) (n + 70) (bv (xs ++ marks))) (hn : n = xs.length) (hb : ∀ x ∈ xs, x < 256) :
    BSl w (.slice (some ⟨g, 0, none⟩) xs.length cap) xs := by
  have hm : ∀ x ∈ xs ++ marks, x < 256 := by
    intro x hx
    rcases List.mem_append.1 hx with hx | hx
    · exact hb x hx
    · simp [marks] at hx; omega
  have hall := BSl.own h hm
  obtain ⟨⟨a, cap', e, hcp, hc⟩, hmax, _⟩ := hall
  injection e with e1 e2 e3
  subst e1
  subst e3
  refine ⟨⟨_, cap, rfl, ⟨by have := hcp.1; simp at this; omega, fun h => by (cases h)⟩, ?_⟩, ?_, hb⟩
  · rcases hc with hc | ⟨b, off, e, hc⟩
    · simp [marks] at hc
    · refine .inr ⟨b, off, e, fun j hj => ?_⟩
      rw [hc j (by simp; omega)]
      simp [List.getD, List.getElem?_append_left hj]
  · simp at hmax; omega
end Go.Proofs.YtedgdnoafajhoaaDoor

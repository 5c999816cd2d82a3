import Derived.Test.YtedgdnoafajhoaaDoorRs
import Derived.Test.YtedgdnoafajhoaaDoorRt
namespace Go.Proofs.YtedgdnoafajhoaaDoor
open Go.RowKit

set_option maxRecDepth 1000000 in
set_option maxHeartbeats 400000 in
theorem copy_any (w : World) (v : Value) (xs : List Nat) (hsl : BSl w v xs) (hlen : xs.length ≤ 140737488351232) :
    Calls Tryd.prog 32 #[v] w fun e w' => ∃ v', e = .returned v' ∧ w'.ownsRow w.heap.size 5 1 v' xs.length (bv xs) ∧ Below w.heap.size w w' := by
  have HSL := hide hsl
  have HL := hide hlen
  obtain ⟨⟨a, cap, rfl, hn, hc⟩, hmax, hb⟩ := hsl
  clear hn hc hb hlen
  go_enter Tryd.func32, Tryd.ntmps32
  go_wp2_with (at_builtin; refine append_bsl rfl _ _ rfl w.heap.size _ 0 [] rfl (World.ownsRow_nil _ _ _ _) _ xs rfl HSL.out ?b1 ?b2 ?_)
  case b1 => have := HL.out; omega
  case b2 => exact Nat.le_refl _
  intro v1 w1 ho1 hg1
  have hb1 : Below w.heap.size w w1 := (Below.refl _ _).grown hg1 (Nat.le_refl _) (fun q hq => by cases hq)
  have HO1 := hide ho1
  have HB1 := hide hb1
  clear ho1 hb1 hg1
  go_wp2
  go_ret
  exact ⟨_, rfl, by simpa using HO1.out, HB1.out⟩

theorem own_two (w : World) (x y : Nat) : (w.alloc (.cells #[.int .u8 ((x : Nat) : Int), .int .u8 ((y : Nat) : Int)] 5)).ownsRow w.heap.size 5 1 (.slice (some ⟨w.heap.size, 0, none⟩) 2 2) 2 (bv [x, y]) :=
  ⟨rfl, .inr ⟨w.heap.size, 2, _, rfl, Nat.le_refl _, heap_alloc_new w _, Nat.le_refl _, by decide, rfl, rfl⟩⟩
/-- What Lay of the document tells. -/
def dlay (h : Nat) (d : List Nat) : List Nat × Nat :=
  if h ≠ 18 ∧ h ≠ 0 then ([], 30) else if (h = 18 ∧ d.length ≠ 32) ∨ (h = 0 ∧ 64 < d.length) then ([], 31) else (h :: d.length :: d, 0)

set_option maxRecDepth 1000000 in
set_option maxHeartbeats 400000 in
theorem refDLay_any (w : World) (h : Nat) (v : Value) (d : List Nat) (hh : h < 18446744073709551616) (hsl : BSl w v d) :
    Calls Tryd.prog 23 #[.int .u64 (h : Nat), v] w fun e w' => ∃ v', e = .returned (.tuple #[v', .int .i64 ((dlay h d).2 : Nat)]) ∧ w'.ownsRow w.heap.size 5 1 v' (dlay h d).1.length (bv (dlay h d).1) ∧ Below w.heap.size w w' := by
  have HSL := hide hsl
  obtain ⟨⟨a, cap, rfl, hn, hc⟩, hmax, hb⟩ := hsl
  clear hn hc hb
  by_cases h18 : h = 18
  · subst h18
    by_cases hd : d.length = 32
    · have e : dlay 18 d = (18 :: d.length :: d, 0) := by simp [dlay, hd]
      rw [e]
      have hd' : ((d.length : Int) != 32) = false := bne_eq_false_iff_eq.2 (by omega)
      have hd64 : d.length ≤ 64 := by omega
      have HO := hide (own_two w 18 d.length)
      have HSA := hide (HSL.out.move (keep_alloc w (.cells #[.int .u8 ((18 : Nat) : Int), .int .u8 ((d.length : Nat) : Int)] 5)))
      clear hd e
      go_enter Tryd.func23, Tryd.ntmps23
      go_wp2_with (at_builtin; refine append_bsl rfl _ _ rfl w.heap.size _ 2 [18, d.length] rfl HO.out _ d rfl HSA.out ?b1 ?b2 ?_)
      case b1 => omega
      case b2 => simp
      intro v1 w1 ho1 hg1
      have hb1 : Below w.heap.size w w1 := ((Below.refl _ _).alloc (Nat.le_refl _) _).grown hg1 (by simp) (fun q hq => by simp [Value.ownBlock] at hq; omega)
      have HO1 := hide ho1
      have HB1 := hide hb1
      clear ho1 hb1 hg1
      go_wp2
      go_ret2
      refine ⟨_, rfl, ?_, HB1.out⟩
      have e2 : d.length + 1 + 1 = 2 + d.length := by omega
      rw [e2]
      exact HO1.out
    · have e : dlay 18 d = ([], 31) := by simp [dlay, hd]
      rw [e]
      have hd' : ((d.length : Int) != 32) = true := bne_iff_ne.2 (by omega)
      go_enter Tryd.func23, Tryd.ntmps23
      go_wp2
      go_ret2
      exact ⟨_, rfl, World.ownsRow_nil _ _ _ _, Below.refl _ _⟩
  · by_cases h0 : h = 0
    · subst h0
      by_cases hd : 64 < d.length
      · have e : dlay 0 d = ([], 31) := by simp [dlay, hd]
        rw [e]
        have hd' : (64 : Int) < (d.length : Int) := by omega
        go_enter Tryd.func23, Tryd.ntmps23
        go_wp2
        go_ret2
        exact ⟨_, rfl, World.ownsRow_nil _ _ _ _, Below.refl _ _⟩
      · have e : dlay 0 d = (0 :: d.length :: d, 0) := by simp [dlay, hd]
        rw [e]
        have hd' : ¬ (64 : Int) < (d.length : Int) := by omega
        have hd64 : d.length ≤ 64 := by omega
        have HO : Hid ((w.alloc (.cells #[.int .u8 0, .int .u8 ((d.length : Nat) : Int)] 5)).ownsRow w.heap.size 5 1 (.slice (some ⟨w.heap.size, 0, none⟩) 2 2) 2 (bv [0, d.length])) := own_two w 0 d.length
        have HSA := hide (HSL.out.move (keep_alloc w (.cells #[.int .u8 0, .int .u8 ((d.length : Nat) : Int)] 5)))
        clear hd e
        go_enter Tryd.func23, Tryd.ntmps23
        go_wp2_with (at_builtin; refine append_bsl rfl _ _ rfl w.heap.size _ 2 [0, d.length] rfl HO.out _ d rfl HSA.out ?b1 ?b2 ?_)
        case b1 => omega
        intro v1 w1 ho1 hg1
        have hb1 : Below w.heap.size w w1 := ((Below.refl _ _).alloc (Nat.le_refl _) _).grown hg1 (by simp) (fun q hq => by simp [Value.ownBlock] at hq; omega)
        have HO1 := hide ho1
        have HB1 := hide hb1
        clear ho1 hb1 hg1
        go_wp2
        go_ret2
        refine ⟨_, rfl, ?_, HB1.out⟩
        have e2 : d.length + 1 + 1 = 2 + d.length := by omega
        rw [e2]
        exact HO1.out
    · have e : dlay h d = ([], 30) := by simp [dlay, h18, h0]
      rw [e]
      have g1 : ((h : Int) != 18) = true := bne_iff_ne.2 (by omega)
      have g2 : ((h : Int) != 0) = true := bne_iff_ne.2 (by omega)
      go_enter Tryd.func23, Tryd.ntmps23
      go_wp2
      go_ret2
      exact ⟨_, rfl, World.ownsRow_nil _ _ _ _, Below.refl _ _⟩
end Go.Proofs.YtedgdnoafajhoaaDoor

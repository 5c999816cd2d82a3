import Derived.Test.YtedgdnoafajhoabDoorSl
namespace Go.Proofs.YtedgdnoafajhoabDoor
open Go.RowKit

def marks : List Nat := (List.range 70).map fun i => 165 - i

theorem marks_snoc (k : Nat) (h : k < 70) : marks.take (k + 1) = marks.take k ++ [165 - k] := by
  rw [List.take_succ_eq_append_getElem (by simpa [marks] using h)]
  simp [marks]

/-- What Lend gives reads as what was lent. -/
theorem BSl.lent {w : World} {B g n cap : Nat} {xs : List Nat} (h : w.ownsRow B 5 1 (.slice (some ⟨g, 0, none⟩) (n + 70) cap) (n + 70) (bv (xs ++ marks))) (hn : n = xs.length) (hb : ∀ x ∈ xs, x < 256) :
    BSl w (.slice (some ⟨g, 0, none⟩) xs.length cap) xs := by
  have hm : ∀ x ∈ xs ++ marks, x < 256 := by
    intro x hx
    rcases List.mem_append.1 hx with hx | hx
    · exact hb x hx
    · simp [marks] at hx; omega
  have hall := BSl.own h hm
  obtain ⟨⟨a, cap', e, hcp, hc⟩, hmax, _⟩ := hall
  injection e with e1 e2 e3
  subst e1
  subst e3
  refine ⟨⟨_, cap, rfl, ⟨by have := hcp.1; simp at this; omega, fun h => by (cases h)⟩, ?_⟩, ?_, hb⟩
  · rcases hc with hc | ⟨b, off, e, hc⟩
    · simp [marks] at hc
    · refine .inr ⟨b, off, e, fun j hj => ?_⟩
      rw [hc j (by simp; omega)]
      simp [List.getD, List.getElem?_append_left hj]
  · simp at hmax; omega
end Go.Proofs.YtedgdnoafajhoabDoor

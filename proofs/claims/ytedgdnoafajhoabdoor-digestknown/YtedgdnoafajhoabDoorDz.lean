import Derived.Test.YtedgdnoafajhoabDoorDy
namespace Go.Proofs.YtedgdnoafajhoabDoor
open Go.RowKit Go

theorem dread_fit {xs : List Nat} {hn u n m : Nat} (h : dnum xs = (hn, u, 0)) (h2 : dnum (xs.drop u) = (n, m, 0)) :
    (dfit hn n ≠ 0 → dread xs = (0, [], 0, dfit hn n)) ∧ (dfit hn n = 0 → (xs.length - (u + m) < n → dread xs = (0, [], 0, 32)) ∧ (¬ xs.length - (u + m) < n → dread xs = (hn, (xs.drop (u + m)).take n, u + m + n, 0))) := by
  have K := (dread_rest h).2 n m h2
  unfold dfit
  by_cases h1 : hn ≠ 18 ∧ hn ≠ 0
  · rw [if_pos h1]
    exact ⟨fun _ => K.1 h1, fun h => by cases h⟩
  · rw [if_neg h1]
    have K2 := K.2 h1
    by_cases h3 : (hn = 18 ∧ n ≠ 32) ∨ (hn = 0 ∧ 64 < n)
    · rw [if_pos h3]
      exact ⟨fun _ => K2.1 h3, fun h => by cases h⟩
    · rw [if_neg h3]
      exact ⟨fun h => absurd rfl h, fun _ => K2.2 h3⟩

end Go.Proofs.YtedgdnoafajhoabDoor

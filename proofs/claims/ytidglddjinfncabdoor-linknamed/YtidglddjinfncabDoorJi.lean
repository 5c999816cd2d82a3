import Derived.Test.YtidglddjinfncabDoorJh
import Derived.Laws.ResultCell
namespace Go.Proofs.YtidglddjinfncabDoor
section
open Go.RowKit Go
theorem dread_bytes4 {xs : List Nat} (h : ∀ x ∈ xs, x < 256) : ∀ x ∈ (dread xs).2.1, x < 256 := by
  intro x hx
  unfold dread at hx
  repeat' split at hx
  all_goals first | (simp at hx; done) | exact h x (List.mem_of_mem_drop (List.mem_of_mem_take hx))
end
section
open Go.RowKit Go

end
section
open Go.RowKit Go

end
end Go.Proofs.YtidglddjinfncabDoor

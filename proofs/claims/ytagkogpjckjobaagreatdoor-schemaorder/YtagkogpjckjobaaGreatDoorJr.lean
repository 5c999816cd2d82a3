import Derived.Test.YtagkogpjckjobaaGreatDoorJq
import Derived.Test.YtagkogpjckjobaaGreatDoorJi
namespace Go.Proofs.YtagkogpjckjobaaGreatDoor
section
open Go.RowKit Go
theorem cut_shrt (l : List Tp) : Shrt (cutL l) := fun t ht => by
  unfold cutL at ht
  obtain ⟨u, _, rfl⟩ := List.mem_map.1 ht
  unfold cutT
  simp only [List.length_take]
  omega
theorem cut_len (l : List Tp) : (cutL l).length ≤ 80 := by
  unfold cutL
  rw [List.length_map, List.length_take]
  omega
end
end Go.Proofs.YtagkogpjckjobaaGreatDoor

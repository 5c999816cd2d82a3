import Derived.Test.YtedgdnoafajhoabDoorDsu
import Derived.Test.YtedgdnoafajhoabDoorEq
namespace Go.Proofs.YtedgdnoafajhoabDoor
open Go.RowKit Go

set_option maxRecDepth 1000000 in
theorem equal_any (w : World) (v u : Value) (xs ys : List Nat) (h1 : BSl w v xs) (h2 : BSl w u ys) :
    Calls Tryd.prog 24 #[v, u] w fun e w' => e = .returned (.bool (decide (xs = ys))) ∧ Below w.heap.size w w' := by
  have e1 := h1.text
  have e2 := h2.text
  have H1 := hide h1.byte
  have H2 := hide h2.byte
  clear h1 h2
  go_enter Tryd.func24, Tryd.ntmps24
  go_wp2_with fail
  have e : ((nstr xs).toList == (nstr ys).toList) = decide (xs = ys) := by
    by_cases h : xs = ys
    · subst h; simp
    · have hn : ¬ (nstr xs).toList = (nstr ys).toList := fun e => h (nstr_inj H1.out H2.out e)
      rw [beq_eq_false_iff_ne.2 hn]
      simp [h]
  rw [e]
  go_ret
  exact ⟨rfl, Below.refl _ _⟩

end Go.Proofs.YtedgdnoafajhoabDoor

import Derived.Test.YtnpjmanagecpkaaDoorJa
import Derived.StillTailTactics
import Derived.Deep.LoopGhost
import Derived.Deep.DeepCutAuto
import Derived.Deep.RegionLaw
namespace Go.Proofs.YtnpjmanagecpkaaDoor
section
open Go.RowKit

end
section
open Go.RowKit
/-! ### Eq -/
end
section
open Go.RowKit

end
section
open Go.RowKit

end
section
open Go.RowKit
/-! ### Whole rows -/
theorem row_same {w : World} {g : Nat} {old cs : Array Value} {t : TypeId} (h : w.heap[g]? = some (.cells old t (0, 0))) : (w.setRow g cs).heap[g]? = some (.cells cs t (0, 0)) := by
  simp [World.setRow, Array.getElem?_modify, h]
theorem row_other {w : World} {g k : Nat} {cs : Array Value} (h : k ≠ g) : (w.setRow g cs).heap[k]? = w.heap[k]? := by
  have h' : ¬ g = k := fun e => h e.symm
  simp [World.setRow, Array.getElem?_modify, h']
theorem row_kp (w : World) (g : Nat) (cs : Array Value) : Kp (fun q => q = g) w (w.setRow g cs) :=
  ⟨rfl, rfl, rfl, by simp [World.setRow], fun _ _ h => row_other h⟩
theorem wpList_storeRow {ops : Array Oper} {rest : List Oper} {o : Oper} {a : Act} {Q : Exit → Act → World → Prop} {w : World} {T : TypeId} {p x : Operand} (hgd : o.guard = none) (ho : o.op = .store T p x) (g : Nat) (old cs : Array Value) (t : TypeId)
    (hp : a.eval p = .pointer (some ⟨g, 0, none⟩)) (hx : a.eval x = .agg cs) (hg : w.heap[g]? = some (.cells old t (0, 0))) (hi : (Tryd.prog.info? T).map (·.size) = some cs.size) (hn : old.size = cs.size) (h1 : cs.all (·.oneCell') = true)
    (h : wpList Tryd.prog ops Q rest (a.put o.dst undef) (w.setRow g cs)) : wpList Tryd.prog ops Q (o :: rest) a w := by
  refine wpList_plain hgd fun K hK => ?_
  unfold Oper.wp execOp
  have hr : (Instr.storeAt T (.pointer (some ⟨g, 0, none⟩)) (.agg cs)).run Tryd.prog w = .ok () (w.setRow g cs) := by
    simp only [Instr.storeAt, Instr.sureAddr, Sem.run_bind, Sem.run_pure, Result.andThen]
    exact run_storeVar_row (P := Tryd.prog) w g t T old cs hg hi hn h1
  simp only [ho, Sem.run_bind, hp, hx, hr, Result.andThen_ok]
  exact hK _ _ h
end
section
open Go.RowKit
/-! ### Eq -/
end
section
open Go.RowKit

end
section
open Go.RowKit Go
/-- The number that digits make, the first one the highest. -/
def valB (b : Nat) (l : List Nat) : Nat := l.foldl (fun r d => r * b + d) 0
/-- A number's digits, the highest first, none of 0. -/
def digB (b n : Nat) : List Nat := if _h : n = 0 ∨ b < 2 then [] else digB b (n / b) ++ [n % b]
termination_by n
decreasing_by exact Nat.div_lt_self (by omega) (by omega)
/-- Digits of one base in another one: a 0 for each 0 at the front, then the number. -/
def conv (a b : Nat) (l : List Nat) : List Nat := List.replicate (l.takeWhile (· == 0)).length 0 ++ digB b (valB a (l.dropWhile (· == 0)))
end
section
open Go.RowKit

end
section
open Go.RowKit
/-! ### The landed digest: words -/
end
section
open Go.RowKit

end
section
open Go.RowKit
/-! ### Plain -/
/-! ### The walk -/
end
end Go.Proofs.YtnpjmanagecpkaaDoor

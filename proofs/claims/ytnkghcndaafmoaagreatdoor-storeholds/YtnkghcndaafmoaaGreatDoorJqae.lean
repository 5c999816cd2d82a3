import Derived.Test.YtnkghcndaafmoaaGreatDoorJqt
import Derived.Test.YtnkghcndaafmoaaGreatDoorJqs
import Derived.Test.YtnkghcndaafmoaaGreatDoorJqo
import Derived.Test.YtnkghcndaafmoaaGreatDoorJqj
import Derived.Laws.MakeOwn
namespace Go.Proofs.YtnkghcndaafmoaaGreatDoor
section
open Go.RowKit Go
structure Bs where
  l : ByteArray
  t : ByteArray
  n : Nat
end
section
open Go.RowKit Go
def plt (t : List Nat) : Nat → List Nat
  | 0 => List.replicate 256 0
  | k + 1 => (plt t k).set (t.getD k 0) (k + 1)
end
section
open Go.RowKit Go
def tells (t : List Nat) : Prop := ∀ c, c < 256 → (plt t t.length).getD c 0 = (match look t c with | some i => i + 1 | none => 0)
end
section
open Go.RowKit Go

end
section
open Go.RowKit Go

end
section
open Go.RowKit Go

end
section
open Go.RowKit Go

end
end Go.Proofs.YtnkghcndaafmoaaGreatDoor

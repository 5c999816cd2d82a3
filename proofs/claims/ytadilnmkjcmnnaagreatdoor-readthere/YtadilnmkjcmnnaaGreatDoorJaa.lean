import Derived.Test.YtadilnmkjcmnnaaGreatDoorJf
import Derived.Test.YtadilnmkjcmnnaaGreatDoorJh
import Derived.Test.YtadilnmkjcmnnaaGreatDoorJd
import Derived.SliceStrings
import Derived.LaidLaws
import Derived.Handed
import Derived.Lib.LaidTab
import Derived.Test.YtadilnmkjcmnnaaGreatDoorJk
import Derived.Test.YtadilnmkjcmnnaaGreatDoorJn
import Derived.Laws.Concat
import Derived.Test.YtadilnmkjcmnnaaGreatDoorJq
namespace Go.Proofs.YtadilnmkjcmnnaaGreatDoor
section
open Go.ChangeShapes Go.WideShapes Go.ChangeAt Go.RowKit Go.Deep Go.Joins Go
theorem Tryz.cellsLink : Tryz.prog.cellsOf 59 = 4 := by kernel_rfl
theorem Tryz.cells_int : Tryz.prog.cellsOf 3 = 1 := by kernel_rfl
theorem Tryz.cells_u64 : Tryz.prog.cellsOf 57 = 1 := by kernel_rfl
theorem Tryz.cells_str : Tryz.prog.cellsOf 9 = 1 := by kernel_rfl
section
variable {H : Type} {enc : TypeId × Value → H} {P : Program} {w : World} {base : Nat} {spare : Nat → Bool} {held : Bool}
end
end
section
open Go.ChangeShapes Go.WideShapes Go.ChangeAt Go.RowKit Go

end
section
open Go.ChangeShapes Go.WideShapes Go.ChangeAt Go.RowKit Go.Deep Go.Joins Go

end
section
open Go.RowKit Go
/-- A base of the landed code. -/
structure Bs where
  l : ByteArray
  t : ByteArray
  n : Nat
def b0 : Bs := ⟨⟨#[]⟩, ⟨#[]⟩, 0⟩
end
section
open Go.RowKit Go

end
section
open Go.RowKit Go

end
section
open Go.RowKit Go

end
section
open Go.RowKit Go

end
section
open Go.RowKit Go

end
section
open Go.RowKit Go

end
section
open Go.RowKit Go

end
section
open Go.RowKit Go

end
section
open Go.RowKit Go

end
end Go.Proofs.YtadilnmkjcmnnaaGreatDoor

import Derived.Test.YtnkghcndaafmoaaGreatDoorJqae
import Derived.Test.YtnkghcndaafmoaaGreatDoorJqad
import Derived.Laws.Concat
import Derived.Test.YtnkghcndaafmoaaGreatDoorJqt
import Derived.Test.YtnkghcndaafmoaaGreatDoorJqq
import Derived.Test.YtnkghcndaafmoaaGreatDoorJqr
namespace Go.Proofs.YtnkghcndaafmoaaGreatDoor
section
open Go.RowKit Go

end
section
open Go.RowKit Go

end
section
open Go.RowKit Go

end
section
open Go.RowKit Go

end
section
open Go.RowKit Go

end
section
open Go.RowKit Go

end
section
open Go.RowKit Go

end
section
open Go.RowKit Go

end
section
open Go.RowKit Go

end
section
open Go.RowKit Go

end
end Go.Proofs.YtnkghcndaafmoaaGreatDoor

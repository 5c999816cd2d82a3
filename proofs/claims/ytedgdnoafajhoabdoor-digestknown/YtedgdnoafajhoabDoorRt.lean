import Derived.Test.YtedgdnoafajhoabDoorBkb
namespace Go.Proofs.YtedgdnoafajhoabDoor
open Go.RowKit

/-! ### Eq -/
end Go.Proofs.YtedgdnoafajhoabDoor

import Derived.Test.YtedgdnoafajhoabDoorKp
namespace Go.Proofs.YtedgdnoafajhoabDoor
open Go.RowKit

end Go.Proofs.YtedgdnoafajhoabDoor

/- The law's comparison of trees that are the same. -/
import Derived.Test.YteoghpefilghdamDoorXE
namespace Go.Proofs.YteoghpefilghdamDoor
open Go.ChangeShapes Go.WideShapes Go.ChangeAt Go.RowKit

end Go.Proofs.YteoghpefilghdamDoor

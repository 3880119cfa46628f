/- The law's measure of a tree, whole. -/
import Derived.Test.YteoghpefilghdamDoorXB
namespace Go.Proofs.YteoghpefilghdamDoor
open Go.ChangeShapes Go.WideShapes Go.ChangeAt Go.RowKit

end Go.Proofs.YteoghpefilghdamDoor

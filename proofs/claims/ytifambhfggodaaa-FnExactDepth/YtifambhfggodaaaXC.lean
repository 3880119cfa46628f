/- The law's measure of a tree, whole. -/
import Derived.Test.YtifambhfggodaaaXB
namespace Go.Proofs.Ytifambhfggodaaa
open Go.ChangeShapes Go.WideShapes Go.ChangeAt Go.RowKit

end Go.Proofs.Ytifambhfggodaaa

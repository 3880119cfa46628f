/- The law's comparison of trees that are the same. -/
import Derived.Test.YtifambhfggodaaaXE
namespace Go.Proofs.Ytifambhfggodaaa
open Go.ChangeShapes Go.WideShapes Go.ChangeAt Go.RowKit

end Go.Proofs.Ytifambhfggodaaa

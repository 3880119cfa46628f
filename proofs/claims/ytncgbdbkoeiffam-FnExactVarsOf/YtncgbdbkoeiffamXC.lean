/- The law's measure of a tree, whole. -/
import Derived.Test.YtncgbdbkoeiffamXB
namespace Go.Proofs.Ytncgbdbkoeiffam
open Go.ChangeShapes Go.WideShapes Go.ChangeAt Go.RowKit

end Go.Proofs.Ytncgbdbkoeiffam

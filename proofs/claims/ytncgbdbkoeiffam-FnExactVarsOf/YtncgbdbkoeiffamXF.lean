/- The law's comparison of trees that are the same. -/
import Derived.Test.YtncgbdbkoeiffamXE
namespace Go.Proofs.Ytncgbdbkoeiffam
open Go.ChangeShapes Go.WideShapes Go.ChangeAt Go.RowKit

end Go.Proofs.Ytncgbdbkoeiffam

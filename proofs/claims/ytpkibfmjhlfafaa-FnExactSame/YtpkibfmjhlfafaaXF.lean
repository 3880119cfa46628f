/- The law's comparison of trees that are the same. -/
import Derived.Test.YtpkibfmjhlfafaaXE
namespace Go.Proofs.Ytpkibfmjhlfafaa
open Go.ChangeShapes Go.WideShapes Go.ChangeAt Go.RowKit

end Go.Proofs.Ytpkibfmjhlfafaa

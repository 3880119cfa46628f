/- The law's measure of a tree, whole. -/
import Derived.Test.YtpkibfmjhlfafaaXB
namespace Go.Proofs.Ytpkibfmjhlfafaa
open Go.ChangeShapes Go.WideShapes Go.ChangeAt Go.RowKit

end Go.Proofs.Ytpkibfmjhlfafaa

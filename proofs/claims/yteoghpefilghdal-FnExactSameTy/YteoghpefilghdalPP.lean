/- The model's SameProg. -/
import Derived.Test.YteoghpefilghdalPO
namespace Go.Proofs.Yteoghpefilghdal
open Go.ChangeShapes Go.WideShapes Go.ChangeAt Go.RowKit

def smP (h : Nat) (a b : Tr) : Bool := decide (a.l.length = b.l.length) && (rowTo (smD h) a.l b.l a.l.length && rowB (sm h).de a.ds b.ds)

end Go.Proofs.Yteoghpefilghdal

/- The model's sameness of datas. -/
import Derived.Test.YteoghpefilghdalPN
namespace Go.Proofs.Yteoghpefilghdal
open Go.ChangeShapes Go.WideShapes Go.ChangeAt Go.RowKit

def smC (h : Nat) (a b : Tr) : Bool := eqS a.s b.s && (decide (a.l.length = b.l.length) && rowTo (smT h) a.l b.l a.l.length)
def smD (h : Nat) (a b : Tr) : Bool := eqS a.s b.s && (decide (a.l.length = b.l.length) && rowTo (smC h) a.l b.l a.l.length)

end Go.Proofs.Yteoghpefilghdal

/- The model's reader: must, marks and words, names. -/
import Derived.Test.YtnmofagmjcengaaRD
namespace Go.Proofs.Ytnmofagmjcengaa.Rd
open Go.ChangeShapes Go.WideShapes Go.ChangeAt Go.RowKit

section
variable {A : Arr} {b d : Nat} {w : World} {r : Option (List TokZ)}
def isKO (r : Option (List TokZ)) (k : Int) : Bool := match r with
  | some ts => isK ts k
  | none => false
end
end Go.Proofs.Ytnmofagmjcengaa.Rd

/- The small tests on signs, of the program and of the model: each is what its plain function says, and the world stands. -/
import Derived.Test.YtpkibfmjhlfafaaBase
import Derived.WalkKit
import Derived.ProofKit
import Derived.WalkLawsBesides
import Derived.Lib.OthersKept
namespace Go.Proofs.Ytpkibfmjhlfafaa
open Go.RowKit

def inB (x a b : Int) : Bool := decide (a ≤ x) && decide (x ≤ b)
def letB (x : Int) : Bool := (inB x 97 122 || inB x 65 90) || inB x 48 57
theorem inB_tt {x a b : Int} (h1 : a ≤ x) (h2 : x ≤ b) : inB x a b = true := by simp [inB, h1, h2]
theorem inB_lo {x a b : Int} (h1 : x < a) : inB x a b = false := by simp [inB]; omega
theorem inB_hi {x a b : Int} (h2 : b < x) : inB x a b = false := by simp [inB]; omega


end Go.Proofs.Ytpkibfmjhlfafaa

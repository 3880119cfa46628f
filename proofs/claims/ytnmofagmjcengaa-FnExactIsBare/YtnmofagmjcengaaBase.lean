/- Two small words that all texts use. -/
import Derived.Test.YtnmofagmjcengaaRows
import Derived.WalkKit
import Derived.ProofKit
namespace Go.Proofs.Ytnmofagmjcengaa
open Go.RowKit
theorem hide {p : Prop} (h : p) : Hid p := h
theorem ret_bool {a b : Bool} (h : a = b) : Ending.returned (.bool a) = .returned (.bool b) := by rw [h]
end Go.Proofs.Ytnmofagmjcengaa

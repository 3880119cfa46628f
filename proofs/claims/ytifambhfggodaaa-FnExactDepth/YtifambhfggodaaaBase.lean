/- Two small words that all texts use. -/
import Derived.Test.YtifambhfggodaaaRows
import Derived.WalkKit
import Derived.ProofKit
namespace Go.Proofs.Ytifambhfggodaaa
open Go.RowKit
theorem hide {p : Prop} (h : p) : Hid p := h
theorem ret_bool {a b : Bool} (h : a = b) : Ending.returned (.bool a) = .returned (.bool b) := by rw [h]
end Go.Proofs.Ytifambhfggodaaa

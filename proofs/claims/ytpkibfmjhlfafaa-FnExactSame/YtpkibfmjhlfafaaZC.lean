/- The model's sameness of definitions, a step; its SameExp. -/
import Derived.Test.YtpkibfmjhlfafaaZB
namespace Go.Proofs.Ytpkibfmjhlfafaa
open Go.ChangeShapes Go.WideShapes Go.ChangeAt Go.RowKit

theorem row_false {K : Nat → Prop} {w : World} {size : Nat} {o : Option Addr} {xs : List Tr} (hm : RowOf K w (fun _ _ => False) size o xs) : xs = [] := by
  cases xs with
  | nil => rfl
  | cons x r =>
    obtain ⟨_, _, _, _, _, hc⟩ := hm (by simp)
    obtain ⟨_, _, _, hf⟩ := hc 0 x rfl
    exact hf.elim
end Go.Proofs.Ytpkibfmjhlfafaa

/- The model's small tests of names, kinds and parts. -/
import Derived.Test.YteoghpefilghdamDoorYA
import Derived.Test.YteoghpefilghdamDoorQC
namespace Go.Proofs.YteoghpefilghdamDoor
open Go.ChangeShapes Go.WideShapes Go.ChangeAt Go.RowKit

theorem RowOf.take {α : Type} {K : Nat → Prop} {w : World} {R : α → List Value → Prop} {size : Nat} {o : Option Addr} {xs : List α} (h : RowOf K w R size o xs) (i : Nat) : RowOf K w R size o (xs.take i) := by
  intro hne
  obtain ⟨b, off, e, hk, hl, hc⟩ := h (by intro e; rw [e] at hne; simp at hne)
  refine ⟨b, off, e, hk, hl, fun j x hx => hc j x ?_⟩
  rw [List.getElem?_take] at hx
  split at hx
  · exact hx
  · cases hx

end Go.Proofs.YteoghpefilghdamDoor

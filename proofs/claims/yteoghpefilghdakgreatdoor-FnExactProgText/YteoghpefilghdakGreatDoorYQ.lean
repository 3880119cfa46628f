/- DecsOk, both sides. -/
import Derived.Test.YteoghpefilghdakGreatDoorYP
namespace Go.Proofs.YteoghpefilghdakGreatDoor
open Go.ChangeShapes Go.WideShapes Go.ChangeAt Go.RowKit

/-- A measure that tells a count and whether all is right, held against 200. -/
theorem trk_bool {r : Int} {ok : Bool} {n : Nat} (h : Trk r ok n) : decide (r ≤ 200) = (ok && decide (n ≤ 200)) := by
  rcases h with ⟨h1, h2, h3⟩ | ⟨h1, h2⟩
  · rw [h1, decide_eq_true (show n ≤ 200 from h2), decide_eq_true (by omega)]
    rfl
  · rw [decide_eq_false (by omega)]
    symm
    rw [Bool.and_eq_false_iff]
    cases ok with
    | false => exact Or.inl rfl
    | true => exact Or.inr (decide_eq_false fun hc => h2 ⟨rfl, hc⟩)


/-- A row that can be read lies in blocks that are there. -/
theorem row_old {w : World} {g h : Nat} {xs : List Tr} {o : Option Addr} (hg : w.heap.size ≤ g) (hm : RowOf AllK w (reads AllK w h).de 9 o xs) : RowOf (NeK g) w (reads (NeK g) w h).de 9 o xs := by
  intro hne
  obtain ⟨b, off, e, -, hl, hc⟩ := hm hne
  refine ⟨b, off, e, (by show b ≠ g; omega), hl, fun i x hx => ?_⟩
  obtain ⟨cs, h1, h2, h3⟩ := hc i x hx
  exact ⟨cs, h1, h2, ((reads_old hg h).2.1) _ _ h3⟩

end Go.Proofs.YteoghpefilghdakGreatDoor

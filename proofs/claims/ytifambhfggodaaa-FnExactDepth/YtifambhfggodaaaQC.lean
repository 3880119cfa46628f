/- A region that draws its order, walked once, in the order of the text, within a class of worlds: calls may make memory. -/
import Derived.Test.YtifambhfggodaaaBase
import Derived.Deep.QuietTactic
import Derived.BigQuiet
import Derived.Lib.OthersKept
namespace Go.Proofs.Ytifambhfggodaaa
open Go.RowKit

/-- A world of a class. -/
structure Cl (S : World → Prop) where
  w : World
  h : S w
theorem wp_region_class {P : Program} {S : World → Prop} {id : Nat} {Q : Exit → Act → World → Prop} {a : Act} {w : World} {l : List Oper} (hm : P.follows .mixedOrders = true) (hB : Region.lexB .any l.toArray = true) (hS : S (w.drewN 1))
    (h : wpQuiet P l.toArray (fun w' => ∃ q : Cl S, w' = q.w) (fun a' => ∀ w', (∃ q : Cl S, w' = q.w) → Q .normal a' w') l a) : (Code.region id l.toArray true).wp P Q a w :=
  wp_region_quiet (C := fun w' => ∃ q : Cl S, w' = q.w) hm hB ⟨⟨_, hS⟩, rfl⟩ (by simpa using h)
theorem below_drew (w : World) : Below w.heap.size w (w.drewN 1) := (Below.refl _ _).drew
/-- The worlds that keep all that was there. -/
abbrev Later (w : World) : Type := Cl (fun v => Below w.heap.size w v)
theorem later_nonempty (w : World) : Nonempty (Later w) := ⟨⟨w, Below.refl _ _⟩⟩
def Later.on {w : World} (q : Later w) {w1 : World} (h : Below q.w.heap.size q.w w1) : Later w := ⟨w1, q.h.trans (h.mono q.h.size)⟩
end Go.Proofs.Ytifambhfggodaaa

import Derived.Deep.QuietTactic
import Derived.BigQuiet
import Derived.Test.YtfomndilhlgikajGreatDoorP01
set_option maxHeartbeats 8000000
set_option maxRecDepth 100000
namespace Go.Proofs.YtfomndilhlgikajGreatDoor.Nm
open Go.ChangeShapes Go.WideShapes Go.ChangeAt Go.RowKit
theorem mt0 (k : Nat) (h : k <= 4900000) (w : World) : Calls Tryz.prog 91 #[.int .i64 ((k : Int) + 1)] w fun e w' => e = .returned (.string (aD k)) /\ Below w.heap.size w w' := lN k (by omega) w
theorem mt1 (k : Nat) (h : k <= 4900000) (w : World) : Calls Tryz.prog 91 #[.int .i64 ((k : Int) + 1 + 1)] w fun e w' => e = .returned (.string (aD (k + 1))) /\ Below w.heap.size w w' := by
 have h9 := lN (k + 1) (by omega) w
 rw [Int.natCast_add] at h9
 exact h9
end Go.Proofs.YtfomndilhlgikajGreatDoor.Nm
namespace Go.Proofs.YtfomndilhlgikajGreatDoor
open Go.RowKit
structure Cl (S : World -> Prop) where
 w : World
 h : S w
theorem av {P : Program} {S : World -> Prop} {id : Nat} {Q : Exit -> Act -> World -> Prop} {a : Act} {w : World} {l : List Oper} (hm : P.follows .mixedOrders = true) (hB : Region.lexB .any l.toArray = true) (hS : S (w.drewN 1))
 (h : wpQuiet P l.toArray (fun w' => ∃ q : Cl S, w' = q.w) (fun a' => ∀ w', (∃ q : Cl S, w' = q.w) -> Q .normal a' w') l a) : (Code.region id l.toArray true).wp P Q a w :=
 wp_region_quiet (C := fun w' => ∃ q : Cl S, w' = q.w) hm hB ⟨⟨_, hS⟩, rfl⟩ (by simpa using h)
theorem aS (w : World) : Below w.heap.size w (w.drewN 1) := (U4 _).drew
abbrev Later (w : World) : Type := Cl (fun v => Below w.heap.size w v)
theorem ax (w : World) : Nonempty (Later w) := ⟨⟨w, Below.refl _ _⟩⟩
def Later.on {w : World} (q : Later w) {w1 : World} (h : Below q.w.heap.size q.w w1) : Later w := ⟨w1, q.h.trans (h.mono q.h.size)⟩
end Go.Proofs.YtfomndilhlgikajGreatDoor

/- The model's reader: its state; its small steps. -/
import Derived.Test.YtnmofagmjcengaaRC
import Derived.Test.YtnmofagmjcengaaQC
namespace Go.Proofs.Ytnmofagmjcengaa.Rd
open Go.ChangeShapes Go.WideShapes Go.ChangeAt Go.RowKit

/-- Where all signs lie. -/
structure Arr where
  o : Option Addr
  g : Nat
  cap : Nat
  all : List TokZ
theorem ba_ne (x : ByteArray) : (x != x) = false := by
  obtain ⟨x⟩ := x
  show (!(x == x)) = false
  simp
theorem ba_inj {a b : ByteArray} (h : a.toList = b.toList) : a = b := by
  rw [ByteArray.toList_eq, ByteArray.toList_eq] at h
  obtain ⟨a⟩ := a
  obtain ⟨b⟩ := b
  exact congrArg ByteArray.mk (Array.toList_inj.1 h)
theorem ba_neq {x y : ByteArray} (h : ¬ x = y) : (x.toList == y.toList) = false := by
  simp
  intro e
  exact h (ba_inj e)
theorem drewN_below (w : World) (m : Nat) : Below w.heap.size w (w.drewN m) := by
  exact ⟨rfl, rfl, rfl, Nat.le_refl _, fun _ _ => rfl⟩
section
variable {A : Arr} {b d : Nat} {w : World} {ts : List TokZ}
end
end Go.Proofs.Ytnmofagmjcengaa.Rd

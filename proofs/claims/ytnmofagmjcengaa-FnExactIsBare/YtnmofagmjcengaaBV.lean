/- The law's marks of trees. -/
import Derived.Test.YtnmofagmjcengaaBU
import Derived.Test.YtnmofagmjcengaaXC
namespace Go.Proofs.Ytnmofagmjcengaa.Nm
open Go.ChangeShapes Go.WideShapes Go.ChangeAt Go.RowKit

def MkP (K : Nat → Prop) (kk N : Nat) (w : World) (e : Ending) (w' : World) : Prop := ∃ r : Nat, e = .returned (.int .i64 ((r : Int) + 1)) ∧ kk ≤ r ∧ r ≤ kk + N ∧ Mk K w w'
theorem lw_take (f : Tr → Nat) (xs : List Tr) (i : Nat) (hi : i < xs.length) : i + 1 + ((xs.take (i + 1)).map f).sum = (i + ((xs.take i).map f).sum) + 1 + f xs[i] ∧ i + 1 + ((xs.take (i + 1)).map f).sum ≤ lw f xs := by
  have e1 : ((xs.take (i + 1)).map f).sum = ((xs.take i).map f).sum + f xs[i] := by
    rw [List.take_succ_eq_append_getElem hi, List.map_append, List.sum_append]
    simp
  have e2 : ∀ (l : List Tr) (j : Nat), ((l.take j).map f).sum ≤ (l.map f).sum := by
    intro l
    induction l with
    | nil => intro j; simp
    | cons x r ih =>
      intro j
      cases j with
      | zero => simp
      | succ j =>
        have := ih j
        simp only [List.take_succ_cons, List.map_cons, List.sum_cons]
        omega
  have e3 := e2 xs (i + 1)
  unfold lw
  omega
theorem int_sk (i j : Int) : Sk (.int .i64 i) (.int .i64 j) := .inr (.inl ⟨i, j, rfl, rfl⟩)
theorem str_sk (s t : ByteArray) : Sk (.string s) (.string t) := .inr (.inr ⟨s, t, rfl, rfl⟩)

end Go.Proofs.Ytnmofagmjcengaa.Nm

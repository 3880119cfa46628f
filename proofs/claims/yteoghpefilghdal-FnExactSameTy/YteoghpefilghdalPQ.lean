/- The plain sameness of programs that are read is that they are one tree. -/
import Derived.Test.YteoghpefilghdalPP
import Derived.Test.YteoghpefilghdalMI
namespace Go.Proofs.Yteoghpefilghdal
open Go.RowKit

theorem smT_eq {K K' : Nat → Prop} {w w' : World} : ∀ h t u cs ds, tyR K w h t cs → tyR K' w' h u ds → (smT h t u = true ↔ t = u) := by
  intro h
  induction h with
  | zero => exact fun _ _ _ _ h => False.elim h
  | succ h ih =>
    intro t u cs ds a b
    obtain ⟨a1, a2, a3, o1, c1, -, -, -, r1⟩ := a
    obtain ⟨b1, b2, b3, p1, d1, -, -, -, q1⟩ := b
    have f1 := row_sm r1 q1 ih
    simp only [smT, Bool.and_eq_true, decide_eq_true_eq, eqS_iff]
    constructor
    · rintro ⟨k1, k2, k3, l1, e1⟩
      exact tr_ext k1 k2 k3 (a1.trans b1.symm) ((rowTo_all f1 l1).1 e1) (a2.trans b2.symm) (a3.trans b3.symm)
    · rintro rfl
      exact ⟨rfl, rfl, rfl, rfl, (rowTo_all f1 rfl).2 rfl⟩
theorem nl_eq {K K' : Nat → Prop} {w w' : World} {R R' : Tr → List Value → Prop} {n : Nat} {f : Tr → Tr → Bool} (hf : ∀ x y cs ds, R x cs → R' y ds → (f x y = true ↔ x = y)) : ∀ t u cs ds, nlR K w R n t cs → nlR K' w' R' n u ds → ((eqS t.s u.s && (decide (t.l.length = u.l.length) && rowTo f t.l u.l t.l.length)) = true ↔ t = u) := by
  intro t u cs ds a b
  obtain ⟨a1, a2, a3, a4, a5, o1, c1, -, -, -, r1⟩ := a
  obtain ⟨b1, b2, b3, b4, b5, p1, d1, -, -, -, q1⟩ := b
  have f1 := row_sm r1 q1 hf
  simp only [Bool.and_eq_true, decide_eq_true_eq, eqS_iff]
  constructor
  · rintro ⟨k2, l1, e1⟩
    exact tr_ext (a1.trans b1.symm) k2 (a2.trans b2.symm) (a3.trans b3.symm) ((rowTo_all f1 l1).1 e1) (a4.trans b4.symm) (a5.trans b5.symm)
  · rintro rfl
    exact ⟨rfl, rfl, (rowTo_all f1 rfl).2 rfl⟩
theorem smC_eq {K K' : Nat → Prop} {w w' : World} (h : Nat) : ∀ t u cs ds, coR K w h t cs → coR K' w' h u ds → (smC h t u = true ↔ t = u) := nl_eq (smT_eq h)
theorem smD_eq {K K' : Nat → Prop} {w w' : World} (h : Nat) : ∀ t u cs ds, daR K w h t cs → daR K' w' h u ds → (smD h t u = true ↔ t = u) := nl_eq (smC_eq h)
theorem smP_eq {K K' : Nat → Prop} {w w' : World} (h : Nat) : ∀ t u cs ds, prR K w h t cs → prR K' w' h u ds → (smP h t u = true ↔ t = u) := by
  intro t u cs ds a b
  obtain ⟨a1, a2, a3, a4, a5, o1, c1, o2, c2, -, -, -, r1, r2⟩ := a
  obtain ⟨b1, b2, b3, b4, b5, p1, d1, p2, d2, -, -, -, q1, q2⟩ := b
  have f1 := row_sm r1 q1 (smD_eq h)
  have f2 := row_sm r2 q2 (sm_eq h).2.1
  simp only [smP, Bool.and_eq_true, decide_eq_true_eq, rowB_iff f2]
  constructor
  · rintro ⟨l1, e1, e2⟩
    exact tr_ext (a1.trans b1.symm) (a2.trans b2.symm) (a3.trans b3.symm) (a4.trans b4.symm) ((rowTo_all f1 l1).1 e1) e2 (a5.trans b5.symm)
  · rintro rfl
    exact ⟨rfl, (rowTo_all f1 rfl).2 rfl, rfl⟩
/-- Cells are one tree only. -/
theorem tyR_fun {K K' : Nat → Prop} {w : World} : ∀ h h' t u cs, tyR K w h t cs → tyR K' w h' u cs → t = u := by
  intro h
  induction h with
  | zero => exact fun _ _ _ _ h => False.elim h
  | succ h ih =>
    intro h' t u cs a b
    cases h' with
    | zero => exact b.elim
    | succ h' =>
      obtain ⟨a1, a2, a3, o1, c1, ec, -, -, r1⟩ := a
      obtain ⟨b1, b2, b3, p1, d1, ed, -, -, q1⟩ := b
      rw [ec] at ed
      simp only [List.cons.injEq, Value.int.injEq, Value.string.injEq, Value.slice.injEq, true_and, and_true] at ed
      obtain ⟨k1, k2, k3, m1, n1, -⟩ := ed
      subst m1
      exact tr_ext k1 k2 k3 (a1.trans b1.symm) (row_fun r1 q1 n1 fun x y cs => ih h' x y cs) (a2.trans b2.symm) (a3.trans b3.symm)
theorem tyR_up {K : Nat → Prop} {w : World} : ∀ h t cs, tyR K w h t cs → tyR K w (h + 1) t cs := by
  intro h
  induction h with
  | zero => exact fun _ _ h => False.elim h
  | succ h ih =>
    rintro t cs ⟨a1, a2, a3, o1, c1, ec, e1, e2, r1⟩
    exact ⟨a1, a2, a3, o1, c1, ec, e1, e2, r1.frame (Stays.refl K w) (fun _ h => h) ih⟩
theorem tyR_le {K : Nat → Prop} {w : World} {h h' : Nat} (hl : h ≤ h') : ∀ t cs, tyR K w h t cs → tyR K w h' t cs := by
  obtain ⟨k, rfl⟩ := Nat.exists_eq_add_of_le hl
  induction k with
  | zero => exact fun _ _ h => h
  | succ k ih => exact fun t cs a => tyR_up (h + k) t cs (ih (by omega) t cs a)
end Go.Proofs.Yteoghpefilghdal

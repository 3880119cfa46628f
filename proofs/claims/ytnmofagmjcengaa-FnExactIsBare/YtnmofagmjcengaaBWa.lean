/- Marks of an expression that came in; sums. -/
import Derived.Test.YtnmofagmjcengaaBV
namespace Go.Proofs.Ytnmofagmjcengaa.Nm
open Go.ChangeShapes Go.WideShapes Go.ChangeAt Go.RowKit

theorem reads_in {K : Nat → Prop} (w : World) : ∀ h, (∀ e cs, (reads K w h).ex e cs → (reads (fun b => K b ∧ b < w.heap.size) w h).ex e cs) ∧ (∀ d cs, (reads K w h).de d cs → (reads (fun b => K b ∧ b < w.heap.size) w h).de d cs) ∧ (∀ a cs, (reads K w h).al a cs → (reads (fun b => K b ∧ b < w.heap.size) w h).al a cs) := by
  have row : ∀ {α : Type} {R R' : α → List Value → Prop} {sz : Nat} {o : Option Addr} {xs : List α}, RowOf K w R sz o xs → (∀ x cs, R x cs → R' x cs) → RowOf (fun b => K b ∧ b < w.heap.size) w R' sz o xs := fun hr hR hne => by
    obtain ⟨b, off, e, hk, hl, hc⟩ := hr hne
    exact ⟨b, off, e, ⟨hk, hl⟩, hl, fun i x hx => by obtain ⟨cs, h1, h2, h3⟩ := hc i x hx; exact ⟨cs, h1, h2, hR x cs h3⟩⟩
  intro h
  induction h with
  | zero => exact ⟨fun _ _ h => h, fun _ _ h => h, fun _ _ h => h⟩
  | succ h ih =>
    obtain ⟨ih1, ih2, ih3⟩ := ih
    refine ⟨fun e cs he => ?_, fun d cs hd => ?_, fun a cs ha => ?_⟩
    · obtain ⟨e0, o1, c1, o2, c2, o3, c3, e1, e2, e3, e4, e5, r1, r2, r3⟩ := he
      exact ⟨e0, o1, c1, o2, c2, o3, c3, e1, e2, e3, e4, e5, row r1 ih1, row r2 ih2, row r3 ih3⟩
    · obtain ⟨d0, d1, d2, e, o1, c1, ce, o2, c2, e0, e1, e2, e3, e4, r1, e5, r2, r3⟩ := hd
      exact ⟨d0, d1, d2, e, o1, c1, ce, o2, c2, e0, e1, e2, e3, e4, row r1 (fun _ _ h => h), e5, ih1 _ _ r2, row r3 ih2⟩
    · obtain ⟨a0, a1, a2, a3, e, o1, c1, ce, e0, e1, e2, e3, r1, e4, r2⟩ := ha
      exact ⟨a0, a1, a2, a3, e, o1, c1, ce, e0, e1, e2, e3, row r1 (fun _ _ h => h), e4, ih1 _ _ r2⟩
theorem sum_lin (f g : Tr → Nat) (c k : Nat) : ∀ (l : List Tr), (∀ x ∈ l, f x ≤ c + k * g x) → c ≤ k → (l.map f).sum ≤ k * lw g l := by
  intro l
  induction l with
  | nil => intro _ _; simp
  | cons a r ih =>
    intro hx hc
    have h1 := hx a (by simp)
    have h2 := ih (fun x hm => hx x (by simp [hm])) hc
    unfold lw at *
    simp only [List.map_cons, List.sum_cons, List.length_cons]
    have e : k * (r.length + 1 + (g a + (r.map g).sum)) = k * (r.length + (r.map g).sum) + k + k * g a := by
      rw [Nat.mul_add, Nat.mul_add, Nat.mul_add, Nat.mul_add, Nat.mul_one]
      omega
    omega
theorem row_all {K : Nat → Prop} {w : World} {R : Tr → List Value → Prop} {sz : Nat} {o : Option Addr} {xs : List Tr} (h : RowOf K w R sz o xs) : ∀ x ∈ xs, ∃ cs, R x cs := by
  intro x hx
  obtain ⟨i, hi⟩ := List.mem_iff_getElem?.1 hx
  obtain ⟨b, off, -, -, -, hc⟩ := h (fun e => by rw [e] at hx; cases hx)
  obtain ⟨cs, -, -, hr⟩ := hc i x hi
  exact ⟨cs, hr⟩
end Go.Proofs.Ytnmofagmjcengaa.Nm

/- The model's Depth and Ended. -/
import Derived.Test.YtpkibfmjhlfafaaZRD
namespace Go.Proofs.Ytpkibfmjhlfafaa.Rs
open Go.ChangeShapes Go.WideShapes Go.ChangeAt Go.RowKit

theorem bx4 {w : World} {g : Nat} {E : TypeId} {c0 c1 c2 c3 : Value} (h : w.heap[g]? = some (.cells #[c0, c1, c2, c3] E (0, 0))) : w.cell? ⟨g, 0, none⟩ = some c0 ∧ w.cell? ⟨g, 1, none⟩ = some c1 ∧ w.cell? ⟨g, 2, none⟩ = some c2 ∧ w.cell? ⟨g, 3, none⟩ = some c3 := ⟨cell_of h 0, cell_of h 1, cell_of h 2, cell_of h 3⟩
theorem tyR_in {K : Nat → Prop} (w : World) : ∀ h x cs, tyR K w h x cs → tyR (fun b => K b ∧ b < w.heap.size) w h x cs := by
  intro h
  induction h with
  | zero => exact fun _ _ h => h
  | succ h ih =>
    rintro x cs ⟨e1, e2, e3, o, c, e, hs, hf, hr⟩
    refine ⟨e1, e2, e3, o, c, e, hs, hf, fun hne => ?_⟩
    obtain ⟨b, off, eo, hk, hl, hc⟩ := hr hne
    exact ⟨b, off, eo, ⟨hk, hl⟩, hl, fun i y hy => by obtain ⟨cs, k1, k2, k3⟩ := hc i y hy; exact ⟨cs, k1, k2, ih _ _ k3⟩⟩
def mx (l : List Nat) : Nat := l.foldl max 0
theorem mx_snoc (l : List Nat) (x : Nat) : mx (l ++ [x]) = max (mx l) x := by unfold mx; rw [List.foldl_append]; rfl
theorem fold_le {B : Nat} : ∀ (l : List Nat) (a : Nat), a ≤ B → (∀ x ∈ l, x ≤ B) → l.foldl max a ≤ B
  | [], a, h, _ => h
  | x :: l, a, h, k => fold_le l (max a x) (Nat.max_le.2 ⟨h, k x (by simp)⟩) fun y hy => k y (by simp [hy])
/-- How deep a result is. -/
def dep : Nat → Tr → Nat
  | 0, _ => 0
  | h + 1, t => mx (t.l.map (dep h)) + 1
theorem dep_le : ∀ h t, dep h t ≤ 1 + wty h t := by
  intro h
  induction h with
  | zero => intro t; exact Nat.zero_le _
  | succ h ih =>
    intro t
    show mx (t.l.map (dep h)) + 1 ≤ 1 + (t.s.size + lw (wty h) t.l)
    have : mx (t.l.map (dep h)) ≤ lw (wty h) t.l := fold_le _ 0 (Nat.zero_le _) fun x hx => by
      obtain ⟨y, hy, rfl⟩ := List.mem_map.1 hx
      have h1 := ih y
      have h2 := le_sum (wty h) t.l y hy
      have h3 : 1 ≤ t.l.length := List.length_pos_of_mem hy
      unfold lw
      omega
    omega
theorem ended_any {K : Nat → Prop} {h : Nat} (x : Tr) (cs : List Value) (w : World) (hr : tyR K w h x cs) : Calls Try.prog 10 #[.agg cs.toArray] w fun e w' => e = .returned (.bool (x.k != 6)) ∧ Below w.heap.size w w' := by
  obtain ⟨o1, c1, rfl⟩ := ty_form hr
  clear hr
  go_enter Try.func10, Try.ntmps10
  go_wp2
  go_ret
  exact ⟨rfl, (Below.refl _ w).alloc (Nat.le_refl _) _⟩
end Go.Proofs.Ytpkibfmjhlfafaa.Rs

/- The plain sameness of trees that are read is that they are one tree. -/
import Derived.Test.YtpkibfmjhlfafaaZA
import Derived.Test.YtpkibfmjhlfafaaMH
namespace Go.Proofs.Ytpkibfmjhlfafaa
open Go.RowKit

theorem eqS_iff (a b : ByteArray) : eqS a b = true ↔ a = b := by
  unfold eqS
  rw [beq_iff_eq, ByteArray.toList_eq, ByteArray.toList_eq]
  constructor
  · intro h
    cases a
    cases b
    exact congrArg ByteArray.mk (Array.toList_inj.1 h)
  · exact fun h => h ▸ rfl
theorem strsTo_iff (a b : List ByteArray) (n : Nat) : strsTo a b n = true ↔ ∀ i, i < n → atZ a i = atZ b i := by
  induction n with
  | zero => exact ⟨fun _ i hi => absurd hi (Nat.not_lt_zero i), fun _ => rfl⟩
  | succ n ih =>
    rw [strsTo, Bool.and_eq_true, ih, eqS_iff]
    constructor
    · rintro ⟨h1, h2⟩ i hi
      rcases Nat.lt_succ_iff_lt_or_eq.1 hi with h | rfl
      · exact h1 i h
      · exact h2
    · exact fun h => ⟨fun i hi => h i (by omega), h n (by omega)⟩
theorem strsB_iff (a b : List ByteArray) : strsB a b = true ↔ a = b := by
  unfold strsB
  rw [Bool.and_eq_true, decide_eq_true_eq, strsTo_iff]
  constructor
  · rintro ⟨hl, h⟩
    apply List.ext_getElem hl
    intro i h1 h2
    have := h i h1
    unfold atZ at this
    simpa [h1, h2] using this
  · rintro rfl
    exact ⟨rfl, fun _ _ => rfl⟩
theorem rowTo_iff {f : Tr → Tr → Bool} {xs ys : List Tr} (hf : ∀ (i : Nat) (x y : Tr), xs[i]? = some x → ys[i]? = some y → (f x y = true ↔ x = y)) (hl : xs.length = ys.length) : ∀ n, n ≤ xs.length → (rowTo f xs ys n = true ↔ ∀ i, i < n → xs[i]? = ys[i]?) := by
  intro n
  induction n with
  | zero => exact fun _ => ⟨fun _ i hi => absurd hi (Nat.not_lt_zero i), fun _ => rfl⟩
  | succ n ih =>
    intro hn
    have h1 : xs[n]? = some xs[n] := List.getElem?_eq_getElem (by omega)
    have h2 : ys[n]? = some (ys[n]'(by omega)) := List.getElem?_eq_getElem (by omega)
    rw [rowTo, Bool.and_eq_true, ih (by omega), pair_at h1 h2, hf n _ _ h1 h2]
    constructor
    · rintro ⟨a, b⟩ i hi
      rcases Nat.lt_succ_iff_lt_or_eq.1 hi with h | rfl
      · exact a i h
      · rw [h1, h2, b]
    · intro h
      refine ⟨fun i hi => h i (by omega), ?_⟩
      have := h n (by omega)
      rw [h1, h2] at this
      exact Option.some.inj this
theorem rowTo_all {f : Tr → Tr → Bool} {xs ys : List Tr} (hf : ∀ (i : Nat) (x y : Tr), xs[i]? = some x → ys[i]? = some y → (f x y = true ↔ x = y)) (hl : xs.length = ys.length) : rowTo f xs ys xs.length = true ↔ xs = ys := by
  rw [rowTo_iff hf hl _ (Nat.le_refl _)]
  constructor
  · intro h
    apply List.ext_getElem?
    intro i
    by_cases hi : i < xs.length
    · exact h i hi
    · rw [List.getElem?_eq_none (by omega), List.getElem?_eq_none (by omega)]
  · rintro rfl
    exact fun _ _ => rfl
theorem rowB_iff {f : Tr → Tr → Bool} {xs ys : List Tr} (hf : ∀ (i : Nat) (x y : Tr), xs[i]? = some x → ys[i]? = some y → (f x y = true ↔ x = y)) : rowB f xs ys = true ↔ xs = ys := by
  unfold rowB
  rw [Bool.and_eq_true, decide_eq_true_eq]
  constructor
  · rintro ⟨hl, h⟩
    exact (rowTo_all hf hl).1 h
  · rintro rfl
    exact ⟨rfl, (rowTo_all hf rfl).2 rfl⟩
theorem row_sm {K K' : Nat → Prop} {w w' : World} {R R' : Tr → List Value → Prop} {sz : Nat} {o o' : Option Addr} {xs ys : List Tr} {f : Tr → Tr → Bool} (h1 : RowOf K w R sz o xs) (h2 : RowOf K' w' R' sz o' ys)
    (hR : ∀ x y cs ds, R x cs → R' y ds → (f x y = true ↔ x = y)) : ∀ (i : Nat) (x y : Tr), xs[i]? = some x → ys[i]? = some y → (f x y = true ↔ x = y) := by
  intro i x y hx hy
  have hne : xs ≠ [] := fun e => by rw [e] at hx; simp at hx
  have hne2 : ys ≠ [] := fun e => by rw [e] at hy; simp at hy
  obtain ⟨b, off, -, -, -, hc⟩ := h1 hne
  obtain ⟨b2, off2, -, -, -, hc2⟩ := h2 hne2
  obtain ⟨cs, -, -, q1⟩ := hc i x hx
  obtain ⟨cs2, -, -, q2⟩ := hc2 i y hy
  exact hR _ _ _ _ q1 q2
theorem sm_eq {K K' : Nat → Prop} {w w' : World} : ∀ h, (∀ t u cs ds, (reads K w h).ex t cs → (reads K' w' h).ex u ds → ((sm h).ex t u = true ↔ t = u)) ∧ (∀ t u cs ds, (reads K w h).de t cs → (reads K' w' h).de u ds → ((sm h).de t u = true ↔ t = u)) ∧ (∀ t u cs ds, (reads K w h).al t cs → (reads K' w' h).al u ds → ((sm h).al t u = true ↔ t = u)) := by
  intro h
  induction h with
  | zero => exact ⟨fun _ _ _ _ h => False.elim h, fun _ _ _ _ h => False.elim h, fun _ _ _ _ h => False.elim h⟩
  | succ h ih =>
    obtain ⟨i1, i2, i3⟩ := ih
    refine ⟨fun t u cs ds a b => ?_, fun t u cs ds a b => ?_, fun t u cs ds a b => ?_⟩
    · obtain ⟨z, o1, c1, o2, c2, o3, c3, -, -, -, -, -, r1, r2, r3⟩ := a
      obtain ⟨z', p1, d1, p2, d2, p3, d3, -, -, -, -, -, q1, q2, q3⟩ := b
      have f1 := row_sm r1 q1 i1
      have f2 := row_sm r2 q2 i2
      have f3 := row_sm r3 q3 i3
      simp only [sm, Bool.and_eq_true, decide_eq_true_eq, eqS_iff, rowB_iff f2]
      constructor
      · rintro ⟨k1, k2, k3, l1, l3, e2, e1, e3⟩
        exact tr_ext k1 k2 k3 (z.trans z'.symm) ((rowTo_all f1 l1).1 e1) e2 ((rowTo_all f3 l3).1 e3)
      · rintro rfl
        exact ⟨rfl, rfl, rfl, rfl, rfl, rfl, (rowTo_all f1 rfl).2 rfl, (rowTo_all f3 rfl).2 rfl⟩
    · obtain ⟨z1, z2, z3, e, o1, c1, ce, o2, c2, el, -, -, -, -, -, -, re, r2⟩ := a
      obtain ⟨y1, y2, y3, f, p1, d1, de, p2, d2, fl, -, -, -, -, -, -, qe, q2⟩ := b
      have f2 := row_sm r2 q2 i2
      simp only [sm, Bool.and_eq_true, eqS_iff, strsB_iff, rowB_iff f2]
      rw [el, fl, row_one, i1 _ _ _ _ re qe]
      constructor
      · rintro ⟨k2, ks, ke, kd⟩
        exact tr_ext (z1.trans y1.symm) k2 (z2.trans y2.symm) ks (by rw [el, fl, ke]) kd (z3.trans y3.symm)
      · rintro rfl
        exact ⟨rfl, rfl, (List.cons.inj (el.symm.trans fl)).1, rfl⟩
    · obtain ⟨z1, z2, z3, z4, e, o1, c1, ce, el, -, -, -, -, -, re⟩ := a
      obtain ⟨y1, y2, y3, y4, f, p1, d1, de, fl, -, -, -, -, -, qe⟩ := b
      simp only [sm, Bool.and_eq_true, eqS_iff, strsB_iff]
      rw [el, fl, row_one, i1 _ _ _ _ re qe]
      constructor
      · rintro ⟨k2, ks, ke⟩
        exact tr_ext (z1.trans y1.symm) k2 (z2.trans y2.symm) ks (by rw [el, fl, ke]) (z3.trans y3.symm) (z4.trans y4.symm)
      · rintro rfl
        exact ⟨rfl, rfl, (List.cons.inj (el.symm.trans fl)).1⟩
end Go.Proofs.Ytpkibfmjhlfafaa

/- Rows of one cell each that a call owns. -/
import Derived.Test.YtifambhfggodaaaBA
namespace Go.Proofs.Ytifambhfggodaaa.It
open Go.RowKit
set_option linter.unusedVariables false

/-- A row of values, one cell each, that is owned from B on. -/
def ORow (E : TypeId) (B : Nat) (w : World) (v : Value) (xs : List Value) : Prop := w.ownsRow B E 1 v xs.length xs
theorem ORow.form {E : TypeId} {B : Nat} {w : World} {v : Value} {xs : List Value} (h : ORow E B w v xs) : ∃ o cap, v = .slice o xs.length cap ∧ xs.length ≤ cap ∧ cap ≤ maxLen := by
  rcases h.2 with ⟨rfl, h0⟩ | ⟨g, cap, cur, rfl, hb, hg, hn, hcap, -⟩
  · exact ⟨none, 0, by rw [h0], by omega, by unfold maxLen; omega⟩
  · exact ⟨_, _, rfl, hn, hcap⟩
theorem ORow.own {E : TypeId} {B : Nat} {w : World} {v : Value} {xs : List Value} (h : ORow E B w v xs) {g : Nat} (e : v.ownBlock = some g) : B ≤ g ∧ ∃ cur, w.heap[g]? = some (.cells cur E (0, 0)) := by
  rcases h.2 with ⟨rfl, h0⟩ | ⟨g', cap, cur, rfl, hb, hg, -⟩
  · cases e
  · cases e
    exact ⟨hb, cur, hg⟩
theorem ORow.keep {E : TypeId} {B : Nat} {w w' : World} {v : Value} {xs : List Value} (h : ORow E B w v xs) (hk : ∀ g, v.ownBlock = some g → w'.heap[g]? = w.heap[g]?) : ORow E B w' v xs := by
  obtain ⟨hl, h⟩ := h
  refine ⟨hl, ?_⟩
  rcases h with h | ⟨g, cap, cur, rfl, hb, hg, h⟩
  · exact .inl h
  · exact .inr ⟨g, cap, cur, rfl, hb, (hk g rfl).trans hg, h⟩
theorem ORow.base {E : TypeId} {B B' : Nat} {w : World} {v : Value} {xs : List Value} (h : ORow E B w v xs) (hb : B' ≤ B) : ORow E B' w v xs := by
  obtain ⟨hl, h⟩ := h
  refine ⟨hl, ?_⟩
  rcases h with h | ⟨g, cap, cur, rfl, hb', h⟩
  · exact .inl h
  · exact .inr ⟨g, cap, cur, rfl, Nat.le_trans hb hb', h⟩
/-- The last one, and what is ahead of it. -/
theorem ORow.last {E : TypeId} {B : Nat} {w : World} {v : Value} {xs : List Value} {x : Value} (h : ORow E B w v (xs ++ [x])) : ∃ g cap, v = .slice (some ⟨g, 0, none⟩) (xs.length + 1) cap ∧ xs.length + 1 ≤ cap ∧ cap ≤ maxLen ∧ w.cell? ⟨g, xs.length, none⟩ = some x ∧ ORow E B w (.slice (some ⟨g, 0, none⟩) xs.length cap) xs := by
  obtain ⟨hl, h⟩ := h
  rcases h with ⟨-, h0⟩ | ⟨g, cap, cur, rfl, hb, hg, hn, hc, hsz, ht⟩
  · simp at h0
  · rw [List.length_append, List.length_singleton] at hn ht ⊢
    refine ⟨g, cap, rfl, hn, hc, ?_, by rw [Nat.mul_one], .inr ⟨g, cap, cur, rfl, hb, hg, by omega, hc, hsz, ?_⟩⟩
    · rw [cell_of hg]
      have := congrArg (fun l => l[xs.length]?) ht
      simp only [Nat.mul_one] at this
      rw [List.getElem?_take, if_pos (by omega)] at this
      simpa using this
    · have := congrArg (List.take xs.length) ht
      rw [List.take_take, List.take_left, Nat.mul_one, Nat.min_eq_left (by omega)] at this
      rw [Nat.mul_one]
      exact this
theorem ORow.app {T E : TypeId} {i0 : TypeInfo} {z : Value} {bytes : Nat} (hT : Try.prog.underlying T = some (.slice E)) (hi : Try.prog.info? E = some i0) (hz : i0.zero = some z) (hsz : i0.size = 1) (hby : i0.bytes = bytes) (hzs : z.cells.size = 1) (hb : bytes ≤ 1000)
    {B : Nat} {w : World} {v : Value} {xs : List Value} (h : ORow E B w v xs) (hB : B ≤ w.heap.size) {g c : Nat} {u : Value} (hg : w.cell? ⟨g, 0, none⟩ = some u) (hu : u.oneCell' = true) (hn : xs.length + 1 ≤ 100000000) (ty : TypeId) :
    ∃ v' w', (Builtin.append_ #[T, T] ty #[v, .slice (some ⟨g, 0, none⟩) 1 c]).run Try.prog w = .ok v' w' ∧ ORow E B w' v' (xs ++ [u]) ∧ w.grownBy w' v.ownBlock ∧ (v'.ownBlock = v.ownBlock ∨ v'.ownBlock = some w.heap.size) := by
  obtain ⟨v', w', h1, h2, h3, h4⟩ := Nm.app_run (P := Try.prog) hT hi hz hsz hby hzs (by omega) hb h hB (some ⟨g, 0, none⟩) 1 c [u] (by simp) (fun _ => ⟨g, 0, rfl, fun j y hj => by
    cases j with
    | zero =>
      simp at hj
      subst hj
      exact hg
    | succ j => simp at hj⟩) (fun y hy => by rw [List.mem_singleton.1 hy]; exact hu) hn ty
  exact ⟨v', w', h1, by unfold ORow; rw [List.length_append, List.length_singleton]; exact h2, h3, h4⟩
end Go.Proofs.Ytifambhfggodaaa.It

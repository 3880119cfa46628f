/- Rows of rows of names; the program's sorted at one and two of them. -/
import Derived.Test.YtihjpkldefllgakGreatBI
namespace Go.Proofs.YtihjpkldefllgakGreat.Nm
open Go.ChangeShapes Go.WideShapes Go.ChangeAt Go.RowKit

theorem two_rows {W : World} {b : Nat} {o1 o2 : Option Addr} {c1 c2 : Nat} {l1 l2 : List ByteArray} {e : TypeId} {fz : Nat × Nat} (hg : W.heap[b]? = some (.cells #[.slice o1 l1.length c1, .slice o2 l2.length c2] e fz)) (m1 : l1.length ≤ maxLen) (m2 : l2.length ≤ maxLen) (r1 : RowOf (fun _ => True) W strR 1 o1 l1) (r2 : RowOf (fun _ => True) W strR 1 o2 l2) : RowOf (fun _ => True) W (slR W) 1 (some ⟨b, 0, none⟩) [l1, l2] := by
  intro _
  refine ⟨b, 0, rfl, trivial, heap_lt hg, fun i x hx => ?_⟩
  have one : ∀ (i : Nat) (u : Value), #[Value.slice o1 l1.length c1, .slice o2 l2.length c2][i]? = some u → ∀ j v, [u][j]? = some v → W.cell? ⟨b, 0 + i * 1 + j, none⟩ = some v := fun i u hu j v hv => by
    have hj : j = 0 := by
      have := (List.getElem?_eq_some_iff.1 hv).1
      simpa using this
    subst hj
    have : u = v := by simpa using hv
    subst this
    rw [show 0 + i * 1 + 0 = i by omega, cell_of hg]
    exact hu
  match i, hx with
  | 0, hx =>
    have : l1 = x := by simpa using hx
    subst this
    exact ⟨[.slice o1 l1.length c1], rfl, one 0 _ rfl, o1, c1, rfl, m1, r1⟩
  | 1, hx =>
    have : l2 = x := by simpa using hx
    subst this
    exact ⟨[.slice o2 l2.length c2], rfl, one 1 _ rfl, o2, c2, rfl, m2, r2⟩
  | i + 2, hx => simp at hx
theorem one_rows {W : World} {b : Nat} {o1 : Option Addr} {c1 : Nat} {l1 : List ByteArray} {e : TypeId} {fz : Nat × Nat} (hg : W.heap[b]? = some (.cells #[.slice o1 l1.length c1] e fz)) (m1 : l1.length ≤ maxLen) (r1 : RowOf (fun _ => True) W strR 1 o1 l1) : RowOf (fun _ => True) W (slR W) 1 (some ⟨b, 0, none⟩) [l1] := by
  intro _
  refine ⟨b, 0, rfl, trivial, heap_lt hg, fun i x hx => ?_⟩
  match i, hx with
  | 0, hx =>
    have : l1 = x := by simpa using hx
    subst this
    refine ⟨[.slice o1 l1.length c1], rfl, fun j v hv => ?_, o1, c1, rfl, m1, r1⟩
    have hj : j = 0 := by
      have := (List.getElem?_eq_some_iff.1 hv).1
      simpa using this
    subst hj
    rw [show 0 + 0 * 1 + 0 = 0 by omega, cell_of hg]
    simpa using hv
  | i + 1, hx => simp at hx
theorem size1 (w : World) (A : Obj) : (w.alloc A).heap.size = w.heap.size + 1 := by simp
theorem size2 (w : World) (A B : Obj) : ((w.alloc A).alloc B).heap.size = w.heap.size + 2 := by simp
def SrtP (W : World) (e : Ending) (w' : World) : Prop := ∃ o' n' c', e = .returned (.slice o' n' c') ∧ Below W.heap.size W w'
theorem sorted2_any {W : World} {b : Nat} {o1 o2 : Option Addr} {c1 c2 : Nat} {l1 l2 : List ByteArray} {e : TypeId} {fz : Nat × Nat} (hg : W.heap[b]? = some (.cells #[.slice o1 l1.length c1, .slice o2 l2.length c2] e fz)) (m1 : l1.length ≤ 10000000) (m2 : l2.length ≤ 10000000) (r1 : RowOf (fun _ => True) W strR 1 o1 l1) (r2 : RowOf (fun _ => True) W strR 1 o2 l2) :
    Calls Tryz.prog 68 #[.slice (some ⟨b, 0, none⟩) 2 2] W (SrtP W) :=
  sorted_any [l1, l2] (some ⟨b, 0, none⟩) 2 W (two_rows hg (by unfold maxLen; omega) (by unfold maxLen; omega) r1 r2) (by simp) (by simp; omega)
theorem sorted1_any {W : World} {b : Nat} {o1 : Option Addr} {c1 : Nat} {l1 : List ByteArray} {e : TypeId} {fz : Nat × Nat} (hg : W.heap[b]? = some (.cells #[.slice o1 l1.length c1] e fz)) (m1 : l1.length ≤ 10000000) (r1 : RowOf (fun _ => True) W strR 1 o1 l1) :
    Calls Tryz.prog 68 #[.slice (some ⟨b, 0, none⟩) 1 1] W (SrtP W) :=
  sorted_any [l1] (some ⟨b, 0, none⟩) 1 W (one_rows hg (by unfold maxLen; omega) r1) (by simp) (by simp; omega)
/-- At a place stand cells. -/
def CellsA (w : World) (a : Addr) (cs : List Value) : Prop := ∀ j u, cs[j]? = some u → w.cell? ⟨a.block, a.off + j, none⟩ = some u
def NmP (xs : List Tr) (W : World) (e : Ending) (w' : World) : Prop := ∃ v l, e = .returned v ∧ NRow W.heap.size w' v l ∧ l.length = xs.length ∧ Below W.heap.size W w'
theorem set2 {w : World} {g : Nat} {u0 u1 : Value} (v0 v1 : Value) (t : TypeId) (h : w.heap[g]? = some (.cells #[u0, u1] t (0, 0))) : ((w.setCell ⟨g, 0, none⟩ v0).setCell ⟨g, 1, none⟩ v1).heap[g]? = some (.cells #[v0, v1] t (0, 0)) := by
  have h9 := heap_set_same (j := 1) v1 (heap_set_same (j := 0) v0 h)
  simpa using h9
end Go.Proofs.YtihjpkldefllgakGreat.Nm

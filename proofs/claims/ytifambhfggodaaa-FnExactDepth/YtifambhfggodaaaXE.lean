/- The law's copy of a tree, whole. -/
import Derived.Test.YtifambhfggodaaaXD
namespace Go.Proofs.Ytifambhfggodaaa
open Go.ChangeShapes Go.WideShapes Go.ChangeAt Go.RowKit

theorem FromK.up {m n : Nat} (h : m ≤ n) : ∀ b, FromK n b → FromK m b := fun _ hb => Nat.le_trans h hb
theorem Stays.less {K K' : Nat → Prop} {w w' : World} (h : Stays K w w') (hk : ∀ b, K' b → K b) : Stays K' w w' := ⟨h.size, fun b hb => h.block b (hk b hb)⟩
theorem stays_from {w w' : World} (n g j : Nat) (v : Value) (h : g < n) (hw : w' = w.setCell ⟨g, j, none⟩ v) : Stays (FromK n) w w' := by
  subst hw
  exact stays_set _ _ _ _ _ fun hk => by have h2 : n ≤ g := hk; omega
theorem heap_alloc3_new (w : World) (A B C : Obj) : (((w.alloc A).alloc B).alloc C).heap[w.heap.size]? = some A ∧ (((w.alloc A).alloc B).alloc C).heap[w.heap.size + 1]? = some B ∧ (((w.alloc A).alloc B).alloc C).heap[w.heap.size + 2]? = some C := by
  have e1 : (w.alloc A).heap.size = w.heap.size + 1 := by simp
  have e2 : ((w.alloc A).alloc B).heap.size = w.heap.size + 2 := by simp
  refine ⟨?_, ?_, ?_⟩
  · rw [Below.heap_alloc _ _ _ (by simp; omega), Below.heap_alloc _ _ _ (by simp)]
    exact heap_alloc_new w A
  · rw [Below.heap_alloc _ _ _ (by simp)]
    exact heap_alloc2_new w A B
  · have h := heap_alloc_new ((w.alloc A).alloc B) C
    rw [e2] at h
    exact h

end Go.Proofs.Ytifambhfggodaaa

/- The program's VarsOf. -/
import Derived.Test.YtncgbdbkoeiffamOG
import Derived.Maps.AppendAt
namespace Go.Proofs.Ytncgbdbkoeiffam.Vo
open Go.RowKit Go.Shelf
attribute [local go_sem] Oper.semAt_some
set_option linter.unusedVariables false

theorem st_start {K : Nat → Prop} {h : Nat} {x : Tr} {o1 : Option Addr} {c1 : Nat} {w w1 : World} (hw1 : w.alloc (.cells #[.int .i64 x.k, .string x.s, .int .i64 x.n, .slice o1 x.l.length c1] 29) = w1) (hr : tyR K w h x [.int .i64 x.k, .string x.s, .int .i64 x.n, .slice o1 x.l.length c1]) (hn : nz h x ≤ 1048577) :
    StL K w1 (vz h [] x) (w.heap.size + 1 + 1 + 1 + 1 + 1) (w.heap.size + 1 + 1) (w.heap.size + 1 + 1 + 1) (.slice (some ⟨w.heap.size + 1, 0, none⟩) 0 0) (((((w1.alloc (.cells #[] 3)).alloc (.map #[] 0)).alloc (.map #[] 0)).alloc (.cells #[.pointer (some ⟨w.heap.size, 0, none⟩)] 53)).alloc (.cells #[.slice (some ⟨w.heap.size + 1 + 1 + 1 + 1, 0, none⟩) 1 1] 54))
      [⟨⟨w.heap.size, 0, none⟩, nz h x, fun out => vz h out x⟩] [] [] (.slice (some ⟨w.heap.size + 1 + 1 + 1 + 1, 0, none⟩) 1 1) := by
  have hz1 : w1.heap.size = w.heap.size + 1 := by rw [← hw1]; simp
  have hx1 : w1.heap[w.heap.size]? = some (.cells #[.int .i64 x.k, .string x.s, .int .i64 x.n, .slice o1 x.l.length c1] 29 (0, 0)) := by rw [← hw1]; exact heap_alloc_new w _
  have hB1 : Below w.heap.size w w1 := by rw [← hw1]; exact (Below.refl _ w).alloc (Nat.le_refl _) _
  have hT : T K w1 ⟨⟨w.heap.size, 0, none⟩, nz h x, fun out => vz h out x⟩ := by
    refine ⟨rfl, by simp; omega, ⟨_, _, hx1⟩, h, x, _, rfl, fun j u hj => ?_, tyR_later hB1 h _ _ hr, rfl, rfl⟩
    have h9 := cell_of hx1 j
    rw [List.getElem?_toArray] at h9
    show w1.cell? ⟨w.heap.size, 0 + j, none⟩ = some u
    rw [Nat.zero_add, h9, hj]
  obtain ⟨a1, e1⟩ : ∃ a, w1.alloc (.cells #[] 3) = a := ⟨_, rfl⟩
  obtain ⟨a2, e2⟩ : ∃ a, a1.alloc (.map #[] 0) = a := ⟨_, rfl⟩
  obtain ⟨a3, e3⟩ : ∃ a, a2.alloc (.map #[] 0) = a := ⟨_, rfl⟩
  obtain ⟨a4, e4⟩ : ∃ a, a3.alloc (.cells #[.pointer (some ⟨w.heap.size, 0, none⟩)] 53) = a := ⟨_, rfl⟩
  obtain ⟨a5, e5⟩ : ∃ a, a4.alloc (.cells #[.slice (some ⟨w.heap.size + 1 + 1 + 1 + 1, 0, none⟩) 1 1] 54) = a := ⟨_, rfl⟩
  rw [e1, e2, e3, e4, e5]
  have z1 : a1.heap.size = w.heap.size + 1 + 1 := by rw [← e1]; simp [hz1]
  have z2 : a2.heap.size = w.heap.size + 1 + 1 + 1 := by rw [← e2]; simp [z1]
  have z3 : a3.heap.size = w.heap.size + 1 + 1 + 1 + 1 := by rw [← e3]; simp [z2]
  have z4 : a4.heap.size = w.heap.size + 1 + 1 + 1 + 1 + 1 := by rw [← e4]; simp [z3]
  have b1 : Below w1.heap.size w1 a1 := by rw [← e1]; exact (Below.refl _ w1).alloc (Nat.le_refl _) _
  have b2 : Below a1.heap.size a1 a2 := by rw [← e2]; exact (Below.refl _ a1).alloc (Nat.le_refl _) _
  have b3 : Below a2.heap.size a2 a3 := by rw [← e3]; exact (Below.refl _ a2).alloc (Nat.le_refl _) _
  have b4 : Below a3.heap.size a3 a4 := by rw [← e4]; exact (Below.refl _ a3).alloc (Nat.le_refl _) _
  have b5 : Below a4.heap.size a4 a5 := by rw [← e5]; exact (Below.refl _ a4).alloc (Nat.le_refl _) _
  have c1 : a1.heap[w.heap.size + 1]? = some (.cells #[] 3 (0, 0)) := by rw [← e1, ← hz1]; exact heap_alloc_new w1 _
  have c2 : a2.heap[w.heap.size + 1 + 1]? = some (.map #[] 0) := by rw [← e2, ← z1]; exact heap_alloc_new a1 _
  have c3 : a3.heap[w.heap.size + 1 + 1 + 1]? = some (.map #[] 0) := by rw [← e3, ← z2]; exact heap_alloc_new a2 _
  have c4 : a4.heap[w.heap.size + 1 + 1 + 1 + 1]? = some (.cells #[.pointer (some ⟨w.heap.size, 0, none⟩)] 53 (0, 0)) := by rw [← e4, ← z3]; exact heap_alloc_new a3 _
  have c5 : a5.heap[w.heap.size + 1 + 1 + 1 + 1 + 1]? = some (.cells #[.slice (some ⟨w.heap.size + 1 + 1 + 1 + 1, 0, none⟩) 1 1] 54 (0, 0)) := by rw [← e5, ← z4]; exact heap_alloc_new a4 _
  have d1 : a5.heap[w.heap.size + 1]? = some (.cells #[] 3 (0, 0)) := (b5.block _ (by omega)).trans ((b4.block _ (by omega)).trans ((b3.block _ (by omega)).trans ((b2.block _ (by omega)).trans c1)))
  have d2 : a5.heap[w.heap.size + 1 + 1]? = some (.map #[] 0) := (b5.block _ (by omega)).trans ((b4.block _ (by omega)).trans ((b3.block _ (by omega)).trans c2))
  have d3 : a5.heap[w.heap.size + 1 + 1 + 1]? = some (.map #[] 0) := (b5.block _ (by omega)).trans ((b4.block _ (by omega)).trans c3)
  have d4 : a5.heap[w.heap.size + 1 + 1 + 1 + 1]? = some (.cells #[.pointer (some ⟨w.heap.size, 0, none⟩)] 53 (0, 0)) := (b5.block _ (by omega)).trans c4
  refine ⟨b1.trans ((b2.mono (by omega)).trans ((b3.mono (by omega)).trans ((b4.mono (by omega)).trans (b5.mono (by omega))))), c5, ⟨rfl, .inr ⟨_, _, _, rfl, by omega, d4, Nat.le_refl _, by unfold maxLen; simp, rfl, rfl⟩⟩, ⟨rfl, .inr ⟨_, _, _, rfl, by omega, d1, Nat.le_refl _, by unfold maxLen; simp, rfl, rfl⟩⟩,
    ⟨_, _, d2, rfl, fun e he => by simp at he⟩, ⟨_, _, d3, rfl, fun e he => by simp at he⟩, fun e he => by rw [List.mem_singleton.1 he]; exact hT, seen_nil _ _ _ _, rfl, by simpa using hn⟩

set_option maxRecDepth 100000 in
def Inv (K : Nat → Prop) (h : Nat) (x : Tr) (o1 : Option Addr) (c1 : Nat) (w w1 : World) (a : Act) (W : World) : Prop := ∃ (v3 u7 u8 u13 u14 u15 u16 u17 u18 u19 u20 u21 u22 u23 u24 u25 u26 u27 u28 u29 u30 u31 u32 u33 u34 u35 u36 u37 u38 u39 u40 u41 u42 u43 u44 u45 u46 u47 u48 u49 u50 u51 u52 u53 u54 u55 u56 u57 u58 u59 u60 u61 u62 u63 u64 u65 u66 u67 : Value) (ds : List Deferred) (S : List Ent) (nums : List Int) (ks : List Addr) (vl : Value), a = { tmps := #[.agg #[.int .i64 x.k, .string x.s, .int .i64 x.n, .slice o1 x.l.length c1], .pointer (some ⟨w.heap.size, 0, none⟩), .slice none 0 0, v3, .map (some (w.heap.size + 1 + 1)), .map (some (w.heap.size + 1 + 1 + 1)), .pointer (some ⟨w.heap.size + 1 + 1 + 1 + 1 + 1, 0, none⟩), u7, u8, .slice (some ⟨w.heap.size + 1, 0, none⟩) 0 0, .map (some (w.heap.size + 1 + 1)), .map (some (w.heap.size + 1 + 1 + 1)), .slice (some ⟨w.heap.size + 1 + 1 + 1 + 1, 0, none⟩) 1 1, u13, u14, u15, u16, u17, u18, u19, u20, u21, u22, u23, u24, u25, u26, u27, u28, u29, u30, u31, u32, u33, u34, u35, u36, u37, u38, u39, u40, u41, u42, u43, u44, u45, u46, u47, u48, u49, u50, u51, u52, u53, u54, u55, u56, u57, u58, u59, u60, u61, u62, u63, u64, u65, u66, u67], defers := ds } ∧ StL K w1 (vz h [] x) (w.heap.size + 1 + 1 + 1 + 1 + 1) (w.heap.size + 1 + 1) (w.heap.size + 1 + 1 + 1) v3 W S nums ks vl ∧ Mks w1.heap.size W ds
end Go.Proofs.Ytncgbdbkoeiffam.Vo

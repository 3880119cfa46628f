/- Where a list is: what place answers of each kind. -/
import Derived.Test.YtnmofagmjcengaaCY
namespace Go.Proofs.Ytnmofagmjcengaa.Br
open Go.ChangeShapes Go.WideShapes Go.ChangeAt Go.RowKit Go.Proofs.Ytnmofagmjcengaa.Vo
set_option linter.unusedVariables false

theorem st2_at {w : World} {g : Nat} {E : TypeId} {c0 c1 : Value} (h : w.heap[g]? = some (.cells #[c0, c1] E (0, 0))) (v0 v1 : Value) : ((w.setCell ⟨g, 0, none⟩ v0).setCell ⟨g, 1, none⟩ v1).heap[g]? = some (.cells #[v0, v1] E (0, 0)) := heap_set_same v1 (heap_set_same v0 h)

set_option maxHeartbeats 1000000 in
set_option maxRecDepth 100000 in
theorem placeOf_0 (b off n c : Nat) (hn : n ≠ 0) (hm : n ≤ maxLen) (hc : n ≤ c) (w : World) :
    Calls Try.prog 54 #[.slice (some ⟨b, off, none⟩) n c] w fun e w' => e = .returned (kvP (0, ⟨b, off, none⟩, n)) ∧ Below w.heap.size w w' := by
  have hm2 : n ≤ 9223372036854775807 := hm
  have h1 : (n : Int) ≠ 0 := by omega
  have h2 : (0 : Int) < n := by omega
  have h3 : ((n : Int) == 0) = false := by simpa using h1
  clear hm
  go_enter Try.func54, Try.ntmps54
  go_wp2
  refine bodyPost_ret (v := .agg #[.iface (ptrT 0) (.pointer (some ⟨b, off, none⟩)), .int .i64 (n : Int)]) ?_ rfl ?_
  · exact results_cell_row rfl _ _ w.heap.size 71 _ (0, 0) _ rfl (heap_alloc_new w _) Try.underlying71 rfl (by kernel_rfl)
  · exact ⟨rfl, (Below.refl _ w).alloc (Nat.le_refl _) _⟩
set_option maxHeartbeats 1000000 in
set_option maxRecDepth 100000 in
theorem place_0 (b off n c : Nat) (hn : n ≠ 0) (hm : n ≤ maxLen) (hc : n ≤ c) (w : World) :
    Calls Try.prog 52 #[.slice (some ⟨b, off, none⟩) n c] w fun e w' => e = .returned (kvP (0, ⟨b, off, none⟩, n)) ∧ Below w.heap.size w w' := by
  go_enter Try.func52, Try.ntmps52
  go_wp2_with fail
  refine (placeOf_0 b off n c hn hm hc _).mono ?_
  rintro e w1 ⟨rfl, hb⟩
  have HB := hide ((Below.refl _ w).alloc (Nat.le_refl _) (.cells #[.nilIface, .int .i64 0] 71) |>.trans (hb.mono (by simp)))
  have hx : w1.heap[w.heap.size]? = some (.cells #[.nilIface, .int .i64 0] 71 (0, 0)) := (hb.block _ (by simp)).trans (heap_alloc_new w _)
  have HX := hide hx
  have x0 := cell_of hx 0
  have x1 := cell_of hx 1
  have f0 := frozen_of hx 0
  have f1 := frozen_of hx 1
  simp only [List.getElem?_toArray, List.getElem?_cons_succ, List.getElem?_cons_zero] at x0 x1
  clear hb hx
  unfold kvP
  go_wp2
  refine bodyPost_ret (v := .agg #[.iface (ptrT 0) (.pointer (some ⟨b, off, none⟩)), .int .i64 (n : Int)]) ?_ rfl ?_
  · exact results_cell_row rfl _ _ w.heap.size 71 _ (0, 0) _ rfl (st2_at HX.out _ _) Try.underlying71 rfl (by kernel_rfl)
  · exact ⟨rfl, (HB.out.setCell (Nat.le_refl _) _).setCell (Nat.le_refl _) _⟩
set_option maxHeartbeats 1000000 in
set_option maxRecDepth 100000 in
theorem placeOf_1 (b off n c : Nat) (hn : n ≠ 0) (hm : n ≤ maxLen) (hc : n ≤ c) (w : World) :
    Calls Try.prog 60 #[.slice (some ⟨b, off, none⟩) n c] w fun e w' => e = .returned (kvP (1, ⟨b, off, none⟩, n)) ∧ Below w.heap.size w w' := by
  have hm2 : n ≤ 9223372036854775807 := hm
  have h1 : (n : Int) ≠ 0 := by omega
  have h2 : (0 : Int) < n := by omega
  have h3 : ((n : Int) == 0) = false := by simpa using h1
  clear hm
  go_enter Try.func60, Try.ntmps60
  go_wp2
  refine bodyPost_ret (v := .agg #[.iface (ptrT 1) (.pointer (some ⟨b, off, none⟩)), .int .i64 (n : Int)]) ?_ rfl ?_
  · exact results_cell_row rfl _ _ w.heap.size 71 _ (0, 0) _ rfl (heap_alloc_new w _) Try.underlying71 rfl (by kernel_rfl)
  · exact ⟨rfl, (Below.refl _ w).alloc (Nat.le_refl _) _⟩
set_option maxHeartbeats 1000000 in
set_option maxRecDepth 100000 in
theorem place_1 (b off n c : Nat) (hn : n ≠ 0) (hm : n ≤ maxLen) (hc : n ≤ c) (w : World) :
    Calls Try.prog 58 #[.slice (some ⟨b, off, none⟩) n c] w fun e w' => e = .returned (kvP (1, ⟨b, off, none⟩, n)) ∧ Below w.heap.size w w' := by
  go_enter Try.func58, Try.ntmps58
  go_wp2_with fail
  refine (placeOf_1 b off n c hn hm hc _).mono ?_
  rintro e w1 ⟨rfl, hb⟩
  have HB := hide ((Below.refl _ w).alloc (Nat.le_refl _) (.cells #[.nilIface, .int .i64 0] 71) |>.trans (hb.mono (by simp)))
  have hx : w1.heap[w.heap.size]? = some (.cells #[.nilIface, .int .i64 0] 71 (0, 0)) := (hb.block _ (by simp)).trans (heap_alloc_new w _)
  have HX := hide hx
  have x0 := cell_of hx 0
  have x1 := cell_of hx 1
  have f0 := frozen_of hx 0
  have f1 := frozen_of hx 1
  simp only [List.getElem?_toArray, List.getElem?_cons_succ, List.getElem?_cons_zero] at x0 x1
  clear hb hx
  unfold kvP
  go_wp2
  refine bodyPost_ret (v := .agg #[.iface (ptrT 1) (.pointer (some ⟨b, off, none⟩)), .int .i64 (n : Int)]) ?_ rfl ?_
  · exact results_cell_row rfl _ _ w.heap.size 71 _ (0, 0) _ rfl (st2_at HX.out _ _) Try.underlying71 rfl (by kernel_rfl)
  · exact ⟨rfl, (HB.out.setCell (Nat.le_refl _) _).setCell (Nat.le_refl _) _⟩
set_option maxHeartbeats 1000000 in
set_option maxRecDepth 100000 in
theorem placeOf_2 (b off n c : Nat) (hn : n ≠ 0) (hm : n ≤ maxLen) (hc : n ≤ c) (w : World) :
    Calls Try.prog 66 #[.slice (some ⟨b, off, none⟩) n c] w fun e w' => e = .returned (kvP (2, ⟨b, off, none⟩, n)) ∧ Below w.heap.size w w' := by
  have hm2 : n ≤ 9223372036854775807 := hm
  have h1 : (n : Int) ≠ 0 := by omega
  have h2 : (0 : Int) < n := by omega
  have h3 : ((n : Int) == 0) = false := by simpa using h1
  clear hm
  go_enter Try.func66, Try.ntmps66
  go_wp2
  refine bodyPost_ret (v := .agg #[.iface (ptrT 2) (.pointer (some ⟨b, off, none⟩)), .int .i64 (n : Int)]) ?_ rfl ?_
  · exact results_cell_row rfl _ _ w.heap.size 71 _ (0, 0) _ rfl (heap_alloc_new w _) Try.underlying71 rfl (by kernel_rfl)
  · exact ⟨rfl, (Below.refl _ w).alloc (Nat.le_refl _) _⟩
set_option maxHeartbeats 1000000 in
set_option maxRecDepth 100000 in
theorem place_2 (b off n c : Nat) (hn : n ≠ 0) (hm : n ≤ maxLen) (hc : n ≤ c) (w : World) :
    Calls Try.prog 64 #[.slice (some ⟨b, off, none⟩) n c] w fun e w' => e = .returned (kvP (2, ⟨b, off, none⟩, n)) ∧ Below w.heap.size w w' := by
  go_enter Try.func64, Try.ntmps64
  go_wp2_with fail
  refine (placeOf_2 b off n c hn hm hc _).mono ?_
  rintro e w1 ⟨rfl, hb⟩
  have HB := hide ((Below.refl _ w).alloc (Nat.le_refl _) (.cells #[.nilIface, .int .i64 0] 71) |>.trans (hb.mono (by simp)))
  have hx : w1.heap[w.heap.size]? = some (.cells #[.nilIface, .int .i64 0] 71 (0, 0)) := (hb.block _ (by simp)).trans (heap_alloc_new w _)
  have HX := hide hx
  have x0 := cell_of hx 0
  have x1 := cell_of hx 1
  have f0 := frozen_of hx 0
  have f1 := frozen_of hx 1
  simp only [List.getElem?_toArray, List.getElem?_cons_succ, List.getElem?_cons_zero] at x0 x1
  clear hb hx
  unfold kvP
  go_wp2
  refine bodyPost_ret (v := .agg #[.iface (ptrT 2) (.pointer (some ⟨b, off, none⟩)), .int .i64 (n : Int)]) ?_ rfl ?_
  · exact results_cell_row rfl _ _ w.heap.size 71 _ (0, 0) _ rfl (st2_at HX.out _ _) Try.underlying71 rfl (by kernel_rfl)
  · exact ⟨rfl, (HB.out.setCell (Nat.le_refl _) _).setCell (Nat.le_refl _) _⟩
end Go.Proofs.Ytnmofagmjcengaa.Br

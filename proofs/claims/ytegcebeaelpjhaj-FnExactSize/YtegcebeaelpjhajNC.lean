/- The program's plus, newLayer, layerOf, len, isEmpty, addExp. -/
import Derived.Test.YtegcebeaelpjhajNB
namespace Go.Proofs.Ytegcebeaelpjhaj
open Go.ChangeShapes Go.WideShapes Go.ChangeAt Go.RowKit

theorem plain_keep {w w' : World} {a : Addr} (h : PlainAt w a) (hb : w'.heap[a.block]? = w.heap[a.block]?) : PlainAt w' a := by
  obtain ⟨c, e, h⟩ := h
  exact ⟨c, e, hb.trans h⟩
theorem ptr_of {t te : TypeId} {n : Nat} (hu : Try.prog.underlying t = some (.pointer te)) (hi : (Try.prog.info? te).map (fun i => i.size) = some n) (hn : n ≠ 0) : PtrTy Try.prog t := by
  cases hj : Try.prog.info? te with
  | none => rw [hj] at hi; cases hi
  | some j =>
    rw [hj] at hi
    simp at hi
    exact ⟨te, j, hu, hj, by omega⟩
theorem ptr_exp : PtrTy Try.prog 100 := ptr_of Try.underlying100 (n := 6) (by kernel_rfl) (by omega)
theorem ptr_dec : PtrTy Try.prog 127 := ptr_of Try.underlying127 (n := 9) (by kernel_rfl) (by omega)
theorem zero_int (w : World) : (zeroValue 3).run Try.prog w = .ok (.int .i64 0) w := by
  have hi : (Try.prog.info? 3).map (fun i => (i.zero, i.size, i.bytes)) = some (some (.int .i64 0), 1, 8) := by kernel_rfl
  obtain ⟨i0, h1, h2, -, -⟩ := info_parts hi
  simp [zeroValue, typeInfo, h1, h2]
theorem PMap.count {P : Program} {T t u : TypeId} (hT : P.underlying T = some (.map t u)) {w : World} {m : Nat} {l : List (Addr × Nat)} (h : PMap w m l) (ty : TypeId) : (Builtin.len_ #[T] ty #[.map (some m)]).run P w = .ok (.int .i64 (l.length : Int)) w := by
  obtain ⟨es, c, h1, h2⟩ := h
  have hg : (getObj m).run P w = .ok (.map es c) w := by simp [getObj, Sem.run, h1]
  simp [Builtin.len_, run_underlying hT, hg, goInt, h2.len]
theorem plus_any (w : World) (a b : Nat) (h : a + b ≤ 4611686018427387904) : Calls Try.prog 42 #[.int .i64 (a : Int), .int .i64 (b : Int)] w fun e w' => e = .returned (.int .i64 ((a + b : Nat) : Int)) ∧ w' = w := by
  have h1 : ¬ ((a : Int) > 9223372036854775807 - (b : Int)) := by omega
  go_enter Try.func42, Try.ntmps42
  go_wp2
  go_ret
  exact ⟨rfl, rfl⟩
set_option maxRecDepth 100000 in
theorem newLayer_any (w : World) : Calls Try.prog 38 #[] w fun e w' => e = .returned (.agg #[.map (some (w.heap.size + 1)), .map (some (w.heap.size + 2))]) ∧ PMap w' (w.heap.size + 1) [] ∧ PMap w' (w.heap.size + 2) [] ∧ Below w.heap.size w w' ∧ w'.heap.size = w.heap.size + 3 := by
  have hmm := @run_makeMap Try.prog
  go_enter Try.func38, Try.ntmps38
  go_wp2
  generalize hV : w.alloc (.cells #[.map (some (w.heap.size + 1)), .map (some (w.heap.size + 1 + 1))] 97) = V
  have hs : V.heap.size = w.heap.size + 1 := by rw [← hV]; simp
  have hr : V.heap[w.heap.size]? = some (.cells #[.map (some (w.heap.size + 1)), .map (some (w.heap.size + 1 + 1))] 97 (0, 0)) := by rw [← hV]; exact heap_alloc_new w _
  have h1 := PMap.new V
  have h2 := PMap.new (V.alloc (.map #[] 0))
  have h1' := h1.keep (w' := (V.alloc (.map #[] 0)).alloc (.map #[] 0)) (heap_alloc_old _ _ (by simp))
  have hr2 : ((V.alloc (.map #[] 0)).alloc (.map #[] 0)).heap[w.heap.size]? = some (.cells #[.map (some (w.heap.size + 1)), .map (some (w.heap.size + 1 + 1))] 97 (0, 0)) := (heap_alloc_old _ _ (by simp; omega)).trans ((heap_alloc_old _ _ (by omega)).trans hr)
  rw [hs] at h1'
  have hs2 : (V.alloc (.map #[] 0)).heap.size = w.heap.size + 2 := by simp [hs]
  rw [hs2] at h2
  refine bodyPost_ret (v := .agg #[.map (some (w.heap.size + 1)), .map (some (w.heap.size + 2))]) ?_ rfl ?_
  · exact results_cell_row rfl _ _ w.heap.size 97 _ (0, 0) _ rfl hr2 Try.underlying97 rfl (by kernel_rfl)
  · refine ⟨rfl, h1', h2, ?_, by simp [hs]⟩
    rw [← hV]
    exact (((Below.refl _ w).alloc (Nat.le_refl _) _).alloc (by simp) _).alloc (by simp; omega) _
set_option maxRecDepth 100000 in
theorem len_any (w : World) (m1 m2 : Nat) (l1 l2 : List (Addr × Nat)) (h1 : PMap w m1 l1) (h2 : PMap w m2 l2) (hl : l1.length + l2.length ≤ 4611686018427387904) : Calls Try.prog 44 #[.agg #[.map (some m1), .map (some m2)]] w fun e w' => e = .returned (.int .i64 ((l1.length + l2.length : Nat) : Int)) ∧ Below w.heap.size w w' := by
  have hb : Below w.heap.size w (w.alloc (.cells #[.map (some m1), .map (some m2)] 97)) := (Below.refl _ w).alloc (Nat.le_refl _) _
  have c1 := (h1.keep (hb.block m1 h1.lt)).count Try.underlying94
  have c2 := (h2.keep (hb.block m2 h2.lt)).count Try.underlying95
  have HB := hide hb
  clear h1 h2 hb
  go_enter Try.func44, Try.ntmps44
  go_wp2
  go_ret
  exact ⟨rfl, HB.out⟩
set_option maxRecDepth 100000 in
theorem isEmpty_any (w : World) (m1 m2 : Nat) (l1 l2 : List (Addr × Nat)) (h1 : PMap w m1 l1) (h2 : PMap w m2 l2) (hl : l1.length + l2.length ≤ 4611686018427387904) : Calls Try.prog 40 #[.agg #[.map (some m1), .map (some m2)]] w fun e w' => e = .returned (.bool (decide (l1.length + l2.length = 0))) ∧ Below w.heap.size w w' := by
  have hb : Below w.heap.size w (w.alloc (.cells #[.map (some m1), .map (some m2)] 97)) := (Below.refl _ w).alloc (Nat.le_refl _) _
  have H1 := hide (h1.keep (hb.block m1 h1.lt))
  have H2 := hide (h2.keep (hb.block m2 h2.lt))
  have HB := hide hb
  clear h1 h2 hb
  go_enter Try.func40, Try.ntmps40
  go_wp2_with fail
  refine (len_any _ m1 m2 l1 l2 H1.out H2.out hl).mono ?_
  rintro e w1 ⟨rfl, hb⟩
  have HB2 := hide (HB.out.trans (hb.mono HB.out.size))
  clear hb
  go_wp2
  go_ret
  refine ⟨ret_bool ?_, HB2.out⟩
  generalize l1.length = x
  generalize l2.length = y
  rw [Bool.eq_iff_iff]
  simp only [beq_iff_eq, decide_eq_true_eq]
  omega
set_option maxRecDepth 100000 in
theorem layerOf_any (w : World) (a : Addr) (ha : PlainAt w a) : Calls Try.prog 39 #[.pointer (some a)] w fun e w' => ∃ m1 m2, e = .returned (.agg #[.map (some m1), .map (some m2)]) ∧ PMap w' m1 [(a, 1)] ∧ PMap w' m2 [] ∧ Below w.heap.size w w' ∧ w.heap.size ≤ m1 ∧ m1 < m2 := by
  have hlt : a.block < w.heap.size := by
    obtain ⟨c, e, h⟩ := ha
    exact heap_lt h
  generalize hV : w.alloc (.cells #[.map none, .map none] 97) = V
  have hbV : Below w.heap.size w V := by rw [← hV]; exact (Below.refl _ w).alloc (Nat.le_refl _) _
  have hsV : V.heap.size = w.heap.size + 1 := by rw [← hV]; simp
  have hrV : V.heap[w.heap.size]? = some (.cells #[.map none, .map none] 97 (0, 0)) := by rw [← hV]; exact heap_alloc_new w _
  have HA := hide (plain_keep ha (hbV.block a.block hlt))
  have HBV := hide hbV
  have HRV := hide hrV
  clear ha hbV hrV
  go_enter Try.func39, Try.ntmps39
  go_wp2_with fail
  refine (newLayer_any V).mono ?_
  rintro e w1 ⟨rfl, h1, h2, hb, hs⟩
  rw [hsV] at h1 h2 hs hb
  rw [hsV]
  have hb1 : Below w1.heap.size w1 (w1.alloc (.cells #[.map (some (w.heap.size + 1 + 1)), .map (some (w.heap.size + 1 + 2))] 97)) := (Below.refl _ w1).alloc (Nat.le_refl _) _
  have hlt1 := h1.lt
  have hlt2 := h2.lt
  obtain ⟨w2, hup, hm1, hbu, hs2⟩ := (h1.keep (hb1.block _ hlt1)).update Try.underlying94 ptr_exp (a := a) 1 (plain_keep (plain_keep HA.out (hb.block a.block (by omega))) (hb1.block a.block (by omega))) (fun b hb => by simp [keysOf] at hb)
  rw [show ((1 : Nat) : Int) = 1 from rfl] at hup
  have HM1 := hide hm1
  have HM2 := hide ((h2.keep (hb1.block _ hlt2)).keep (hbu.block _ ⟨by simp; omega, by omega⟩))
  have hr2 := (hbu.block w.heap.size ⟨by simp; omega, by omega⟩).trans ((hb1.block w.heap.size (by omega)).trans ((hb.block w.heap.size (by omega)).trans HRV.out))
  have hc2 := (hbu.block w1.heap.size ⟨by simp, by omega⟩).trans (heap_alloc_new w1 _)
  have HB2 : Hid (Below w.heap.size w w2) := HBV.out.trans ((hb.mono (by omega)).trans ((hb1.mono (by omega)).trans ⟨hbu.os, hbu.tape, hbu.output, hbu.size, fun k hk => hbu.block k ⟨by simp; omega, by omega⟩⟩))
  have HR2 := hide hr2
  have HC2 := hide hc2
  have y0 := cell_of hc2 0
  have y1 := cell_of hc2 1
  simp only [List.getElem?_toArray, List.getElem?_cons_succ, List.getElem?_cons_zero] at y0 y1
  rw [hs] at y0 y1
  have x0 := cell_of hr2 0
  have x1 := cell_of hr2 1
  simp only [List.getElem?_toArray, List.getElem?_cons_succ, List.getElem?_cons_zero] at x0 x1
  have f0 := frozen_of hr2 0
  have f1 := frozen_of hr2 1
  clear h1 h2 hb hb1 hm1 hbu hr2 hc2
  go_wp2
  have hr3 := heap_set_same (j := 1) (.map (some (w.heap.size + 1 + 2))) (heap_set_same (j := 0) (.map (some (w.heap.size + 1 + 1))) HR2.out)
  refine bodyPost_ret (v := .agg #[.map (some (w.heap.size + 1 + 1)), .map (some (w.heap.size + 1 + 2))]) ?_ rfl ?_
  · exact results_cell_row rfl _ _ w.heap.size 97 _ (0, 0) _ rfl hr3 Try.underlying97 rfl (by kernel_rfl)
  · refine ⟨_, _, rfl, HM1.out.keep ?_, HM2.out.keep ?_, ?_, by omega, by omega⟩
    · rw [heap_set_other _ (by omega), heap_set_other _ (by omega)]
    · rw [heap_set_other _ (by omega), heap_set_other _ (by omega)]
    · exact (HB2.out.setCell (Nat.le_refl _) _).setCell (Nat.le_refl _) _
set_option maxRecDepth 100000 in
theorem addExp_any (w : World) (m1 : Nat) (m2 : Value) (E : List (Addr × Nat)) (a : Addr) (n : Nat) (h1 : PMap w m1 E) (ha : PlainAt w a) (hp : ∀ b ∈ keysOf E, PlainAt w b) (hn : getA E a + n ≤ 4611686018427387904) : Calls Try.prog 72 #[.agg #[.map (some m1), m2], .pointer (some a), .int .i64 (n : Int)] w fun e w' => e = .returned (.tuple #[]) ∧ PMap w' m1 (setA E a (getA E a + n)) ∧ But m1 w w' := by
  have plt : ∀ b, PlainAt w b → b.block < w.heap.size := fun b hb => by
    obtain ⟨c, e, h⟩ := hb
    exact heap_lt h
  generalize hV : w.alloc (.cells #[.map (some m1), m2] 97) = V
  have hbV : Below w.heap.size w V := by rw [← hV]; exact (Below.refl _ w).alloc (Nat.le_refl _) _
  have hV1 := h1.keep (hbV.block m1 h1.lt)
  have hp1 : ∀ b, PlainAt w b → PlainAt V b := fun b hb => plain_keep hb (hbV.block b.block (plt b hb))
  have hlook := hV1.look Try.underlying94 ptr_exp zero_int (hp1 a ha) (fun b hb => hp1 b (hp b hb))
  have hlook2 := PMap.look (w := V.drew) Try.underlying94 ptr_exp zero_int hV1 (a := a) (hp1 a ha) (fun b hb => hp1 b (hp b hb))
  obtain ⟨w2, hup, hm1, hbu, hs2⟩ := PMap.update (w := V.drew) Try.underlying94 ptr_exp hV1 (a := a) (getA E a + n) (hp1 a ha) (fun b hb => hp1 b (hp b hb))
  simp only [Int.natCast_add] at hup
  have HM1 := hide hm1
  have HB := hide ((But.of hbV).trans ((But.of (Below.refl _ V).drew).trans hbu))
  have HN := hide hn
  have z0 : V.cell? ⟨w.heap.size, 0, none⟩ = some (.map (some m1)) := by
    have h9 : V.heap[w.heap.size]? = some (.cells #[.map (some m1), m2] 97 (0, 0)) := by rw [← hV]; exact heap_alloc_new w _
    have h8 := cell_of h9 0
    simpa using h8
  clear h1 ha hp hbV hV1 hp1 hm1 hbu plt hn
  go_enter Try.func72, Try.ntmps72
  go_wp2_with fail
  go_region_with (go_at_call 42; refine (plus_any _ _ _ HN.out).mono ?_; rintro e w' ⟨rfl, rfl⟩)
  all_goals
    go_end0
    exact ⟨rfl, HM1.out, HB.out⟩
end Go.Proofs.Ytegcebeaelpjhaj

/- Copies: a map that is nil asked by a place; the last one of a row of copies. -/
import Derived.Test.YtgeckgdmkjddpaaQ12
import Derived.Test.YtgeckgdmkjddpaaQ17
import Derived.Lib.AppendZeros
namespace Go.Proofs.Ytgeckgdmkjddpaa.Cp
open Go.ChangeShapes Go.WideShapes Go.ChangeAt Go.RowKit Go.Proofs.Ytgeckgdmkjddpaa.Vo Go.Proofs.Ytgeckgdmkjddpaa.Rd Go.Proofs.Ytgeckgdmkjddpaa.Br
set_option linter.unusedVariables false

theorem strP_c : PtrC Try.prog 165 := ptr_c (n := 0) Try.underlying165 (by kernel_rfl) (by kernel_rfl)
/-- What a place is asked by in a map that is nil. -/
theorem look_nil {tp : TypeId} (hc : PtrC Try.prog tp) {T u : TypeId} {z : Value} (hT : Try.prog.underlying T = some (.map 123 u)) (hz : ∀ w, (zeroValue u).run Try.prog w = .ok z w) (a : Addr) (n : Nat) (w : World) :
    (Instr.lookup T (.map none) (.agg #[.iface tp (.pointer (some a)), .int .i64 (n : Int), .bool false]) true).run Try.prog w = .ok (.tuple #[z, .bool false]) w := by
  obtain ⟨te, q, jp, hpu, -, -, hp, hcm⟩ := hc
  obtain ⟨f0, f1, hu, n0, n1, e0, e1, o0, o1⟩ : ∃ f0 f1, Try.prog.underlying 115 = some (.struct #[f0, f1]) ∧ f0.name ≠ "_" ∧ f1.name ≠ "_" ∧ f0.type = 20 ∧ f1.type = 3 ∧ f0.offset = 0 ∧ f1.offset = 1 := ⟨_, _, Try.underlying115, by decide, by decide, rfl, rfl, rfl, rfl⟩
  obtain ⟨g0, g1, hv, m0, m1, d0, d1, p0, p1⟩ : ∃ g0 g1, Try.prog.underlying 123 = some (.struct #[g0, g1]) ∧ g0.name ≠ "_" ∧ g1.name ≠ "_" ∧ g0.type = 115 ∧ g1.type = 4 ∧ g0.offset = 0 ∧ g1.offset = 2 := ⟨_, _, Try.underlying123, by decide, by decide, rfl, rfl, rfl, rfl⟩
  have ia : (isAgg 20).run Try.prog w = .ok false w := by simp [isAgg, run_underlying Try.underlying20]
  have ib : (isAgg 3).run Try.prog w = .ok false w := by simp [isAgg, run_underlying Try.underlying3]
  have ic : (isAgg 4).run Try.prog w = .ok false w := by simp [isAgg, run_underlying Try.underlying4]
  have il : (isAgg 115).run Try.prog w = .ok true w := by simp [isAgg, run_underlying hu]
  have pa : ∀ x y : Value, (part 20 #[x, y] 0).run Try.prog w = .ok x w := fun x y => by simp [part, ia]
  have pb : ∀ x y : Value, (part 3 #[x, y] 1).run Try.prog w = .ok y w := fun x y => by simp [part, ib]
  have pl : ∀ x y z : Value, (part 115 #[x, y, z] 0).run Try.prog w = .ok (.agg #[x, y]) w := fun x y z => by simp [part, il]
  have pc : ∀ x y z : Value, (part 4 #[x, y, z] 2).run Try.prog w = .ok z w := fun x y z => by simp [part, ic]
  have c1 : ∀ b n, (Instr.checkKey b (n + 1) tp (.pointer (some a))).run Try.prog w = .ok () w := fun b n => by rw [Instr.checkKey]; simp [run_underlying hpu]
  have c0 : ∀ b n, (Instr.checkKey b (n + 2) 20 (.iface tp (.pointer (some a)))).run Try.prog w = .ok () w := fun b n => by rw [Instr.checkKey]; simp [run_underlying Try.underlying20, typeInfo, hp, hcm, c1]
  have c2 : ∀ b m, (Instr.checkKey b (m + 1) 3 (.int .i64 (n : Int))).run Try.prog w = .ok () w := fun b m => by rw [Instr.checkKey]; simp [run_underlying Try.underlying3]
  have c3 : ∀ b m, (Instr.checkKey b (m + 1) 4 (.bool false)).run Try.prog w = .ok () w := fun b m => by rw [Instr.checkKey]; simp [run_underlying Try.underlying4]
  have c4 : ∀ b m, (Instr.checkKey b (m + 3) 115 (.agg #[.iface tp (.pointer (some a)), .int .i64 (n : Int)])).run Try.prog w = .ok () w := fun b m => by
    rw [Instr.checkKey]
    simp [run_underlying hu, n0, n1, e0, e1, o0, o1, pa, pb, c0, c2]
  have c5 : ∀ b, (Instr.checkKey b 10000 123 (.agg #[.iface tp (.pointer (some a)), .int .i64 (n : Int), .bool false])).run Try.prog w = .ok () w := fun b => by
    rw [show (10000 : Nat) = 9996 + 4 from rfl, Instr.checkKey]
    simp [run_underlying hv, m0, m1, d0, d1, p0, p1, pl, pc, c4, c3]
  simp [Instr.lookup, run_underlying hT, c5, Instr.findKey, Instr.findNow, run_underlying hv, hz]

/-- The last one of a row. -/
theorem Row.last {w : World} {E : TypeId} {sz : Nat} {v : Value} {css : List (List Value)} {c : List Value} (h : Row w E sz v (css ++ [c])) :
    ∃ g cap, v = .slice (some ⟨g, 0, none⟩) (css.length + 1) cap ∧ css.length + 1 ≤ cap ∧ cap ≤ maxLen ∧ (∃ cur, w.heap[g]? = some (.cells cur E (0, 0))) ∧ (∀ j u, c[j]? = some u → w.cell? ⟨g, css.length * sz + j, none⟩ = some u) ∧ Row w E sz (.slice (some ⟨g, 0, none⟩) css.length cap) css := by
  obtain ⟨h1, h2, h3⟩ := h
  rcases h3 with ⟨-, h0⟩ | ⟨g, cap, cur, rfl, -, hg, hn, hc, hs, ht⟩
  · simp at h0
  · have hl : ∀ d ∈ css, d.length = sz := fun d hd => h1 d (by simp [hd])
    have hf := flat_len css hl
    simp only [List.length_append, List.length_cons, List.length_nil, Nat.zero_add] at h2 hn ht ⊢
    refine ⟨g, cap, rfl, hn, hc, ⟨cur, hg⟩, fun j u hu => ?_, hl, hf, .inr ⟨g, cap, cur, rfl, Nat.zero_le _, hg, by omega, hc, hs, ?_⟩⟩
    · have hcl := h1 c (by simp)
      have hj : j < sz := by rw [← hcl]; exact (List.getElem?_eq_some_iff.1 hu).1
      refine owns_cell hg ht _ ?_ u (flat_get (css ++ [c]) h1 css.length c j u (by simp) hu)
      rw [Nat.add_mul, Nat.one_mul]
      omega
    · have e : cur.toList.take (css.length * sz) = (cur.toList.take ((css.length + 1) * sz)).take (css.length * sz) := by
        rw [List.take_take, Nat.min_eq_left (Nat.mul_le_mul_right _ (Nat.le_succ _))]
      rw [e, ht, List.flatten_append, List.take_append_of_le_length (by rw [hf]; exact Nat.le_refl _), List.take_of_length_le (by rw [hf]; exact Nat.le_refl _)]

set_option maxHeartbeats 1000000 in
set_option maxRecDepth 100000 in
theorem placeOf_3 (b off n c : Nat) (hn : n ≠ 0) (hm : n ≤ maxLen) (hc : n ≤ c) (w : World) :
    Calls Try.prog 84 #[.slice (some ⟨b, off, none⟩) n c] w fun e w' => e = .returned (.agg #[.iface 165 (.pointer (some ⟨b, off, none⟩)), .int .i64 (n : Int)]) ∧ Below w.heap.size w w' := by
  have hm2 : n ≤ 9223372036854775807 := hm
  have h1 : (n : Int) ≠ 0 := by omega
  have h2 : (0 : Int) < n := by omega
  have h3 : ((n : Int) == 0) = false := by simpa using h1
  clear hm
  go_enter Try.func84, Try.ntmps84
  go_wp2
  refine bodyPost_ret (v := .agg #[.iface 165 (.pointer (some ⟨b, off, none⟩)), .int .i64 (n : Int)]) ?_ rfl ?_
  · exact results_cell_row rfl _ _ w.heap.size 115 _ (0, 0) _ rfl (heap_alloc_new w _) Try.underlying115 rfl (by kernel_rfl)
  · exact ⟨rfl, (Below.refl _ w).alloc (Nat.le_refl _) _⟩
theorem css_str {ss : List ByteArray} {css : List (List Value)} (hl : css.length = ss.length) (hr : ∀ (j : Nat) x, ss[j]? = some x → ∃ cs, css[j]? = some cs ∧ strR x cs) : css.flatten = ss.map Value.string := by
  have h1 : css = ss.map fun s => [Value.string s] := by
    apply List.ext_getElem?
    intro j
    rw [List.getElem?_map]
    cases hj : ss[j]? with
    | none =>
      have h9 := List.getElem?_eq_none_iff.1 hj
      rw [List.getElem?_eq_none (by omega)]
      rfl
    | some x =>
      obtain ⟨cs, e1, e2, -⟩ := hr j x hj
      rw [e1, e2]
      rfl
  rw [h1]
  clear h1 hl hr
  induction ss with
  | nil => rfl
  | cons x r ih => rw [List.map_cons, List.flatten_cons, ih]; rfl
end Go.Proofs.Ytgeckgdmkjddpaa.Cp

/- The law's own measure, copy and comparison of Toks. -/
import Derived.Test.YtnmofagmjcengaaLA
import Derived.Laws.MakeOwn
namespace Go.Proofs.Ytnmofagmjcengaa
open Go.RowKit

theorem tok_eta (t : TokZ) : Value.agg #[.int .i64 t.k, .string t.s, .int .i64 t.l, .int .i64 t.c] = aggZ t := rfl

theorem take_set4 (cur : Array Value) (i : Nat) (h : i * 4 + 4 ≤ cur.size) (a b c d : Value) : ((((cur.set! (i * 4) a).set! (i * 4 + 1) b).set! (i * 4 + 2) c).set! (i * 4 + 3) d).toList.take ((i + 1) * 4) = cur.toList.take (i * 4) ++ [a, b, c, d] := by
  have hl : cur.toList.length = cur.size := Array.length_toList
  apply List.ext_getElem?
  intro n
  rw [List.getElem?_take, List.getElem?_append, List.length_take, Nat.min_eq_left (by omega), List.getElem?_take]
  simp only [Array.set!_eq_setIfInBounds, Array.toList_setIfInBounds, List.getElem?_set, List.length_set]
  by_cases h0 : n < i * 4
  · rw [if_pos (by omega), if_neg (by omega), if_neg (by omega), if_neg (by omega), if_neg (by omega), if_pos h0, if_pos h0]
  · rw [if_neg h0]
    by_cases h4 : n < (i + 1) * 4
    · rw [if_pos h4]
      obtain ⟨j, hj, rfl⟩ : ∃ j, j < 4 ∧ n = i * 4 + j := ⟨n - i * 4, by omega, by omega⟩
      rw [Nat.add_sub_cancel_left]
      match j, hj with
      | 0, _ => rw [if_neg (by omega), if_neg (by omega), if_neg (by omega), if_pos (by omega), if_pos (by omega)]; rfl
      | 1, _ => rw [if_neg (by omega), if_neg (by omega), if_pos rfl, if_pos (by omega)]; rfl
      | 2, _ => rw [if_neg (by omega), if_pos rfl, if_pos (by omega)]; rfl
      | 3, _ => rw [if_pos rfl, if_pos (by omega)]; rfl
    · rw [if_neg h4]
      exact (List.getElem?_eq_none (by show 4 ≤ _; omega)).symm

end Go.Proofs.Ytnmofagmjcengaa

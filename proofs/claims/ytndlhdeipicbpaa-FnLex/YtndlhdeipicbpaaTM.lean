/- Toks in memory. -/
import Derived.Test.YtndlhdeipicbpaaQ
namespace Go.Proofs.Ytndlhdeipicbpaa
open Go.RowKit

/-- A list of Toks in memory: the value and the block where its cells lie. -/
def TokMem (w : World) (o : Option Addr) (g : Nat) (ts : List TokP) : Prop :=
  (ts ≠ [] → g < w.heap.size) ∧ (ts ≠ [] → o = some ⟨g, 0, none⟩) ∧ ∀ i, i < ts.length → ∀ t, ts[i]? = some t →
    w.cell? ⟨g, i * 4, none⟩ = some (.int .i64 (t.k : Nat)) ∧ w.cell? ⟨g, i * 4 + 1, none⟩ = some (.string ⟨t.s.toArray⟩) ∧ w.cell? ⟨g, i * 4 + 2, none⟩ = some (.int .i64 (t.line : Nat)) ∧ w.cell? ⟨g, i * 4 + 3, none⟩ = some (.int .i64 (t.col : Nat))
theorem tokMem_below {w w' : World} {o : Option Addr} {g : Nat} {ts : List TokP} (h : TokMem w o g ts) {B : Nat} (hb : Below B w w') (hg0 : ts ≠ [] → g < B) : TokMem w' o g ts := by
  refine ⟨fun hne => Nat.lt_of_lt_of_le (h.1 hne) hb.size, h.2.1, fun i hi t ht => ?_⟩
  have hg := hg0 (by intro e; rw [e] at hi; simp at hi)
  obtain ⟨h0, h1, h2, h3⟩ := h.2.2 i hi t ht
  exact ⟨(hb.cell (p := ⟨g, _, none⟩) hg).trans h0, (hb.cell (p := ⟨g, _, none⟩) hg).trans h1, (hb.cell (p := ⟨g, _, none⟩) hg).trans h2, (hb.cell (p := ⟨g, _, none⟩) hg).trans h3⟩

theorem lexTs_short (L : List UInt8) : (lexTs L).length ≤ 400 := by
  unfold lexTs lexR
  split
  · split
    · split
      · show (_ ++ [_]).length ≤ 400
        rw [List.length_append, List.length_singleton]; omega
      · exact Nat.zero_le _
    · exact Nat.zero_le _
  · exact Nat.zero_le _
theorem tokRow_get (ts : List TokP) : ∀ (i : Nat) (t : TokP), ts[i]? = some t → ∀ j, j < 4 → (tokRow ts)[i * 4 + j]? = (tokCells t)[j]? := by
  induction ts with
  | nil => intro i t h; simp at h
  | cons x r ih =>
    intro i t h j hj
    have e : tokRow (x :: r) = tokCells x ++ tokRow r := by unfold tokRow; rw [List.flatMap_cons]
    rw [e]
    cases i with
    | zero =>
      have : x = t := by simpa using h
      subst this
      rw [Nat.zero_mul, Nat.zero_add, List.getElem?_append_left (by show j < 4; exact hj)]
    | succ i =>
      rw [List.getElem?_append_right (by show 4 ≤ _; omega)]
      have h4 : (tokCells x).length = 4 := rfl
      rw [h4, show (i + 1) * 4 + j - 4 = i * 4 + j by omega]
      exact ih i t (by simpa using h) j hj
theorem owns_cell {w : World} {e n : Nat} {g : Nat} {cur : Array Value} {xs : List Value} (hg : w.heap[g]? = some (.cells cur e (0, 0))) (htk : cur.toList.take n = xs) (m : Nat) (hm : m < n) (v : Value) (hx : xs[m]? = some v) : w.cell? ⟨g, m, none⟩ = some v := by
  have h1 : cur[m]? = some v := by
    rw [← htk, List.getElem?_take, if_pos hm, Array.getElem?_toList] at hx
    exact hx
  unfold World.cell?
  simp [hg, h1]
theorem tokMem_of2 {w : World} {B : Nat} {v : Value} {ts : List TokP} (h : w.ownsRow B 32 4 v ts.length (tokRow ts)) : ∃ o g cap, v = .slice o ts.length cap ∧ TokMem w o g ts := by
  obtain ⟨hl, hc⟩ := h
  rcases hc with ⟨hv, h0⟩ | ⟨g, cap, cur, hv, hb, hg, hn, hcap, hsz, htk⟩
  · have hts : ts = [] := List.length_eq_zero_iff.1 h0
    subst hts
    exact ⟨none, 0, 0, hv, ⟨fun h => absurd rfl h, fun h => absurd rfl h, fun i hi => by simp at hi⟩⟩
  · refine ⟨some ⟨g, 0, none⟩, g, cap, hv, ⟨fun _ => (Array.getElem?_eq_some_iff.1 hg).1, fun _ => rfl, fun i hi t ht => ?_⟩⟩
    have key : ∀ j, j < 4 → ∀ u, (tokCells t)[j]? = some u → w.cell? ⟨g, i * 4 + j, none⟩ = some u := fun j hj u hu =>
      owns_cell hg htk (i * 4 + j) (by omega) u (by rw [tokRow_get ts i t ht j hj]; exact hu)
    exact ⟨key 0 (by omega) _ rfl, key 1 (by omega) _ rfl, key 2 (by omega) _ rfl, key 3 (by omega) _ rfl⟩
end Go.Proofs.Ytndlhdeipicbpaa

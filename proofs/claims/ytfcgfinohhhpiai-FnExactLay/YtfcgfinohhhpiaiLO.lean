/- A list of Toks that comes in, opened. -/
import Derived.Test.YtfcgfinohhhpiaiLA
import Derived.Deep.Slices
import Derived.OpenShut
import Derived.ShutString
import Derived.ChangeOld
namespace Go.Proofs.Ytfcgfinohhhpiai
open Go.ChangeShapes Go.WideShapes Go.ChangeAt Go.RowKit

theorem four {l : List Value} (h : l.length = 4) : ∃ a b c d, l = [a, b, c, d] := by
  match l, h with
  | [a, b, c, d], _ => exact ⟨a, b, c, d, rfl⟩

theorem open_tok {H : Type} {enc : TypeId × Value → H} {w : World} {base : Nat} {spare : Nat → Bool} {held : Bool} {fuel : Nat} {cs : List Value} {x : DataW H × List MemPlace}
    (h : DataW.trod enc Try.prog w base spare held fuel 64 cs = some x) : ∃ t : TokZ, cs = cellsZ t ∧ t.s.size ≤ maxLen := by
  obtain ⟨xs, n, -, -, hlen, hxl, hf⟩ := DataW.trod_struct Try.underlying64 h
  have hc : Try.prog.cellsOf 64 = 4 := by kernel_rfl
  rw [hc] at hlen
  obtain ⟨v0, v1, v2, v3, rfl⟩ := four hlen
  have c3 : Try.prog.cellsOf 3 = 1 := by kernel_rfl
  have c9 : Try.prog.cellsOf 9 = 1 := by kernel_rfl
  have hx : ∀ i, i < 4 → ∃ y, xs[i]? = some y := fun i hi => ⟨xs[i]'(by rw [hxl]; exact hi), List.getElem?_eq_getElem _⟩
  obtain ⟨y0, e0⟩ := hx 0 (by omega)
  obtain ⟨y1, e1⟩ := hx 1 (by omega)
  obtain ⟨y2, e2⟩ := hx 2 (by omega)
  obtain ⟨y3, e3⟩ := hx 3 (by omega)
  have g0 := hf 0 _ rfl
  have g1 := hf 1 _ rfl
  have g2 := hf 2 _ rfl
  have g3 := hf 3 _ rfl
  rw [e0] at g0
  rw [e1] at g1
  rw [e2] at g2
  rw [e3] at g3
  have k0 : DataW.trod enc Try.prog w base spare held n 3 ([v0, v1, v2, v3].take (Try.prog.cellsOf 3)) = some y0 := g0
  have k1 : DataW.trod enc Try.prog w base spare held n 9 ([v1, v2, v3].take (Try.prog.cellsOf 9)) = some y1 := g1
  have k2 : DataW.trod enc Try.prog w base spare held n 3 ([v2, v3].take (Try.prog.cellsOf 3)) = some y2 := g2
  have k3 : DataW.trod enc Try.prog w base spare held n 3 ([v3].take (Try.prog.cellsOf 3)) = some y3 := g3
  rw [c3] at k0 k2 k3
  rw [c9] at k1
  obtain ⟨z0, h0, -, -⟩ := DataW.trod_int Try.underlying3 k0
  obtain ⟨s1, h1, -, hs⟩ := DataW.trod_string Try.underlying9 k1
  obtain ⟨z2, h2, -, -⟩ := DataW.trod_int Try.underlying3 k2
  obtain ⟨z3, h3, -, -⟩ := DataW.trod_int Try.underlying3 k3
  refine ⟨⟨z0, s1, z2, z3⟩, ?_, hs⟩
  simp at h0 h1 h2 h3
  subst h0 h1 h2 h3
  rfl

theorem list_of {α : Type} {n : Nat} {p : Nat → α → Prop} (h : ∀ i, i < n → ∃ x, p i x) : ∃ l : List α, l.length = n ∧ ∀ i x, l[i]? = some x → p i x := by
  induction n with
  | zero => exact ⟨[], rfl, fun i x h => by simp at h⟩
  | succ n ih =>
    obtain ⟨l, hl, hp⟩ := ih fun i hi => h i (Nat.lt_succ_of_lt hi)
    obtain ⟨x, hx⟩ := h n (Nat.lt_succ_self n)
    refine ⟨l ++ [x], by rw [List.length_append, hl]; rfl, fun i y hy => ?_⟩
    by_cases hi : i < l.length
    · rw [List.getElem?_append_left hi] at hy
      exact hp i y hy
    · rw [List.getElem?_append_right (by omega)] at hy
      have hi2 : i - l.length = 0 := by
        have := (List.getElem?_eq_some_iff.1 hy).1
        simp at this
        omega
      rw [hi2] at hy
      have : x = y := by simpa using hy
      subst this
      rw [show i = n by omega]
      exact hx

theorem open_toks {H : Type} {enc : TypeId × Value → H} {w : World} {base : Nat} {held : Bool} {v : Value} {d : DataW H} {p : List MemPlace}
    (h : DataW.Trod enc Try.prog w base (fun _ => true) held 22 v d p) (hv : ∃ o len cap, v = .slice o len cap) :
    ∃ (ts : List TokZ) (o : Option Addr) (b off cap : Nat), v = .slice o ts.length cap ∧ ts.length ≤ maxLen ∧ ToksAt w o b off ts ∧ ∀ t ∈ ts, t.s.size ≤ maxLen := by
  obtain ⟨o, len, cap, rfl⟩ := hv
  obtain ⟨fuel, hf⟩ := h
  rcases Go.Deep.open_slice Try.underlying22 hf with ⟨hcs, _⟩ | ⟨a, l, c, m, n, D, Pl, hcs, -, hl, hm, hmm, -, hx⟩
  · simp [Value.cells] at hcs
    obtain ⟨rfl, rfl, rfl⟩ := hcs
    exact ⟨[], none, 0, 0, 0, rfl, Nat.zero_le _, fun h => absurd rfl h, fun t ht => by simp at ht⟩
  · simp [Value.cells] at hcs
    obtain ⟨rfl, rfl, rfl⟩ := hcs
    have hc : Try.prog.cellsOf 64 = 4 := by kernel_rfl
    rw [hc] at hx
    have hm2 : len ≤ m := by rw [hmm]; simpa using hl
    by_cases h0 : len = 0
    · subst h0
      exact ⟨[], some a, 0, 0, cap, rfl, Nat.zero_le _, fun h => absurd rfl h, fun t ht => by simp at ht⟩
    obtain ⟨b, off, spot⟩ := a
    obtain rfl : spot = none := by
      obtain ⟨cs, h1, h2⟩ := hx 0 (by omega)
      obtain ⟨t, rfl, hs⟩ := open_tok h2
      obtain ⟨-, -, hcell⟩ := World.cells?_some h1
      have hc0 : w.cell? ((({ block := b, off := off, spot := spot } : Addr).add (0 * 4)).add 0) = some (.int .i64 t.k) := hcell 0 (by omega)
      simpa [Addr.add] using World.cell?_spot hc0
    obtain ⟨ts, hts, hp⟩ := list_of (α := TokZ) (n := len) (p := fun i t => (TokAt w b (off + i * 4) t ∧ b < w.heap.size) ∧ t.s.size ≤ maxLen) (fun i hi => by
      obtain ⟨cs, h1, h2⟩ := hx i (by omega)
      obtain ⟨t, rfl, hs⟩ := open_tok h2
      obtain ⟨-, -, hcell⟩ := World.cells?_some h1
      have hadd : ∀ j, ((⟨b, off, none⟩ : Addr).add (i * 4)).add j = ⟨b, off + i * 4 + j, none⟩ := by
        intro j
        rw [Go.Deep.add_add]
        by_cases hj : i * 4 + j = 0
        · simp [Addr.add, hj]
          omega
        · simp [Addr.add, Nat.add_assoc]
          omega
      have key : ∀ j u, (cellsZ t)[j]? = some u → w.cell? ⟨b, off + i * 4 + j, none⟩ = some u := fun j u hu => by
        have hj : j < 4 := (List.getElem?_eq_some_iff.1 hu).1
        have := hcell j hj
        rw [hadd, hu] at this
        exact this
      have k0 := key 0 _ rfl
      exact ⟨t, ⟨⟨k0, key 1 _ rfl, key 2 _ rfl, key 3 _ rfl⟩, World.block_lt_of_cell? w _ k0⟩, hs⟩)
    refine ⟨ts, some ⟨b, off, none⟩, b, off, cap, by rw [hts], by rw [hts]; omega, fun hne => ?_, fun t ht => ?_⟩
    · obtain ⟨⟨-, hb⟩, -⟩ := hp 0 (ts[0]'(by omega)) (List.getElem?_eq_getElem _)
      exact ⟨rfl, hb, fun i t ht => (hp i t ht).1.1⟩
    · obtain ⟨i, hi⟩ := List.getElem?_of_mem ht
      exact (hp i t hi).2
end Go.Proofs.Ytfcgfinohhhpiai

/- The law's own marks. -/
import Derived.Test.YtnmofagmjcengaaLI
import Derived.Laws.IdiomStrings
namespace Go.Proofs.Ytnmofagmjcengaa
open Go.RowKit

def dgt (j : Nat) : UInt8 := UInt8.ofNat (48 + j % 10)
def digs : Nat → Nat → List UInt8 → List UInt8
  | 0, _, out => out
  | f + 1, k, out => if 0 < k then digs f (k / 10) (dgt k :: out) else out
def markT (k : Nat) : List UInt8 := 109 :: digs k k []

theorem one_byte (n : Nat) : (dgt n).toNat = 48 + n % 10 := by
  rw [dgt, UInt8.toNat_ofNat']
  omega
theorem cat_byte (b : UInt8) (out : List UInt8) : (ByteArray.mk #[b]) ++ (ByteArray.mk out.toArray) = ⟨(b :: out).toArray⟩ := by
  apply ByteArray.ext
  rw [ByteArray.data_append]
  simp

def markS (k : Nat) : ByteArray := ⟨(markT (k + 1)).toArray⟩
/-- The marks of n Toks in block g. -/
def MarkMem (w : World) (g n : Nat) : Prop := ∀ i, i < n → ∀ k : Nat, k = 1 + 4 * i →
  w.cell? ⟨g, i * 4, none⟩ = some (.int .i64 k) ∧ w.cell? ⟨g, i * 4 + 1, none⟩ = some (.string (markS k)) ∧ w.cell? ⟨g, i * 4 + 2, none⟩ = some (.int .i64 ((k : Int) + 1 + 1)) ∧ w.cell? ⟨g, i * 4 + 3, none⟩ = some (.int .i64 ((k : Int) + 1 + 1 + 1))
/-- Cells that may be written. -/
def Open (w : World) (g m : Nat) : Prop := ∀ a, a < m → (∃ u, w.cell? ⟨g, a, none⟩ = some u) ∧ w.frozen? ⟨g, a, none⟩ = false
theorem set_cell (W : World) (g a m : Nat) (v u : Value) (h : W.cell? ⟨g, a, none⟩ = some u) : (W.setCell ⟨g, a, none⟩ v).cell? ⟨g, m, none⟩ = if m = a then some v else W.cell? ⟨g, m, none⟩ := by
  by_cases e : m = a
  · subst e
    rw [if_pos rfl]
    exact World.cell?_setCell_same _ _ _ h
  · rw [if_neg e]
    refine World.cell?_setCell_other _ _ _ _ fun h2 => e ?_
    cases h2
    rfl
theorem open_set {W : World} {g m : Nat} (h : Open W g m) (a : Nat) (ha : a < m) (v : Value) : Open (W.setCell ⟨g, a, none⟩ v) g m := by
  intro b hb
  obtain ⟨⟨u, hu⟩, _⟩ := h a ha
  refine ⟨?_, by rw [World.frozen?_setCell]; exact (h b hb).2⟩
  rw [set_cell W g a b v u hu]
  split
  · exact ⟨v, rfl⟩
  · exact (h b hb).1
theorem open_below {w w' : World} {g m B : Nat} (h : Open w g m) (hb : Below B w w') (hg : g < B) : Open w' g m := by
  intro a ha
  obtain ⟨⟨u, hu⟩, hf⟩ := h a ha
  exact ⟨⟨u, (hb.cell (p := ⟨g, a, none⟩) hg).trans hu⟩, (hb.frozen (p := ⟨g, a, none⟩) hg).trans hf⟩
def marked (w2 : World) (g i : Nat) (k : Nat) : World := ((w2.setCell ⟨g, i * 4 + 1, none⟩ (.string (markS k))).setCell ⟨g, i * 4 + 2, none⟩ (.int .i64 ((k : Int) + 1 + 1))).setCell ⟨g, i * 4 + 3, none⟩ (.int .i64 ((k : Int) + 1 + 1 + 1))
theorem mark_step {w wr w2 : World} {g n i k : Nat} (hlt : i < n) (hk : k = 1 + 4 * i) (hop : Open wr g (n * 4)) (hmm : MarkMem wr g i) (hb : Below (wr.setCell ⟨g, i * 4, none⟩ (.int .i64 k)).heap.size (wr.setCell ⟨g, i * 4, none⟩ (.int .i64 k)) w2) (hg : g < wr.heap.size) (hbw : Keeps (fun k => k < w.heap.size ∧ (0 < n → k ≠ g)) w wr) :
    Keeps (fun k => k < w.heap.size ∧ (0 < n → k ≠ g)) w (marked w2 g i k) ∧ Open (marked w2 g i k) g (n * 4) ∧ MarkMem (marked w2 g i k) g (i + 1) := by
  have hsz : (wr.setCell ⟨g, i * 4, none⟩ (.int .i64 k)).heap.size = wr.heap.size := by simp
  have hg2 : g < (wr.setCell ⟨g, i * 4, none⟩ (.int .i64 k)).heap.size := by rw [hsz]; exact hg
  have ho2 := open_below (open_set hop (i * 4) (by omega) (.int .i64 k)) hb hg2
  have ho3 := open_set ho2 (i * 4 + 1) (by omega) (.string (markS k))
  have ho4 := open_set ho3 (i * 4 + 2) (by omega) (.int .i64 ((k : Int) + 1 + 1))
  have ho5 := open_set ho4 (i * 4 + 3) (by omega) (.int .i64 ((k : Int) + 1 + 1 + 1))
  have hcell : ∀ m, (marked w2 g i k).cell? ⟨g, m, none⟩ = if m = i * 4 + 3 then some (.int .i64 ((k : Int) + 1 + 1 + 1)) else if m = i * 4 + 2 then some (.int .i64 ((k : Int) + 1 + 1)) else if m = i * 4 + 1 then some (.string (markS k)) else if m = i * 4 then some (.int .i64 k) else wr.cell? ⟨g, m, none⟩ := by
    intro m
    obtain ⟨⟨u1, c1⟩, _⟩ := ho2 (i * 4 + 1) (by omega)
    obtain ⟨⟨u2, c2⟩, _⟩ := ho3 (i * 4 + 2) (by omega)
    obtain ⟨⟨u3, c3⟩, _⟩ := ho4 (i * 4 + 3) (by omega)
    obtain ⟨⟨u0, c0⟩, _⟩ := hop (i * 4) (by omega)
    unfold marked
    rw [set_cell _ g _ m _ u3 c3, set_cell _ g _ m _ u2 c2, set_cell _ g _ m _ u1 c1, hb.cell (p := ⟨g, m, none⟩) hg2, set_cell _ g _ m _ u0 c0]
  refine ⟨?_, ho5, ?_⟩
  · have hkg : ¬ (g < w.heap.size ∧ (0 < n → g ≠ g)) := fun h => h.2 (by omega) rfl
    have h1 := hbw.trans (keeps_set wr g (i * 4) (.int .i64 k) hkg)
    have h2 := h1.trans (keeps_of hb (fun k hk => by rw [hsz]; exact Nat.lt_of_lt_of_le hk.1 hbw.size))
    exact ((h2.trans (keeps_set _ _ _ _ hkg)).trans (keeps_set _ _ _ _ hkg)).trans (keeps_set _ _ _ _ hkg)
  · intro i' hi' k' hk'
    by_cases e : i' = i
    · subst e
      have : k' = k := by omega
      subst this
      refine ⟨?_, ?_, ?_, ?_⟩
      · rw [hcell, if_neg (by omega), if_neg (by omega), if_neg (by omega), if_pos rfl]
      · rw [hcell, if_neg (by omega), if_neg (by omega), if_pos rfl]
      · rw [hcell, if_neg (by omega), if_pos rfl]
      · rw [hcell, if_pos rfl]
    · obtain ⟨h0, h1, h2, h3⟩ := hmm i' (by omega) k' hk'
      refine ⟨?_, ?_, ?_, ?_⟩
      · rw [hcell, if_neg (by omega), if_neg (by omega), if_neg (by omega), if_neg (by omega)]; exact h0
      · rw [hcell, if_neg (by omega), if_neg (by omega), if_neg (by omega), if_neg (by omega)]; exact h1
      · rw [hcell, if_neg (by omega), if_neg (by omega), if_neg (by omega), if_neg (by omega)]; exact h2
      · rw [hcell, if_neg (by omega), if_neg (by omega), if_neg (by omega), if_neg (by omega)]; exact h3
theorem markMem_below {w w' : World} {g n : Nat} (h : MarkMem w g n) {B : Nat} (hb : Below B w w') (hg : g < B) : MarkMem w' g n := by
  intro i hi k hk
  obtain ⟨h0, h1, h2, h3⟩ := h i hi k hk
  exact ⟨(hb.cell (p := ⟨g, _, none⟩) hg).trans h0, (hb.cell (p := ⟨g, _, none⟩) hg).trans h1, (hb.cell (p := ⟨g, _, none⟩) hg).trans h2, (hb.cell (p := ⟨g, _, none⟩) hg).trans h3⟩
theorem toksAt_open {w : World} {base : Nat} {e : TypeId} {v : Value} {ts : List TokZ} (h : w.ownsRow base e 4 v ts.length (rowZ ts)) : ∃ o b cap, v = .slice o ts.length cap ∧ ToksAt w o b 0 ts ∧ (ts ≠ [] → base ≤ b) ∧ Open w b (ts.length * 4) := by
  obtain ⟨o, b, cap, hv, hm, hb⟩ := toksAt_of h
  refine ⟨o, b, cap, hv, hm, fun hne => (owns_lt h b (hb hne)).2, fun a ha => ?_⟩
  obtain ⟨hl, hc⟩ := h
  rcases hc with ⟨_, h0⟩ | ⟨g, cp, cur, hv2, hb1, hg, hn, hcap, hsz, htk⟩
  · omega
  · have hne : ts ≠ [] := by intro e; rw [e] at ha; simp at ha
    have hbg : b = g := by
      have := hb hne
      rw [hv2] at this
      exact (Option.some.inj this).symm
    subst hbg
    have hlt : a < cur.size := by
      rw [hsz]
      have : ts.length * 4 ≤ cp * 4 := Nat.mul_le_mul_right 4 hn
      omega
    exact ⟨⟨cur[a], by rw [cell_of hg]; exact Array.getElem?_eq_getElem hlt⟩, frozen_of hg a⟩
theorem toksAt_keeps {w w' : World} {K : Nat → Prop} {o : Option Addr} {b off : Nat} {ts : List TokZ} (h : ToksAt w o b off ts) (hk : Keeps K w w') (hb : ts ≠ [] → K b) : ToksAt w' o b off ts :=
  toksAt_block h hk.size fun hne => hk.block b (hb hne)
theorem ne_nil {ts : List TokZ} (h : 0 < ts.length) : ts ≠ [] := List.ne_nil_of_length_pos h
end Go.Proofs.Ytnmofagmjcengaa

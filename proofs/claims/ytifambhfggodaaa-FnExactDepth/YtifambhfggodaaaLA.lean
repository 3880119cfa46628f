/- Toks in memory, and what a call leaves of the memory. -/
import Derived.Test.YtifambhfggodaaaBase
import Derived.WalkKit
import Derived.ProofKit
import Derived.WalkLawsBesides
import Derived.Lib.OthersKept
import Derived.Laws.AppendOwn
import Derived.Maps.AppendAt
import Derived.OwnWalk
import Derived.Deep.RegionWith
namespace Go.Proofs.Ytifambhfggodaaa
open Go.RowKit


structure TokZ where
  k : Int
  s : ByteArray
  l : Int
  c : Int

def cellsZ (t : TokZ) : List Value := [.int .i64 t.k, .string t.s, .int .i64 t.l, .int .i64 t.c]
def rowZ (ts : List TokZ) : List Value := ts.flatMap cellsZ
def aggZ (t : TokZ) : Value := .agg #[.int .i64 t.k, .string t.s, .int .i64 t.l, .int .i64 t.c]
theorem rowZ_length (ts : List TokZ) : (rowZ ts).length = ts.length * 4 := by
  induction ts with
  | nil => rfl
  | cons t r ih =>
    rw [rowZ, List.flatMap_cons, List.length_append, show List.flatMap cellsZ r = rowZ r from rfl, ih, List.length_cons]
    show 4 + r.length * 4 = _
    omega
theorem rowZ_snoc (ts : List TokZ) (t : TokZ) : rowZ (ts ++ [t]) = rowZ ts ++ cellsZ t := by
  unfold rowZ
  rw [List.flatMap_append, List.flatMap_cons, List.flatMap_nil, List.append_nil]
theorem rowZ_get (ts : List TokZ) : ∀ (i : Nat) (t : TokZ), ts[i]? = some t → ∀ j, j < 4 → (rowZ ts)[i * 4 + j]? = (cellsZ t)[j]? := by
  induction ts with
  | nil => intro i t h; simp at h
  | cons x r ih =>
    intro i t h j hj
    have e : rowZ (x :: r) = cellsZ x ++ rowZ r := by unfold rowZ; rw [List.flatMap_cons]
    rw [e]
    cases i with
    | zero =>
      have : x = t := by simpa using h
      subst this
      rw [Nat.zero_mul, Nat.zero_add, List.getElem?_append_left (by show j < 4; exact hj)]
    | succ i =>
      rw [List.getElem?_append_right (by show 4 ≤ _; omega)]
      have h4 : (cellsZ x).length = 4 := rfl
      rw [h4, show (i + 1) * 4 + j - 4 = i * 4 + j by omega]
      exact ih i t (by simpa using h) j hj

/-- The four cells of a Tok at a place. -/
def TokAt (w : World) (b p : Nat) (t : TokZ) : Prop :=
  w.cell? ⟨b, p, none⟩ = some (.int .i64 t.k) ∧ w.cell? ⟨b, p + 1, none⟩ = some (.string t.s) ∧ w.cell? ⟨b, p + 2, none⟩ = some (.int .i64 t.l) ∧ w.cell? ⟨b, p + 3, none⟩ = some (.int .i64 t.c)
/-- A list of Toks in memory. -/
def ToksAt (w : World) (o : Option Addr) (b off : Nat) (ts : List TokZ) : Prop :=
  ts ≠ [] → o = some ⟨b, off, none⟩ ∧ b < w.heap.size ∧ ∀ i t, ts[i]? = some t → TokAt w b (off + i * 4) t

theorem tokAt_block {w w' : World} {b p : Nat} {t : TokZ} (h : TokAt w b p t) (hb : w'.heap[b]? = w.heap[b]?) : TokAt w' b p t := by
  obtain ⟨h0, h1, h2, h3⟩ := h
  exact ⟨(World.cell?_of_block (a := ⟨b, _, none⟩) hb).trans h0, (World.cell?_of_block (a := ⟨b, _, none⟩) hb).trans h1, (World.cell?_of_block (a := ⟨b, _, none⟩) hb).trans h2, (World.cell?_of_block (a := ⟨b, _, none⟩) hb).trans h3⟩
theorem toksAt_block {w w' : World} {o : Option Addr} {b off : Nat} {ts : List TokZ} (h : ToksAt w o b off ts) (hs : w.heap.size ≤ w'.heap.size) (hb : ts ≠ [] → w'.heap[b]? = w.heap[b]?) : ToksAt w' o b off ts := by
  intro hne
  obtain ⟨h0, h1, h2⟩ := h hne
  exact ⟨h0, Nat.lt_of_lt_of_le h1 hs, fun i t ht => tokAt_block (h2 i t ht) (hb hne)⟩
theorem toksAt_below {w w' : World} {o : Option Addr} {b off : Nat} {ts : List TokZ} {B : Nat} (h : ToksAt w o b off ts) (hb : Below B w w') (hB : ts ≠ [] → b < B) : ToksAt w' o b off ts :=
  toksAt_block h hb.size fun hne => hb.block b (hB hne)
theorem toksAt_later {w w' : World} {o : Option Addr} {b off : Nat} {ts : List TokZ} (h : ToksAt w o b off ts) (hb : Below w.heap.size w w') : ToksAt w' o b off ts :=
  toksAt_below h hb fun hne => (h hne).2.1
theorem heap_lt {w : World} {g : Nat} {o : Obj} (h : w.heap[g]? = some o) : g < w.heap.size := (Array.getElem?_eq_some_iff.1 h).1
theorem cell_of {w : World} {g : Nat} {cur : Array Value} {e : TypeId} {fz : Nat × Nat} (h : w.heap[g]? = some (.cells cur e fz)) (j : Nat) : w.cell? ⟨g, j, none⟩ = cur[j]? := by
  unfold World.cell?
  simp [h]
theorem frozen_of {w : World} {g : Nat} {cur : Array Value} {e : TypeId} (h : w.heap[g]? = some (.cells cur e (0, 0))) (j : Nat) : w.frozen? ⟨g, j, none⟩ = false := by
  unfold World.frozen?
  simp [h]

theorem owns_lt {w : World} {base : Nat} {e : TypeId} {size : Nat} {v : Value} {n : Nat} {xs : List Value} (h : w.ownsRow base e size v n xs) : ∀ g, v.ownBlock = some g → g < w.heap.size ∧ base ≤ g := by
  intro g hg
  have := h.lt g hg
  omega
theorem owns_block {w w' : World} {base : Nat} {e : TypeId} {size : Nat} {v : Value} {n : Nat} {xs : List Value} (h : w.ownsRow base e size v n xs) (hb : ∀ g, v.ownBlock = some g → w'.heap[g]? = w.heap[g]?) : w'.ownsRow base e size v n xs := by
  obtain ⟨hl, hc⟩ := h
  refine ⟨hl, ?_⟩
  rcases hc with hc | ⟨g, cap, cur, hv, hb1, hg, rest⟩
  · exact Or.inl hc
  · refine Or.inr ⟨g, cap, cur, hv, hb1, ?_, rest⟩
    rw [hb g (by rw [hv]; rfl)]
    exact hg
theorem owns_base {w : World} {base base' : Nat} {e : TypeId} {size : Nat} {v : Value} {n : Nat} {xs : List Value} (h : w.ownsRow base' e size v n xs) (hb : ∀ g, v.ownBlock = some g → base ≤ g) : w.ownsRow base e size v n xs := by
  obtain ⟨hl, hc⟩ := h
  refine ⟨hl, ?_⟩
  rcases hc with hc | ⟨g, cap, cur, hv, hb1, rest⟩
  · exact Or.inl hc
  · exact Or.inr ⟨g, cap, cur, hv, hb g (by rw [hv]; rfl), rest⟩
theorem owns_empty (w : World) (e : TypeId) (size : Nat) : (w.alloc (.cells #[] e)).ownsRow w.heap.size e size (.slice (some ⟨w.heap.size, 0, none⟩) 0 0) 0 [] := by
  refine ⟨by simp, Or.inr ⟨w.heap.size, 0, #[], rfl, Nat.le_refl _, ?_, Nat.le_refl _, Nat.zero_le _, by simp, by simp⟩⟩
  exact heap_alloc_new w _
theorem owns_form {w : World} {base : Nat} {e : TypeId} {size : Nat} {v : Value} {n : Nat} {xs : List Value} (h : w.ownsRow base e size v n xs) : ∃ o cap, v = .slice o n cap := by
  rcases h.2 with ⟨rfl, rfl⟩ | ⟨g, cap, cur, rfl, _⟩
  · exact ⟨_, _, rfl⟩
  · exact ⟨_, _, rfl⟩
theorem owns_cell {w : World} {e n : Nat} {g : Nat} {cur : Array Value} {xs : List Value} (hg : w.heap[g]? = some (.cells cur e (0, 0))) (htk : cur.toList.take n = xs) (m : Nat) (hm : m < n) (v : Value) (hx : xs[m]? = some v) : w.cell? ⟨g, m, none⟩ = some v := by
  have h1 : cur[m]? = some v := by
    rw [← htk, List.getElem?_take, if_pos hm, Array.getElem?_toList] at hx
    exact hx
  rw [cell_of hg, h1]
/-- An owned row of Toks, read. -/
theorem toksAt_of {w : World} {base : Nat} {e : TypeId} {v : Value} {ts : List TokZ} (h : w.ownsRow base e 4 v ts.length (rowZ ts)) : ∃ o b cap, v = .slice o ts.length cap ∧ ToksAt w o b 0 ts ∧ (ts ≠ [] → v.ownBlock = some b) := by
  obtain ⟨hl, hc⟩ := h
  rcases hc with ⟨hv, h0⟩ | ⟨g, cap, cur, hv, hb, hg, hn, hcap, hsz, htk⟩
  · have hts : ts = [] := List.length_eq_zero_iff.1 h0
    subst hts
    exact ⟨none, 0, 0, hv, fun h => absurd rfl h, fun h => absurd rfl h⟩
  · refine ⟨some ⟨g, 0, none⟩, g, cap, hv, fun _ => ⟨rfl, heap_lt hg, fun i t ht => ?_⟩, fun _ => by rw [hv]; rfl⟩
    have hi : i < ts.length := (List.getElem?_eq_some_iff.1 ht).1
    have key : ∀ j, j < 4 → ∀ u, (cellsZ t)[j]? = some u → w.cell? ⟨g, i * 4 + j, none⟩ = some u := fun j hj u hu =>
      owns_cell hg htk (i * 4 + j) (by omega) u (by rw [rowZ_get ts i t ht j hj]; exact hu)
    rw [Nat.zero_add]
    exact ⟨key 0 (by omega) _ rfl, key 1 (by omega) _ rfl, key 2 (by omega) _ rfl, key 3 (by omega) _ rfl⟩

/-- What stays of the memory: the blocks of K. -/
structure Keeps (K : Nat → Prop) (w w' : World) : Prop where
  os : w'.os = w.os
  tape : w'.tape = w.tape
  output : w'.output = w.output
  size : w.heap.size ≤ w'.heap.size
  block : ∀ k, K k → w'.heap[k]? = w.heap[k]?
theorem Keeps.refl (K : Nat → Prop) (w : World) : Keeps K w w := ⟨rfl, rfl, rfl, Nat.le_refl _, fun _ _ => rfl⟩
theorem Keeps.trans {K : Nat → Prop} {a b c : World} (h : Keeps K a b) (k : Keeps K b c) : Keeps K a c :=
  ⟨k.os.trans h.os, k.tape.trans h.tape, k.output.trans h.output, Nat.le_trans h.size k.size, fun i hi => (k.block i hi).trans (h.block i hi)⟩
theorem Keeps.mono {K K' : Nat → Prop} {a b : World} (h : Keeps K a b) (hk : ∀ k, K' k → K k) : Keeps K' a b :=
  ⟨h.os, h.tape, h.output, h.size, fun i hi => h.block i (hk i hi)⟩
theorem Keeps.below {B : Nat} {a b : World} (h : Keeps (· < B) a b) : Below B a b := ⟨h.os, h.tape, h.output, h.size, h.block⟩
theorem keeps_of {B : Nat} {a b : World} {K : Nat → Prop} (h : Below B a b) (hk : ∀ k, K k → k < B) : Keeps K a b := ⟨h.os, h.tape, h.output, h.size, fun k hK => h.block k (hk k hK)⟩
theorem keeps_alloc {K : Nat → Prop} (w : World) (o : Obj) (hk : ∀ k, K k → k < w.heap.size) : Keeps K w (w.alloc o) :=
  ⟨rfl, rfl, rfl, by simp, fun k h => Below.heap_alloc w o k (hk k h)⟩
theorem keeps_grown {K : Nat → Prop} {w w' : World} {row : Option Nat} (h : w.grownBy w' row) (hk : ∀ k, K k → k < w.heap.size) (hr : ∀ k, row = some k → ¬ K k) : Keeps K w w' :=
  ⟨h.os, h.tape, h.output, h.size, fun k hK => h.block k (hk k hK) fun e => hr k e.symm hK⟩
theorem heap_set_same {w : World} {g j : Nat} {cur : Array Value} {e : TypeId} {fz : Nat × Nat} (v : Value) (h : w.heap[g]? = some (.cells cur e fz)) : (w.setCell ⟨g, j, none⟩ v).heap[g]? = some (.cells (cur.set! j v) e fz) := by
  simp [World.setCell, Array.getElem?_modify, h]
theorem heap_set_other {w : World} {g j k : Nat} (v : Value) (h : k ≠ g) : (w.setCell ⟨g, j, none⟩ v).heap[k]? = w.heap[k]? :=
  Below.heap_setCell w ⟨g, j, none⟩ v k h
theorem keeps_set {K : Nat → Prop} (w : World) (g j : Nat) (v : Value) (hk : ¬ K g) : Keeps K w (w.setCell ⟨g, j, none⟩ v) :=
  ⟨rfl, rfl, rfl, by simp, fun k h => heap_set_other v fun e => hk (e ▸ h)⟩
end Go.Proofs.Ytifambhfggodaaa

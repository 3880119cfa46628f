/- Made of Base, LA, XA. -/
import Derived.Test.YtgeckgdmkjddpaaRows
import Derived.WalkKit
import Derived.ProofKit
import Derived.WalkLawsBesides
import Derived.Lib.OthersKept
import Derived.Laws.AppendOwn
import Derived.Maps.AppendAt
import Derived.OwnWalk
import Derived.Deep.RegionWith
import Derived.Deep.Slices
import Derived.OpenShut
import Derived.ShutString
import Derived.ChangeOld
namespace Go.Proofs.Ytgeckgdmkjddpaa
open Go.RowKit
theorem hide {p : Prop} (h : p) : Hid p := h
theorem ret_bool {a b : Bool} (h : a = b) : Ending.returned (.bool a) = .returned (.bool b) := by rw [h]
end Go.Proofs.Ytgeckgdmkjddpaa
namespace Go.Proofs.Ytgeckgdmkjddpaa
open Go.RowKit


structure TokZ where
  k : Int
  s : ByteArray
  l : Int
  c : Int

def cellsZ (t : TokZ) : List Value := [.int .i64 t.k, .string t.s, .int .i64 t.l, .int .i64 t.c]
def rowZ (ts : List TokZ) : List Value := ts.flatMap cellsZ
def aggZ (t : TokZ) : Value := .agg #[.int .i64 t.k, .string t.s, .int .i64 t.l, .int .i64 t.c]
theorem rowZ_length (ts : List TokZ) : (rowZ ts).length = ts.length * 4 := by
  induction ts with
  | nil => rfl
  | cons t r ih =>
    rw [rowZ, List.flatMap_cons, List.length_append, show List.flatMap cellsZ r = rowZ r from rfl, ih, List.length_cons]
    show 4 + r.length * 4 = _
    omega
theorem rowZ_snoc (ts : List TokZ) (t : TokZ) : rowZ (ts ++ [t]) = rowZ ts ++ cellsZ t := by
  unfold rowZ
  rw [List.flatMap_append, List.flatMap_cons, List.flatMap_nil, List.append_nil]
theorem rowZ_get (ts : List TokZ) : ∀ (i : Nat) (t : TokZ), ts[i]? = some t → ∀ j, j < 4 → (rowZ ts)[i * 4 + j]? = (cellsZ t)[j]? := by
  induction ts with
  | nil => intro i t h; simp at h
  | cons x r ih =>
    intro i t h j hj
    have e : rowZ (x :: r) = cellsZ x ++ rowZ r := by unfold rowZ; rw [List.flatMap_cons]
    rw [e]
    cases i with
    | zero =>
      have : x = t := by simpa using h
      subst this
      rw [Nat.zero_mul, Nat.zero_add, List.getElem?_append_left (by show j < 4; exact hj)]
    | succ i =>
      rw [List.getElem?_append_right (by show 4 ≤ _; omega)]
      have h4 : (cellsZ x).length = 4 := rfl
      rw [h4, show (i + 1) * 4 + j - 4 = i * 4 + j by omega]
      exact ih i t (by simpa using h) j hj

/-- The four cells of a Tok at a place. -/
def TokAt (w : World) (b p : Nat) (t : TokZ) : Prop :=
  w.cell? ⟨b, p, none⟩ = some (.int .i64 t.k) ∧ w.cell? ⟨b, p + 1, none⟩ = some (.string t.s) ∧ w.cell? ⟨b, p + 2, none⟩ = some (.int .i64 t.l) ∧ w.cell? ⟨b, p + 3, none⟩ = some (.int .i64 t.c)
/-- A list of Toks in memory. -/
def ToksAt (w : World) (o : Option Addr) (b off : Nat) (ts : List TokZ) : Prop :=
  ts ≠ [] → o = some ⟨b, off, none⟩ ∧ b < w.heap.size ∧ ∀ i t, ts[i]? = some t → TokAt w b (off + i * 4) t

theorem tokAt_block {w w' : World} {b p : Nat} {t : TokZ} (h : TokAt w b p t) (hb : w'.heap[b]? = w.heap[b]?) : TokAt w' b p t := by
  obtain ⟨h0, h1, h2, h3⟩ := h
  exact ⟨(World.cell?_of_block (a := ⟨b, _, none⟩) hb).trans h0, (World.cell?_of_block (a := ⟨b, _, none⟩) hb).trans h1, (World.cell?_of_block (a := ⟨b, _, none⟩) hb).trans h2, (World.cell?_of_block (a := ⟨b, _, none⟩) hb).trans h3⟩
theorem toksAt_block {w w' : World} {o : Option Addr} {b off : Nat} {ts : List TokZ} (h : ToksAt w o b off ts) (hs : w.heap.size ≤ w'.heap.size) (hb : ts ≠ [] → w'.heap[b]? = w.heap[b]?) : ToksAt w' o b off ts := by
  intro hne
  obtain ⟨h0, h1, h2⟩ := h hne
  exact ⟨h0, Nat.lt_of_lt_of_le h1 hs, fun i t ht => tokAt_block (h2 i t ht) (hb hne)⟩
theorem toksAt_below {w w' : World} {o : Option Addr} {b off : Nat} {ts : List TokZ} {B : Nat} (h : ToksAt w o b off ts) (hb : Below B w w') (hB : ts ≠ [] → b < B) : ToksAt w' o b off ts :=
  toksAt_block h hb.size fun hne => hb.block b (hB hne)
theorem toksAt_later {w w' : World} {o : Option Addr} {b off : Nat} {ts : List TokZ} (h : ToksAt w o b off ts) (hb : Below w.heap.size w w') : ToksAt w' o b off ts :=
  toksAt_below h hb fun hne => (h hne).2.1
theorem heap_lt {w : World} {g : Nat} {o : Obj} (h : w.heap[g]? = some o) : g < w.heap.size := (Array.getElem?_eq_some_iff.1 h).1
theorem cell_of {w : World} {g : Nat} {cur : Array Value} {e : TypeId} {fz : Nat × Nat} (h : w.heap[g]? = some (.cells cur e fz)) (j : Nat) : w.cell? ⟨g, j, none⟩ = cur[j]? := by
  unfold World.cell?
  simp [h]
theorem frozen_of {w : World} {g : Nat} {cur : Array Value} {e : TypeId} (h : w.heap[g]? = some (.cells cur e (0, 0))) (j : Nat) : w.frozen? ⟨g, j, none⟩ = false := by
  unfold World.frozen?
  simp [h]

theorem owns_lt {w : World} {base : Nat} {e : TypeId} {size : Nat} {v : Value} {n : Nat} {xs : List Value} (h : w.ownsRow base e size v n xs) : ∀ g, v.ownBlock = some g → g < w.heap.size ∧ base ≤ g := by
  intro g hg
  have := h.lt g hg
  omega
theorem owns_block {w w' : World} {base : Nat} {e : TypeId} {size : Nat} {v : Value} {n : Nat} {xs : List Value} (h : w.ownsRow base e size v n xs) (hb : ∀ g, v.ownBlock = some g → w'.heap[g]? = w.heap[g]?) : w'.ownsRow base e size v n xs := by
  obtain ⟨hl, hc⟩ := h
  refine ⟨hl, ?_⟩
  rcases hc with hc | ⟨g, cap, cur, hv, hb1, hg, rest⟩
  · exact Or.inl hc
  · refine Or.inr ⟨g, cap, cur, hv, hb1, ?_, rest⟩
    rw [hb g (by rw [hv]; rfl)]
    exact hg
theorem owns_base {w : World} {base base' : Nat} {e : TypeId} {size : Nat} {v : Value} {n : Nat} {xs : List Value} (h : w.ownsRow base' e size v n xs) (hb : ∀ g, v.ownBlock = some g → base ≤ g) : w.ownsRow base e size v n xs := by
  obtain ⟨hl, hc⟩ := h
  refine ⟨hl, ?_⟩
  rcases hc with hc | ⟨g, cap, cur, hv, hb1, rest⟩
  · exact Or.inl hc
  · exact Or.inr ⟨g, cap, cur, hv, hb g (by rw [hv]; rfl), rest⟩
theorem owns_empty (w : World) (e : TypeId) (size : Nat) : (w.alloc (.cells #[] e)).ownsRow w.heap.size e size (.slice (some ⟨w.heap.size, 0, none⟩) 0 0) 0 [] := by
  refine ⟨by simp, Or.inr ⟨w.heap.size, 0, #[], rfl, Nat.le_refl _, ?_, Nat.le_refl _, Nat.zero_le _, by simp, by simp⟩⟩
  exact heap_alloc_new w _
theorem owns_form {w : World} {base : Nat} {e : TypeId} {size : Nat} {v : Value} {n : Nat} {xs : List Value} (h : w.ownsRow base e size v n xs) : ∃ o cap, v = .slice o n cap := by
  rcases h.2 with ⟨rfl, rfl⟩ | ⟨g, cap, cur, rfl, _⟩
  · exact ⟨_, _, rfl⟩
  · exact ⟨_, _, rfl⟩
theorem owns_cell {w : World} {e n : Nat} {g : Nat} {cur : Array Value} {xs : List Value} (hg : w.heap[g]? = some (.cells cur e (0, 0))) (htk : cur.toList.take n = xs) (m : Nat) (hm : m < n) (v : Value) (hx : xs[m]? = some v) : w.cell? ⟨g, m, none⟩ = some v := by
  have h1 : cur[m]? = some v := by
    rw [← htk, List.getElem?_take, if_pos hm, Array.getElem?_toList] at hx
    exact hx
  rw [cell_of hg, h1]
/-- An owned row of Toks, read. -/
theorem toksAt_of {w : World} {base : Nat} {e : TypeId} {v : Value} {ts : List TokZ} (h : w.ownsRow base e 4 v ts.length (rowZ ts)) : ∃ o b cap, v = .slice o ts.length cap ∧ ToksAt w o b 0 ts ∧ (ts ≠ [] → v.ownBlock = some b) := by
  obtain ⟨hl, hc⟩ := h
  rcases hc with ⟨hv, h0⟩ | ⟨g, cap, cur, hv, hb, hg, hn, hcap, hsz, htk⟩
  · have hts : ts = [] := List.length_eq_zero_iff.1 h0
    subst hts
    exact ⟨none, 0, 0, hv, fun h => absurd rfl h, fun h => absurd rfl h⟩
  · refine ⟨some ⟨g, 0, none⟩, g, cap, hv, fun _ => ⟨rfl, heap_lt hg, fun i t ht => ?_⟩, fun _ => by rw [hv]; rfl⟩
    have hi : i < ts.length := (List.getElem?_eq_some_iff.1 ht).1
    have key : ∀ j, j < 4 → ∀ u, (cellsZ t)[j]? = some u → w.cell? ⟨g, i * 4 + j, none⟩ = some u := fun j hj u hu =>
      owns_cell hg htk (i * 4 + j) (by omega) u (by rw [rowZ_get ts i t ht j hj]; exact hu)
    rw [Nat.zero_add]
    exact ⟨key 0 (by omega) _ rfl, key 1 (by omega) _ rfl, key 2 (by omega) _ rfl, key 3 (by omega) _ rfl⟩

/-- What stays of the memory: the blocks of K. -/
structure Keeps (K : Nat → Prop) (w w' : World) : Prop where
  os : w'.os = w.os
  tape : w'.tape = w.tape
  output : w'.output = w.output
  size : w.heap.size ≤ w'.heap.size
  block : ∀ k, K k → w'.heap[k]? = w.heap[k]?
theorem Keeps.refl (K : Nat → Prop) (w : World) : Keeps K w w := ⟨rfl, rfl, rfl, Nat.le_refl _, fun _ _ => rfl⟩
theorem Keeps.trans {K : Nat → Prop} {a b c : World} (h : Keeps K a b) (k : Keeps K b c) : Keeps K a c :=
  ⟨k.os.trans h.os, k.tape.trans h.tape, k.output.trans h.output, Nat.le_trans h.size k.size, fun i hi => (k.block i hi).trans (h.block i hi)⟩
theorem Keeps.mono {K K' : Nat → Prop} {a b : World} (h : Keeps K a b) (hk : ∀ k, K' k → K k) : Keeps K' a b :=
  ⟨h.os, h.tape, h.output, h.size, fun i hi => h.block i (hk i hi)⟩
theorem Keeps.below {B : Nat} {a b : World} (h : Keeps (· < B) a b) : Below B a b := ⟨h.os, h.tape, h.output, h.size, h.block⟩
theorem keeps_of {B : Nat} {a b : World} {K : Nat → Prop} (h : Below B a b) (hk : ∀ k, K k → k < B) : Keeps K a b := ⟨h.os, h.tape, h.output, h.size, fun k hK => h.block k (hk k hK)⟩
theorem keeps_alloc {K : Nat → Prop} (w : World) (o : Obj) (hk : ∀ k, K k → k < w.heap.size) : Keeps K w (w.alloc o) :=
  ⟨rfl, rfl, rfl, by simp, fun k h => Below.heap_alloc w o k (hk k h)⟩
theorem keeps_grown {K : Nat → Prop} {w w' : World} {row : Option Nat} (h : w.grownBy w' row) (hk : ∀ k, K k → k < w.heap.size) (hr : ∀ k, row = some k → ¬ K k) : Keeps K w w' :=
  ⟨h.os, h.tape, h.output, h.size, fun k hK => h.block k (hk k hK) fun e => hr k e.symm hK⟩
theorem heap_set_same {w : World} {g j : Nat} {cur : Array Value} {e : TypeId} {fz : Nat × Nat} (v : Value) (h : w.heap[g]? = some (.cells cur e fz)) : (w.setCell ⟨g, j, none⟩ v).heap[g]? = some (.cells (cur.set! j v) e fz) := by
  simp [World.setCell, Array.getElem?_modify, h]
theorem heap_set_other {w : World} {g j k : Nat} (v : Value) (h : k ≠ g) : (w.setCell ⟨g, j, none⟩ v).heap[k]? = w.heap[k]? :=
  Below.heap_setCell w ⟨g, j, none⟩ v k h
theorem keeps_set {K : Nat → Prop} (w : World) (g j : Nat) (v : Value) (hk : ¬ K g) : Keeps K w (w.setCell ⟨g, j, none⟩ v) :=
  ⟨rfl, rfl, rfl, by simp, fun k h => heap_set_other v fun e => hk (e ▸ h)⟩
end Go.Proofs.Ytgeckgdmkjddpaa
namespace Go.Proofs.Ytgeckgdmkjddpaa
open Go.ChangeShapes Go.WideShapes Go.ChangeAt Go.RowKit

/-- One kind of tree for all: an expression (k, s, n, l, ds, al), a definition (s its name, ss its names, l its body, ds what is behind), an alternative (s its great name, ss its names, l its body). -/
structure Tr where
  k : Int
  s : ByteArray
  n : Int
  ss : List ByteArray
  l : List Tr
  ds : List Tr
  al : List Tr

/-- A row of elements of some cells each, in a block of K: R says of each element's cells what it is. -/
def RowOf {α : Type} (K : Nat → Prop) (w : World) (R : α → List Value → Prop) (size : Nat) (o : Option Addr) (xs : List α) : Prop :=
  xs ≠ [] → ∃ b off, o = some ⟨b, off, none⟩ ∧ K b ∧ b < w.heap.size ∧ ∀ i x, xs[i]? = some x → ∃ cs, cs.length = size ∧ (∀ j u, cs[j]? = some u → w.cell? ⟨b, off + i * size + j, none⟩ = some u) ∧ R x cs
/-- What was in the blocks of K is there still. -/
structure Stays (K : Nat → Prop) (w w' : World) : Prop where
  size : w.heap.size ≤ w'.heap.size
  block : ∀ b, K b → b < w.heap.size → w'.heap[b]? = w.heap[b]?
theorem Stays.of {K : Nat → Prop} {w w' : World} (hb : Below w.heap.size w w') : Stays K w w' := ⟨hb.size, fun b _ h => hb.block b h⟩
theorem Stays.trans {K : Nat → Prop} {a b c : World} (h : Stays K a b) (k : Stays K b c) : Stays K a c := ⟨Nat.le_trans h.size k.size, fun x hx hl => (k.block x hx (Nat.lt_of_lt_of_le hl h.size)).trans (h.block x hx hl)⟩
theorem stays_set (K : Nat → Prop) (w : World) (g j : Nat) (v : Value) (hg : ¬ K g) : Stays K w (w.setCell ⟨g, j, none⟩ v) := ⟨by simp, fun b hb _ => heap_set_other v fun e => hg (e ▸ hb)⟩
theorem RowOf.frame {α : Type} {K K' : Nat → Prop} {w w' : World} {R R' : α → List Value → Prop} {size : Nat} {o : Option Addr} {xs : List α} (h : RowOf K w R size o xs) (hb : Stays K w w') (hK : ∀ b, K b → K' b) (hR : ∀ x cs, R x cs → R' x cs) : RowOf K' w' R' size o xs := by
  intro hne
  obtain ⟨b, off, ho, hk, hlt, hc⟩ := h hne
  refine ⟨b, off, ho, hK b hk, Nat.lt_of_lt_of_le hlt hb.size, fun i x hx => ?_⟩
  obtain ⟨cs, h1, h2, h3⟩ := hc i x hx
  exact ⟨cs, h1, fun j u hu => (World.cell?_of_block (a := ⟨b, _, none⟩) (hb.block b hk hlt)).trans (h2 j u hu), hR x cs h3⟩
def strR (s : ByteArray) (cs : List Value) : Prop := cs = [.string s] ∧ s.size ≤ maxLen

/-- A length that is one, and within its room. -/
def Fits (n c : Nat) : Prop := n ≤ maxLen ∧ n ≤ c

/-- Which cells are which tree, up to a height. -/
structure Reads where
  ex : Tr → List Value → Prop
  de : Tr → List Value → Prop
  al : Tr → List Value → Prop
def reads (K : Nat → Prop) (w : World) : Nat → Reads
  | 0 => ⟨fun _ _ => False, fun _ _ => False, fun _ _ => False⟩
  | h + 1 =>
    let p := reads K w h
    ⟨fun e cs => e.ss = [] ∧ ∃ o1 c1 o2 c2 o3 c3, cs = [.int .i64 e.k, .string e.s, .int .i64 e.n, .slice o1 e.l.length c1, .slice o2 e.ds.length c2, .slice o3 e.al.length c3] ∧ e.s.size ≤ maxLen ∧ Fits e.l.length c1 ∧ Fits e.ds.length c2 ∧ Fits e.al.length c3 ∧ RowOf K w p.ex 6 o1 e.l ∧ RowOf K w p.de 9 o2 e.ds ∧ RowOf K w p.al 8 o3 e.al,
     fun d cs => d.k = 0 ∧ d.n = 0 ∧ d.al = [] ∧ ∃ e o1 c1 ce o2 c2, d.l = [e] ∧ cs = [.string d.s, .slice o1 d.ss.length c1] ++ ce ++ [.slice o2 d.ds.length c2] ∧ d.s.size ≤ maxLen ∧ Fits d.ss.length c1 ∧ Fits d.ds.length c2 ∧ RowOf K w strR 1 o1 d.ss ∧ ce.length = 6 ∧ p.ex e ce ∧ RowOf K w p.de 9 o2 d.ds,
     fun a cs => a.k = 0 ∧ a.n = 0 ∧ a.ds = [] ∧ a.al = [] ∧ ∃ e o1 c1 ce, a.l = [e] ∧ cs = [.string a.s, .slice o1 a.ss.length c1] ++ ce ∧ a.s.size ≤ maxLen ∧ Fits a.ss.length c1 ∧ RowOf K w strR 1 o1 a.ss ∧ ce.length = 6 ∧ p.ex e ce⟩

theorem reads_frame {K K' : Nat → Prop} {w w' : World} (hb : Stays K w w') (hK : ∀ b, K b → K' b) : ∀ h, (∀ e cs, (reads K w h).ex e cs → (reads K' w' h).ex e cs) ∧ (∀ d cs, (reads K w h).de d cs → (reads K' w' h).de d cs) ∧ (∀ a cs, (reads K w h).al a cs → (reads K' w' h).al a cs) := by
  intro h
  induction h with
  | zero => exact ⟨fun _ _ h => h, fun _ _ h => h, fun _ _ h => h⟩
  | succ h ih =>
    obtain ⟨ih1, ih2, ih3⟩ := ih
    refine ⟨fun e cs he => ?_, fun d cs hd => ?_, fun a cs ha => ?_⟩
    · obtain ⟨e0, o1, c1, o2, c2, o3, c3, e1, e2, e3, e4, e5, r1, r2, r3⟩ := he
      exact ⟨e0, o1, c1, o2, c2, o3, c3, e1, e2, e3, e4, e5, r1.frame hb hK ih1, r2.frame hb hK ih2, r3.frame hb hK ih3⟩
    · obtain ⟨d0, d1, d2, e, o1, c1, ce, o2, c2, e0, e1, e2, e3, e4, r1, e5, r2, r3⟩ := hd
      exact ⟨d0, d1, d2, e, o1, c1, ce, o2, c2, e0, e1, e2, e3, e4, r1.frame hb hK (fun _ _ h => h), e5, ih1 _ _ r2, r3.frame hb hK ih2⟩
    · obtain ⟨a0, a1, a2, a3, e, o1, c1, ce, e0, e1, e2, e3, r1, e4, r2⟩ := ha
      exact ⟨a0, a1, a2, a3, e, o1, c1, ce, e0, e1, e2, e3, r1.frame hb hK (fun _ _ h => h), e4, ih1 _ _ r2⟩
theorem RowOf.later {α : Type} {K : Nat → Prop} {w w' : World} {R R' : α → List Value → Prop} {size : Nat} {o : Option Addr} {xs : List α} (h : RowOf K w R size o xs) (hb : Below w.heap.size w w') (hR : ∀ x cs, R x cs → R' x cs) : RowOf K w' R' size o xs :=
  h.frame (Stays.of hb) (fun _ h => h) hR
theorem reads_later {K : Nat → Prop} {w w' : World} (hb : Below w.heap.size w w') (h : Nat) : (∀ e cs, (reads K w h).ex e cs → (reads K w' h).ex e cs) ∧ (∀ d cs, (reads K w h).de d cs → (reads K w' h).de d cs) ∧ (∀ a cs, (reads K w h).al a cs → (reads K w' h).al a cs) :=
  reads_frame (Stays.of hb) (fun _ h => h) h

theorem list_of2 {α : Type} {n : Nat} {p : Nat → α → Prop} (h : ∀ i, i < n → ∃ x, p i x) : ∃ l : List α, l.length = n ∧ ∀ i x, l[i]? = some x → p i x := by
  induction n with
  | zero => exact ⟨[], rfl, fun i x h => by simp at h⟩
  | succ n ih =>
    obtain ⟨l, hl, hp⟩ := ih fun i hi => h i (Nat.lt_succ_of_lt hi)
    obtain ⟨x, hx⟩ := h n (Nat.lt_succ_self n)
    refine ⟨l ++ [x], by rw [List.length_append, hl]; rfl, fun i y hy => ?_⟩
    by_cases hi : i < l.length
    · rw [List.getElem?_append_left hi] at hy
      exact hp i y hy
    · rw [List.getElem?_append_right (by omega)] at hy
      have hi2 : i - l.length = 0 := by
        have := (List.getElem?_eq_some_iff.1 hy).1
        simp at this
        omega
      rw [hi2] at hy
      have : x = y := by simpa using hy
      subst this
      rw [show i = n by omega]
      exact hx

/-- A slice opened, its elements by what is known of those of less fuel. -/
theorem open_row {H : Type} {enc : TypeId × Value → H} {w : World} {base : Nat} {spare : Nat → Bool} {held : Bool} {α : Type} {R : α → List Value → Prop} {t e : TypeId} {size fuel : Nat} {cs : List Value} {x : DataW H × List MemPlace} (ht : Try.prog.underlying t = some (.slice e)) (hc : Try.prog.cellsOf e = size) (hs : 0 < size)
    (hR : ∀ n, n < fuel → ∀ cs x, DataW.trod enc Try.prog w base spare held n e cs = some x → ∃ y, R y cs) (h : DataW.trod enc Try.prog w base spare held fuel t cs = some x) :
    ∃ (o : Option Addr) (ys : List α) (cap : Nat), cs = [.slice o ys.length cap] ∧ Fits ys.length cap ∧ RowOf (fun _ => True) w R size o ys := by
  rcases DataW.trod_slice ht h with ⟨rfl, _⟩ | ⟨a, len, cap, elems, rest, n, hfu, rfl, _, _, hl, hm, hlen, hel, _, _⟩
  · exact ⟨none, [], 0, rfl, ⟨Nat.zero_le _, Nat.zero_le _⟩, fun h => absurd rfl h⟩
  · rw [hc] at hel
    have each : ∀ i, i < len → ∃ cs' y, w.cells? base (a.add (i * size)) size = some cs' ∧ R y cs' := fun i hi => by
      have key := hel i hi
      rw [List.getElem?_eq_getElem (by omega)] at key
      obtain ⟨cs', h1, h2⟩ := Option.bind_eq_some_iff.1 key
      obtain ⟨y, hy⟩ := hR n (by omega) _ _ h2
      exact ⟨cs', y, h1, hy⟩
    by_cases h0 : len = 0
    · subst h0
      exact ⟨some a, [], cap, rfl, ⟨Nat.zero_le _, Nat.zero_le _⟩, fun h => absurd rfl h⟩
    obtain ⟨b, off, spot⟩ := a
    obtain rfl : spot = none := by
      obtain ⟨cs', y, h1, _⟩ := each 0 (by omega)
      obtain ⟨-, hln, hcell⟩ := World.cells?_some h1
      have hc0 := hcell 0 hs
      rw [List.getElem?_eq_getElem (by omega)] at hc0
      simpa [Addr.add] using World.cell?_spot hc0
    obtain ⟨ys, hys, hp⟩ := list_of2 (α := α) (n := len) (p := fun i y => (∃ cs', cs'.length = size ∧ (∀ j u, cs'[j]? = some u → w.cell? ⟨b, off + i * size + j, none⟩ = some u) ∧ R y cs') ∧ b < w.heap.size) (fun i hi => by
      obtain ⟨cs', y, h1, hy⟩ := each i hi
      obtain ⟨-, hln, hcell⟩ := World.cells?_some h1
      have hadd : ∀ j, ((⟨b, off, none⟩ : Addr).add (i * size)).add j = ⟨b, off + i * size + j, none⟩ := by
        intro j
        rw [Go.Deep.add_add]
        by_cases hj : i * size + j = 0
        · simp [Addr.add, hj]
          omega
        · have hj2 : ¬ (i * size = 0 ∧ j = 0) := by omega
          unfold Addr.add
          rw [if_neg hj, Nat.add_assoc]
      have key : ∀ j u, cs'[j]? = some u → w.cell? ⟨b, off + i * size + j, none⟩ = some u := fun j u hu => by
        have hj : j < size := by rw [← hln]; exact (List.getElem?_eq_some_iff.1 hu).1
        have := hcell j hj
        rw [hadd, hu] at this
        exact this
      have k0 := key 0 (cs'[0]'(by omega)) (List.getElem?_eq_getElem _)
      exact ⟨y, ⟨cs', hln, key, hy⟩, World.block_lt_of_cell? w _ k0⟩)
    refine ⟨some ⟨b, off, none⟩, ys, cap, by rw [hys], ⟨by rw [hys]; omega, by rw [hys]; omega⟩, fun hne => ⟨b, off, rfl, trivial, ?_, fun i y hy => (hp i y hy).1⟩⟩
    exact (hp 0 (ys[0]'(by omega)) (List.getElem?_eq_getElem _)).2

theorem six {l : List Value} (h : l.length = 6) : ∃ a b c d e f, l = [a, b, c, d, e, f] := by
  match l, h with
  | [a, b, c, d, e, f], _ => exact ⟨a, b, c, d, e, f, rfl⟩
theorem eight {l : List Value} (h : l.length = 8) : ∃ x y a b c d e f, l = [x, y, a, b, c, d, e, f] := by
  match l, h with
  | [x, y, a, b, c, d, e, f], _ => exact ⟨x, y, a, b, c, d, e, f, rfl⟩
theorem nine {l : List Value} (h : l.length = 9) : ∃ x y a b c d e f z, l = [x, y, a, b, c, d, e, f, z] := by
  match l, h with
  | [x, y, a, b, c, d, e, f, z], _ => exact ⟨x, y, a, b, c, d, e, f, z, rfl⟩
theorem cells_int : Try.prog.cellsOf 3 = 1 := by kernel_rfl
theorem cells_string : Try.prog.cellsOf 9 = 1 := by kernel_rfl
theorem cells_exp : Try.prog.cellsOf 26 = 6 := by kernel_rfl
theorem cells_dec : Try.prog.cellsOf 40 = 9 := by kernel_rfl
theorem cells_alt : Try.prog.cellsOf 102 = 8 := by kernel_rfl
theorem cells_exps : Try.prog.cellsOf 22 = 1 := by kernel_rfl
theorem cells_decs : Try.prog.cellsOf 23 = 1 := by kernel_rfl
theorem cells_alts : Try.prog.cellsOf 24 = 1 := by kernel_rfl
theorem cells_strs : Try.prog.cellsOf 38 = 1 := by kernel_rfl
theorem open_strs {H : Type} {enc : TypeId × Value → H} {w : World} {base : Nat} {spare : Nat → Bool} {held : Bool} {fuel : Nat} {cs : List Value} {x : DataW H × List MemPlace} (h : DataW.trod enc Try.prog w base spare held fuel 38 cs = some x) :
    ∃ (o : Option Addr) (ys : List ByteArray) (cap : Nat), cs = [.slice o ys.length cap] ∧ Fits ys.length cap ∧ RowOf (fun _ => True) w strR 1 o ys :=
  open_row Try.underlying38 cells_string (by decide) (fun n _ cs x hx => by
    obtain ⟨s, h1, -, h2⟩ := DataW.trod_string Try.underlying9 hx
    exact ⟨s, h1, h2⟩) h

/-- What comes in of the three kinds, opened. -/
theorem open_tree {H : Type} {enc : TypeId × Value → H} {w : World} {base : Nat} {spare : Nat → Bool} {held : Bool} : ∀ fuel,
    (∀ n, n ≤ fuel → ∀ cs (x : DataW H × List MemPlace), DataW.trod enc Try.prog w base spare held n 26 cs = some x → ∃ y, (reads (fun _ => True) w fuel).ex y cs) ∧
    (∀ n, n ≤ fuel → ∀ cs (x : DataW H × List MemPlace), DataW.trod enc Try.prog w base spare held n 40 cs = some x → ∃ y, (reads (fun _ => True) w fuel).de y cs) ∧
    (∀ n, n ≤ fuel → ∀ cs (x : DataW H × List MemPlace), DataW.trod enc Try.prog w base spare held n 102 cs = some x → ∃ y, (reads (fun _ => True) w fuel).al y cs) := by
  intro fuel
  induction fuel with
  | zero =>
    refine ⟨fun n hn cs x h => ?_, fun n hn cs x h => ?_, fun n hn cs x h => ?_⟩
    all_goals
      have : n = 0 := by omega
      subst this
      simp [DataW.trod] at h
  | succ fuel ih =>
    obtain ⟨ih1, ih2, ih3⟩ := ih
    refine ⟨fun n hn cs x h => ?_, fun n hn cs x h => ?_, fun n hn cs x h => ?_⟩
    · obtain ⟨xs, n', hn', -, hlen, hxl, hf⟩ := DataW.trod_struct Try.underlying26 h
      rw [cells_exp] at hlen
      obtain ⟨v0, v1, v2, v3, v4, v5, rfl⟩ := six hlen
      have hx : ∀ i, i < 6 → ∃ y, xs[i]? = some y := fun i hi => ⟨xs[i]'(by rw [hxl]; exact hi), List.getElem?_eq_getElem _⟩
      obtain ⟨y0, e0⟩ := hx 0 (by omega)
      obtain ⟨y1, e1⟩ := hx 1 (by omega)
      obtain ⟨y2, e2⟩ := hx 2 (by omega)
      obtain ⟨y3, e3⟩ := hx 3 (by omega)
      obtain ⟨y4, e4⟩ := hx 4 (by omega)
      obtain ⟨y5, e5⟩ := hx 5 (by omega)
      have k0 : DataW.trod enc Try.prog w base spare held n' 3 ([v0, v1, v2, v3, v4, v5].take (Try.prog.cellsOf 3)) = some y0 := by have g := hf 0 _ rfl; rw [e0] at g; exact g
      have k1 : DataW.trod enc Try.prog w base spare held n' 9 ([v1, v2, v3, v4, v5].take (Try.prog.cellsOf 9)) = some y1 := by have g := hf 1 _ rfl; rw [e1] at g; exact g
      have k2 : DataW.trod enc Try.prog w base spare held n' 3 ([v2, v3, v4, v5].take (Try.prog.cellsOf 3)) = some y2 := by have g := hf 2 _ rfl; rw [e2] at g; exact g
      have k3 : DataW.trod enc Try.prog w base spare held n' 22 ([v3, v4, v5].take (Try.prog.cellsOf 22)) = some y3 := by have g := hf 3 _ rfl; rw [e3] at g; exact g
      have k4 : DataW.trod enc Try.prog w base spare held n' 23 ([v4, v5].take (Try.prog.cellsOf 23)) = some y4 := by have g := hf 4 _ rfl; rw [e4] at g; exact g
      have k5 : DataW.trod enc Try.prog w base spare held n' 24 ([v5].take (Try.prog.cellsOf 24)) = some y5 := by have g := hf 5 _ rfl; rw [e5] at g; exact g
      rw [cells_int] at k0 k2
      rw [cells_string] at k1
      rw [cells_exps] at k3
      rw [cells_decs] at k4
      rw [cells_alts] at k5
      obtain ⟨z0, h0, -, -⟩ := DataW.trod_int Try.underlying3 k0
      obtain ⟨s1, h1, -, hs⟩ := DataW.trod_string Try.underlying9 k1
      obtain ⟨z2, h2, -, -⟩ := DataW.trod_int Try.underlying3 k2
      obtain ⟨o3, l3, c3, h3, m3, r3⟩ := open_row Try.underlying22 cells_exp (by decide) (fun m hm => ih1 m (by omega)) k3
      obtain ⟨o4, l4, c4, h4, m4, r4⟩ := open_row Try.underlying23 cells_dec (by decide) (fun m hm => ih2 m (by omega)) k4
      obtain ⟨o5, l5, c5, h5, m5, r5⟩ := open_row Try.underlying24 cells_alt (by decide) (fun m hm => ih3 m (by omega)) k5
      simp at h0 h1 h2 h3 h4 h5
      subst h0 h1 h2 h3 h4 h5
      exact ⟨⟨z0, s1, z2, [], l3, l4, l5⟩, rfl, o3, c3, o4, c4, o5, c5, rfl, hs, m3, m4, m5, r3, r4, r5⟩
    · obtain ⟨xs, n', hn', -, hlen, hxl, hf⟩ := DataW.trod_struct Try.underlying40 h
      rw [cells_dec] at hlen
      obtain ⟨v0, v1, a0, a1, a2, a3, a4, a5, v3, rfl⟩ := nine hlen
      have hx : ∀ i, i < 4 → ∃ y, xs[i]? = some y := fun i hi => ⟨xs[i]'(by rw [hxl]; exact hi), List.getElem?_eq_getElem _⟩
      obtain ⟨y0, e0⟩ := hx 0 (by omega)
      obtain ⟨y1, e1⟩ := hx 1 (by omega)
      obtain ⟨y2, e2⟩ := hx 2 (by omega)
      obtain ⟨y3, e3⟩ := hx 3 (by omega)
      have k0 : DataW.trod enc Try.prog w base spare held n' 9 ([v0, v1, a0, a1, a2, a3, a4, a5, v3].take (Try.prog.cellsOf 9)) = some y0 := by have g := hf 0 _ rfl; rw [e0] at g; exact g
      have k1 : DataW.trod enc Try.prog w base spare held n' 38 ([v1, a0, a1, a2, a3, a4, a5, v3].take (Try.prog.cellsOf 38)) = some y1 := by have g := hf 1 _ rfl; rw [e1] at g; exact g
      have k2 : DataW.trod enc Try.prog w base spare held n' 26 ([a0, a1, a2, a3, a4, a5, v3].take (Try.prog.cellsOf 26)) = some y2 := by have g := hf 2 _ rfl; rw [e2] at g; exact g
      have k3 : DataW.trod enc Try.prog w base spare held n' 23 ([v3].take (Try.prog.cellsOf 23)) = some y3 := by have g := hf 3 _ rfl; rw [e3] at g; exact g
      rw [cells_string] at k0
      rw [cells_strs] at k1
      rw [cells_exp] at k2
      rw [cells_decs] at k3
      obtain ⟨s0, h0, -, hs⟩ := DataW.trod_string Try.underlying9 k0
      obtain ⟨o1, l1, c1, h1, m1, r1⟩ := open_strs k1
      obtain ⟨ye, he⟩ := ih1 n' (by omega) _ _ k2
      obtain ⟨o3, l3, c3, h3, m3, r3⟩ := open_row Try.underlying23 cells_dec (by decide) (fun m hm => ih2 m (by omega)) k3
      simp at h0 h1 h3
      subst h0 h1 h3
      exact ⟨⟨0, s0, 0, l1, [ye], l3, []⟩, rfl, rfl, rfl, ye, o1, c1, [a0, a1, a2, a3, a4, a5], o3, c3, rfl, rfl, hs, m1, m3, r1, rfl, he, r3⟩
    · obtain ⟨xs, n', hn', -, hlen, hxl, hf⟩ := DataW.trod_struct Try.underlying102 h
      rw [cells_alt] at hlen
      obtain ⟨v0, v1, a0, a1, a2, a3, a4, a5, rfl⟩ := eight hlen
      have hx : ∀ i, i < 3 → ∃ y, xs[i]? = some y := fun i hi => ⟨xs[i]'(by rw [hxl]; exact hi), List.getElem?_eq_getElem _⟩
      obtain ⟨y0, e0⟩ := hx 0 (by omega)
      obtain ⟨y1, e1⟩ := hx 1 (by omega)
      obtain ⟨y2, e2⟩ := hx 2 (by omega)
      have k0 : DataW.trod enc Try.prog w base spare held n' 9 ([v0, v1, a0, a1, a2, a3, a4, a5].take (Try.prog.cellsOf 9)) = some y0 := by have g := hf 0 _ rfl; rw [e0] at g; exact g
      have k1 : DataW.trod enc Try.prog w base spare held n' 38 ([v1, a0, a1, a2, a3, a4, a5].take (Try.prog.cellsOf 38)) = some y1 := by have g := hf 1 _ rfl; rw [e1] at g; exact g
      have k2 : DataW.trod enc Try.prog w base spare held n' 26 ([a0, a1, a2, a3, a4, a5].take (Try.prog.cellsOf 26)) = some y2 := by have g := hf 2 _ rfl; rw [e2] at g; exact g
      rw [cells_string] at k0
      rw [cells_strs] at k1
      rw [cells_exp] at k2
      obtain ⟨s0, h0, -, hs⟩ := DataW.trod_string Try.underlying9 k0
      obtain ⟨o1, l1, c1, h1, m1, r1⟩ := open_strs k1
      obtain ⟨ye, he⟩ := ih1 n' (by omega) _ _ k2
      simp at h0 h1
      subst h0 h1
      exact ⟨⟨0, s0, 0, l1, [ye], [], []⟩, rfl, rfl, rfl, rfl, ye, o1, c1, [a0, a1, a2, a3, a4, a5], rfl, rfl, hs, m1, r1, rfl, he⟩
end Go.Proofs.Ytgeckgdmkjddpaa

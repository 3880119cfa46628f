/- Programs as trees, in memory; a tree that comes in, opened. -/
import Derived.Test.YtifambhfggodaaaLA
import Derived.Deep.Slices
import Derived.OpenShut
import Derived.ShutString
import Derived.ChangeOld
namespace Go.Proofs.Ytifambhfggodaaa
open Go.ChangeShapes Go.WideShapes Go.ChangeAt Go.RowKit

/-- One kind of tree for all: an expression (k, s, n, l, ds, al), a definition (s its name, ss its names, l its body, ds what is behind), an alternative (s its great name, ss its names, l its body). -/
structure Tr where
  k : Int
  s : ByteArray
  n : Int
  ss : List ByteArray
  l : List Tr
  ds : List Tr
  al : List Tr

/-- A row of elements of some cells each, in a block of K: R says of each element's cells what it is. -/
def RowOf {α : Type} (K : Nat → Prop) (w : World) (R : α → List Value → Prop) (size : Nat) (o : Option Addr) (xs : List α) : Prop :=
  xs ≠ [] → ∃ b off, o = some ⟨b, off, none⟩ ∧ K b ∧ b < w.heap.size ∧ ∀ i x, xs[i]? = some x → ∃ cs, cs.length = size ∧ (∀ j u, cs[j]? = some u → w.cell? ⟨b, off + i * size + j, none⟩ = some u) ∧ R x cs
/-- What was in the blocks of K is there still. -/
structure Stays (K : Nat → Prop) (w w' : World) : Prop where
  size : w.heap.size ≤ w'.heap.size
  block : ∀ b, K b → b < w.heap.size → w'.heap[b]? = w.heap[b]?
theorem Stays.of {K : Nat → Prop} {w w' : World} (hb : Below w.heap.size w w') : Stays K w w' := ⟨hb.size, fun b _ h => hb.block b h⟩
theorem Stays.trans {K : Nat → Prop} {a b c : World} (h : Stays K a b) (k : Stays K b c) : Stays K a c := ⟨Nat.le_trans h.size k.size, fun x hx hl => (k.block x hx (Nat.lt_of_lt_of_le hl h.size)).trans (h.block x hx hl)⟩
theorem stays_set (K : Nat → Prop) (w : World) (g j : Nat) (v : Value) (hg : ¬ K g) : Stays K w (w.setCell ⟨g, j, none⟩ v) := ⟨by simp, fun b hb _ => heap_set_other v fun e => hg (e ▸ hb)⟩
theorem RowOf.frame {α : Type} {K K' : Nat → Prop} {w w' : World} {R R' : α → List Value → Prop} {size : Nat} {o : Option Addr} {xs : List α} (h : RowOf K w R size o xs) (hb : Stays K w w') (hK : ∀ b, K b → K' b) (hR : ∀ x cs, R x cs → R' x cs) : RowOf K' w' R' size o xs := by
  intro hne
  obtain ⟨b, off, ho, hk, hlt, hc⟩ := h hne
  refine ⟨b, off, ho, hK b hk, Nat.lt_of_lt_of_le hlt hb.size, fun i x hx => ?_⟩
  obtain ⟨cs, h1, h2, h3⟩ := hc i x hx
  exact ⟨cs, h1, fun j u hu => (World.cell?_of_block (a := ⟨b, _, none⟩) (hb.block b hk hlt)).trans (h2 j u hu), hR x cs h3⟩
def strR (s : ByteArray) (cs : List Value) : Prop := cs = [.string s] ∧ s.size ≤ maxLen

/-- A length that is one, and within its room. -/
def Fits (n c : Nat) : Prop := n ≤ maxLen ∧ n ≤ c

/-- Which cells are which tree, up to a height. -/
structure Reads where
  ex : Tr → List Value → Prop
  de : Tr → List Value → Prop
  al : Tr → List Value → Prop
def reads (K : Nat → Prop) (w : World) : Nat → Reads
  | 0 => ⟨fun _ _ => False, fun _ _ => False, fun _ _ => False⟩
  | h + 1 =>
    let p := reads K w h
    ⟨fun e cs => e.ss = [] ∧ ∃ o1 c1 o2 c2 o3 c3, cs = [.int .i64 e.k, .string e.s, .int .i64 e.n, .slice o1 e.l.length c1, .slice o2 e.ds.length c2, .slice o3 e.al.length c3] ∧ e.s.size ≤ maxLen ∧ Fits e.l.length c1 ∧ Fits e.ds.length c2 ∧ Fits e.al.length c3 ∧ RowOf K w p.ex 6 o1 e.l ∧ RowOf K w p.de 9 o2 e.ds ∧ RowOf K w p.al 8 o3 e.al,
     fun d cs => d.k = 0 ∧ d.n = 0 ∧ d.al = [] ∧ ∃ e o1 c1 ce o2 c2, d.l = [e] ∧ cs = [.string d.s, .slice o1 d.ss.length c1] ++ ce ++ [.slice o2 d.ds.length c2] ∧ d.s.size ≤ maxLen ∧ Fits d.ss.length c1 ∧ Fits d.ds.length c2 ∧ RowOf K w strR 1 o1 d.ss ∧ ce.length = 6 ∧ p.ex e ce ∧ RowOf K w p.de 9 o2 d.ds,
     fun a cs => a.k = 0 ∧ a.n = 0 ∧ a.ds = [] ∧ a.al = [] ∧ ∃ e o1 c1 ce, a.l = [e] ∧ cs = [.string a.s, .slice o1 a.ss.length c1] ++ ce ∧ a.s.size ≤ maxLen ∧ Fits a.ss.length c1 ∧ RowOf K w strR 1 o1 a.ss ∧ ce.length = 6 ∧ p.ex e ce⟩

theorem reads_frame {K K' : Nat → Prop} {w w' : World} (hb : Stays K w w') (hK : ∀ b, K b → K' b) : ∀ h, (∀ e cs, (reads K w h).ex e cs → (reads K' w' h).ex e cs) ∧ (∀ d cs, (reads K w h).de d cs → (reads K' w' h).de d cs) ∧ (∀ a cs, (reads K w h).al a cs → (reads K' w' h).al a cs) := by
  intro h
  induction h with
  | zero => exact ⟨fun _ _ h => h, fun _ _ h => h, fun _ _ h => h⟩
  | succ h ih =>
    obtain ⟨ih1, ih2, ih3⟩ := ih
    refine ⟨fun e cs he => ?_, fun d cs hd => ?_, fun a cs ha => ?_⟩
    · obtain ⟨e0, o1, c1, o2, c2, o3, c3, e1, e2, e3, e4, e5, r1, r2, r3⟩ := he
      exact ⟨e0, o1, c1, o2, c2, o3, c3, e1, e2, e3, e4, e5, r1.frame hb hK ih1, r2.frame hb hK ih2, r3.frame hb hK ih3⟩
    · obtain ⟨d0, d1, d2, e, o1, c1, ce, o2, c2, e0, e1, e2, e3, e4, r1, e5, r2, r3⟩ := hd
      exact ⟨d0, d1, d2, e, o1, c1, ce, o2, c2, e0, e1, e2, e3, e4, r1.frame hb hK (fun _ _ h => h), e5, ih1 _ _ r2, r3.frame hb hK ih2⟩
    · obtain ⟨a0, a1, a2, a3, e, o1, c1, ce, e0, e1, e2, e3, r1, e4, r2⟩ := ha
      exact ⟨a0, a1, a2, a3, e, o1, c1, ce, e0, e1, e2, e3, r1.frame hb hK (fun _ _ h => h), e4, ih1 _ _ r2⟩
theorem RowOf.later {α : Type} {K : Nat → Prop} {w w' : World} {R R' : α → List Value → Prop} {size : Nat} {o : Option Addr} {xs : List α} (h : RowOf K w R size o xs) (hb : Below w.heap.size w w') (hR : ∀ x cs, R x cs → R' x cs) : RowOf K w' R' size o xs :=
  h.frame (Stays.of hb) (fun _ h => h) hR
theorem reads_later {K : Nat → Prop} {w w' : World} (hb : Below w.heap.size w w') (h : Nat) : (∀ e cs, (reads K w h).ex e cs → (reads K w' h).ex e cs) ∧ (∀ d cs, (reads K w h).de d cs → (reads K w' h).de d cs) ∧ (∀ a cs, (reads K w h).al a cs → (reads K w' h).al a cs) :=
  reads_frame (Stays.of hb) (fun _ h => h) h

theorem list_of2 {α : Type} {n : Nat} {p : Nat → α → Prop} (h : ∀ i, i < n → ∃ x, p i x) : ∃ l : List α, l.length = n ∧ ∀ i x, l[i]? = some x → p i x := by
  induction n with
  | zero => exact ⟨[], rfl, fun i x h => by simp at h⟩
  | succ n ih =>
    obtain ⟨l, hl, hp⟩ := ih fun i hi => h i (Nat.lt_succ_of_lt hi)
    obtain ⟨x, hx⟩ := h n (Nat.lt_succ_self n)
    refine ⟨l ++ [x], by rw [List.length_append, hl]; rfl, fun i y hy => ?_⟩
    by_cases hi : i < l.length
    · rw [List.getElem?_append_left hi] at hy
      exact hp i y hy
    · rw [List.getElem?_append_right (by omega)] at hy
      have hi2 : i - l.length = 0 := by
        have := (List.getElem?_eq_some_iff.1 hy).1
        simp at this
        omega
      rw [hi2] at hy
      have : x = y := by simpa using hy
      subst this
      rw [show i = n by omega]
      exact hx

/-- A slice opened, its elements by what is known of those of less fuel. -/
theorem open_row {H : Type} {enc : TypeId × Value → H} {w : World} {base : Nat} {spare : Nat → Bool} {held : Bool} {α : Type} {R : α → List Value → Prop} {t e : TypeId} {size fuel : Nat} {cs : List Value} {x : DataW H × List MemPlace} (ht : Try.prog.underlying t = some (.slice e)) (hc : Try.prog.cellsOf e = size) (hs : 0 < size)
    (hR : ∀ n, n < fuel → ∀ cs x, DataW.trod enc Try.prog w base spare held n e cs = some x → ∃ y, R y cs) (h : DataW.trod enc Try.prog w base spare held fuel t cs = some x) :
    ∃ (o : Option Addr) (ys : List α) (cap : Nat), cs = [.slice o ys.length cap] ∧ Fits ys.length cap ∧ RowOf (fun _ => True) w R size o ys := by
  rcases DataW.trod_slice ht h with ⟨rfl, _⟩ | ⟨a, len, cap, elems, rest, n, hfu, rfl, _, _, hl, hm, hlen, hel, _, _⟩
  · exact ⟨none, [], 0, rfl, ⟨Nat.zero_le _, Nat.zero_le _⟩, fun h => absurd rfl h⟩
  · rw [hc] at hel
    have each : ∀ i, i < len → ∃ cs' y, w.cells? base (a.add (i * size)) size = some cs' ∧ R y cs' := fun i hi => by
      have key := hel i hi
      rw [List.getElem?_eq_getElem (by omega)] at key
      obtain ⟨cs', h1, h2⟩ := Option.bind_eq_some_iff.1 key
      obtain ⟨y, hy⟩ := hR n (by omega) _ _ h2
      exact ⟨cs', y, h1, hy⟩
    by_cases h0 : len = 0
    · subst h0
      exact ⟨some a, [], cap, rfl, ⟨Nat.zero_le _, Nat.zero_le _⟩, fun h => absurd rfl h⟩
    obtain ⟨b, off, spot⟩ := a
    obtain rfl : spot = none := by
      obtain ⟨cs', y, h1, _⟩ := each 0 (by omega)
      obtain ⟨-, hln, hcell⟩ := World.cells?_some h1
      have hc0 := hcell 0 hs
      rw [List.getElem?_eq_getElem (by omega)] at hc0
      simpa [Addr.add] using World.cell?_spot hc0
    obtain ⟨ys, hys, hp⟩ := list_of2 (α := α) (n := len) (p := fun i y => (∃ cs', cs'.length = size ∧ (∀ j u, cs'[j]? = some u → w.cell? ⟨b, off + i * size + j, none⟩ = some u) ∧ R y cs') ∧ b < w.heap.size) (fun i hi => by
      obtain ⟨cs', y, h1, hy⟩ := each i hi
      obtain ⟨-, hln, hcell⟩ := World.cells?_some h1
      have hadd : ∀ j, ((⟨b, off, none⟩ : Addr).add (i * size)).add j = ⟨b, off + i * size + j, none⟩ := by
        intro j
        rw [Go.Deep.add_add]
        by_cases hj : i * size + j = 0
        · simp [Addr.add, hj]
          omega
        · have hj2 : ¬ (i * size = 0 ∧ j = 0) := by omega
          unfold Addr.add
          rw [if_neg hj, Nat.add_assoc]
      have key : ∀ j u, cs'[j]? = some u → w.cell? ⟨b, off + i * size + j, none⟩ = some u := fun j u hu => by
        have hj : j < size := by rw [← hln]; exact (List.getElem?_eq_some_iff.1 hu).1
        have := hcell j hj
        rw [hadd, hu] at this
        exact this
      have k0 := key 0 (cs'[0]'(by omega)) (List.getElem?_eq_getElem _)
      exact ⟨y, ⟨cs', hln, key, hy⟩, World.block_lt_of_cell? w _ k0⟩)
    refine ⟨some ⟨b, off, none⟩, ys, cap, by rw [hys], ⟨by rw [hys]; omega, by rw [hys]; omega⟩, fun hne => ⟨b, off, rfl, trivial, ?_, fun i y hy => (hp i y hy).1⟩⟩
    exact (hp 0 (ys[0]'(by omega)) (List.getElem?_eq_getElem _)).2

theorem six {l : List Value} (h : l.length = 6) : ∃ a b c d e f, l = [a, b, c, d, e, f] := by
  match l, h with
  | [a, b, c, d, e, f], _ => exact ⟨a, b, c, d, e, f, rfl⟩
theorem eight {l : List Value} (h : l.length = 8) : ∃ x y a b c d e f, l = [x, y, a, b, c, d, e, f] := by
  match l, h with
  | [x, y, a, b, c, d, e, f], _ => exact ⟨x, y, a, b, c, d, e, f, rfl⟩
theorem nine {l : List Value} (h : l.length = 9) : ∃ x y a b c d e f z, l = [x, y, a, b, c, d, e, f, z] := by
  match l, h with
  | [x, y, a, b, c, d, e, f, z], _ => exact ⟨x, y, a, b, c, d, e, f, z, rfl⟩
theorem cells_int : Try.prog.cellsOf 3 = 1 := by kernel_rfl
theorem cells_string : Try.prog.cellsOf 9 = 1 := by kernel_rfl
end Go.Proofs.Ytifambhfggodaaa

import Derived.Test.YtfomndilhlgikajGreatDoorRows
import Derived.WalkKit
import Derived.ProofKit
import Derived.WalkLawsBesides
import Derived.Lib.OthersKept
import Derived.Laws.AppendOwn
import Derived.Maps.AppendAt
import Derived.OwnWalk
import Derived.Deep.RegionWith
import Derived.Deep.Slices
import Derived.OpenShut
import Derived.ShutString
import Derived.ChangeOld
import Derived.Laws.MakeOwn
set_option maxHeartbeats 8000000
set_option maxRecDepth 100000
namespace Go.Proofs.YtfomndilhlgikajGreatDoor
open Go.RowKit
theorem U0 {n : Nat} : n ≤ n := Nat.le_refl n
theorem U4 (w : World) {n : Nat} : Below n w w := Below.refl n w
theorem U7 {α : Type _} {xs : List α} {i : Nat} : xs.toArray[i]? = xs[i]? := List.getElem?_toArray
theorem U8 {α : Type _} {a : α} {l : List α} {i : Nat} : (a :: l)[i + 1]? = l[i]? := List.getElem?_cons_succ
theorem U9 {α : Type _} {a : α} {l : List α} : (a :: l)[0]? = some a := List.getElem?_cons_zero
theorem aa {p : Prop} (h : p) : Hid p := h
theorem ah {a b : Bool} (h : a = b) : Ending.returned (.bool a) = .returned (.bool b) := by rw [h]
structure TokZ where
 k : Int
 s : ByteArray
 l : Int
 c : Int
def iK (t : TokZ) : List Value := [.int .i64 t.k, .string t.s, .int .i64 t.l, .int .i64 t.c]
def iH (ts : List TokZ) : List Value := ts.flatMap iK
def fS (t : TokZ) : Value := .agg #[.int .i64 t.k, .string t.s, .int .i64 t.l, .int .i64 t.c]
theorem yu (ts : List TokZ) (t : TokZ) : iH (ts ++ [t]) = iH ts ++ iK t := by
 unfold iH
 rw [List.flatMap_append, List.flatMap_cons, List.flatMap_nil, List.append_nil]
theorem AS (ts : List TokZ) : ∀ (i : Nat) (t : TokZ), ts[i]? = some t -> ∀ j, j < 4 -> (iH ts)[i * 4 + j]? = (iK t)[j]? := by
 induction ts with
 | nil => intro i t h; simp at h
 | cons x r ih =>
  intro i t h j hj
  have e : iH (x :: r) = iK x ++ iH r := by unfold iH; rw [List.flatMap_cons]
  rw [e]
  cases i with
  | zero =>
   have : x = t := by simpa using h
   subst this
   rw [Nat.zero_mul, Nat.zero_add, List.getElem?_append_left (by show j < 4; exact hj)]
  | succ i =>
   rw [List.getElem?_append_right (by show 4 <= _; omega)]
   have h4 : (iK x).length = 4 := rfl
   rw [h4, show (i + 1) * 4 + j - 4 = i * 4 + j by omega]
   exact ih i t (by simpa using h) j hj
def pF (w : World) (b p : Nat) (t : TokZ) : Prop :=
 w.cell? ⟨b, p, none⟩ = some (.int .i64 t.k) /\ w.cell? ⟨b, p + 1, none⟩ = some (.string t.s) /\ w.cell? ⟨b, p + 2, none⟩ = some (.int .i64 t.l) /\ w.cell? ⟨b, p + 3, none⟩ = some (.int .i64 t.c)
def fq (w : World) (o : Option Addr) (b off : Nat) (ts : List TokZ) : Prop :=
 ts ≠ [] -> o = some ⟨b, off, none⟩ /\ b < w.heap.size /\ ∀ i t, ts[i]? = some t -> pF w b (off + i * 4) t
theorem uo {w w' : World} {b p : Nat} {t : TokZ} (h : pF w b p t) (hb : w'.heap[b]? = w.heap[b]?) : pF w' b p t := by
 obtain ⟨h0, h1, h2, h3⟩ := h
 exact ⟨(World.cell?_of_block (a := ⟨b, _, none⟩) hb).trans h0, (World.cell?_of_block (a := ⟨b, _, none⟩) hb).trans h1, (World.cell?_of_block (a := ⟨b, _, none⟩) hb).trans h2, (World.cell?_of_block (a := ⟨b, _, none⟩) hb).trans h3⟩
theorem cw {w w' : World} {o : Option Addr} {b off : Nat} {ts : List TokZ} (h : fq w o b off ts) (hs : w.heap.size <= w'.heap.size) (hb : ts ≠ [] -> w'.heap[b]? = w.heap[b]?) : fq w' o b off ts := by
 intro bU
 obtain ⟨h0, h1, h2⟩ := h bU
 exact ⟨h0, Nat.lt_of_lt_of_le h1 hs, fun i t ht => uo (h2 i t ht) (hb bU)⟩
theorem sM {w w' : World} {o : Option Addr} {b off : Nat} {ts : List TokZ} {B : Nat} (h : fq w o b off ts) (hb : Below B w w') (hB : ts ≠ [] -> b < B) : fq w' o b off ts :=
 cw h hb.size fun bU => hb.block b (hB bU)
theorem dy {w w' : World} {o : Option Addr} {b off : Nat} {ts : List TokZ} (h : fq w o b off ts) (hb : Below w.heap.size w w') : fq w' o b off ts :=
 sM h hb fun bU => (h bU).2.1
theorem ad {w : World} {g : Nat} {o : Obj} (h : w.heap[g]? = some o) : g < w.heap.size := (Array.getElem?_eq_some_iff.1 h).1
theorem cell_of {w : World} {g : Nat} {cur : Array Value} {e : TypeId} {fz : Nat × Nat} (h : w.heap[g]? = some (.cells cur e fz)) (j : Nat) : w.cell? ⟨g, j, none⟩ = cur[j]? := by
 unfold World.cell?
 simp [h]
theorem aj {w : World} {g : Nat} {cur : Array Value} {e : TypeId} (h : w.heap[g]? = some (.cells cur e (0, 0))) (j : Nat) : w.frozen? ⟨g, j, none⟩ = false := by
 unfold World.frozen?
 simp [h]
theorem cK {w : World} {base : Nat} {e : TypeId} {size : Nat} {v : Value} {n : Nat} {xs : List Value} (h : w.ownsRow base e size v n xs) : ∀ g, v.ownBlock = some g -> g < w.heap.size /\ base <= g := by
 intro g hg
 have := h.lt g hg
 omega
theorem hJ {w w' : World} {base : Nat} {e : TypeId} {size : Nat} {v : Value} {n : Nat} {xs : List Value} (h : w.ownsRow base e size v n xs) (hb : ∀ g, v.ownBlock = some g -> w'.heap[g]? = w.heap[g]?) : w'.ownsRow base e size v n xs := by
 obtain ⟨hl, hc⟩ := h
 refine ⟨hl, ?_⟩
 rcases hc with hc | ⟨g, cap, cur, hv, bS, hg, rest⟩
 ·exact Or.inl hc
 ·refine Or.inr ⟨g, cap, cur, hv, bS, ?_, rest⟩
  rw [hb g (by rw [hv]; rfl)]
  exact hg
theorem gT {w : World} {base base' : Nat} {e : TypeId} {size : Nat} {v : Value} {n : Nat} {xs : List Value} (h : w.ownsRow base' e size v n xs) (hb : ∀ g, v.ownBlock = some g -> base <= g) : w.ownsRow base e size v n xs := by
 obtain ⟨hl, hc⟩ := h
 refine ⟨hl, ?_⟩
 rcases hc with hc | ⟨g, cap, cur, hv, bS, rest⟩
 ·exact Or.inl hc
 ·exact Or.inr ⟨g, cap, cur, hv, hb g (by rw [hv]; rfl), rest⟩
theorem ib (w : World) (e : TypeId) (size : Nat) : (w.alloc (.cells #[] e)).ownsRow w.heap.size e size (.slice (some ⟨w.heap.size, 0, none⟩) 0 0) 0 [] := by
 refine ⟨by simp, Or.inr ⟨w.heap.size, 0, #[], rfl, Nat.le_refl _, ?_, Nat.le_refl _, Nat.zero_le _, by simp, by simp⟩⟩
 exact heap_alloc_new w _
theorem dU {w : World} {base : Nat} {e : TypeId} {size : Nat} {v : Value} {n : Nat} {xs : List Value} (h : w.ownsRow base e size v n xs) : ∃ o cap, v = .slice o n cap := by
 rcases h.2 with ⟨rfl, rfl⟩ | ⟨g, cap, cur, rfl, _⟩
 ·exact ⟨_, _, rfl⟩
 ·exact ⟨_, _, rfl⟩
theorem fN {w : World} {e n : Nat} {g : Nat} {cur : Array Value} {xs : List Value} (hg : w.heap[g]? = some (.cells cur e (0, 0))) (oq : cur.toList.take n = xs) (m : Nat) (hm : m < n) (v : Value) (hx : xs[m]? = some v) : w.cell? ⟨g, m, none⟩ = some v := by
 have h1 : cur[m]? = some v := by
  rw [<- oq, List.getElem?_take, if_pos hm, Array.getElem?_toList] at hx
  exact hx
 rw [cell_of hg, h1]
theorem kQ {w : World} {base : Nat} {e : TypeId} {v : Value} {ts : List TokZ} (h : w.ownsRow base e 4 v ts.length (iH ts)) : ∃ o b cap, v = .slice o ts.length cap /\ fq w o b 0 ts /\ (ts ≠ [] -> v.ownBlock = some b) := by
 obtain ⟨hl, hc⟩ := h
 rcases hc with ⟨hv, h0⟩ | ⟨g, cap, cur, hv, hb, hg, hn, vc, cI, oq⟩
 ·have Da : ts = [] := List.length_eq_zero_iff.1 h0
  subst Da
  exact ⟨none, 0, 0, hv, fun h => absurd rfl h, fun h => absurd rfl h⟩
 ·refine ⟨some ⟨g, 0, none⟩, g, cap, hv, fun _ => ⟨rfl, ad hg, fun i t ht => ?_⟩, fun _ => by rw [hv]; rfl⟩
  have hi : i < ts.length := (List.getElem?_eq_some_iff.1 ht).1
  have gF : ∀ j, j < 4 -> ∀ u, (iK t)[j]? = some u -> w.cell? ⟨g, i * 4 + j, none⟩ = some u := fun j hj u hu =>
   fN hg oq (i * 4 + j) (by omega) u (by rw [AS ts i t ht j hj]; exact hu)
  rw [Nat.zero_add]
  exact ⟨gF 0 (by omega) _ rfl, gF 1 (by omega) _ rfl, gF 2 (by omega) _ rfl, gF 3 (by omega) _ rfl⟩
structure Keeps (K : Nat -> Prop) (w w' : World) : Prop where
 os : w'.os = w.os
 tape : w'.tape = w.tape
 output : w'.output = w.output
 size : w.heap.size <= w'.heap.size
 block : ∀ k, K k -> w'.heap[k]? = w.heap[k]?
theorem Keeps.refl (K : Nat -> Prop) (w : World) : Keeps K w w := ⟨rfl, rfl, rfl, Nat.le_refl _, fun _ _ => rfl⟩
theorem Keeps.trans {K : Nat -> Prop} {a b c : World} (h : Keeps K a b) (k : Keeps K b c) : Keeps K a c :=
 ⟨k.os.trans h.os, k.tape.trans h.tape, k.output.trans h.output, Nat.le_trans h.size k.size, fun i hi => (k.block i hi).trans (h.block i hi)⟩
theorem Keeps.mono {K K' : Nat -> Prop} {a b : World} (h : Keeps K a b) (hk : ∀ k, K' k -> K k) : Keeps K' a b :=
 ⟨h.os, h.tape, h.output, h.size, fun i hi => h.block i (hk i hi)⟩
theorem Keeps.below {B : Nat} {a b : World} (h : Keeps (· < B) a b) : Below B a b := ⟨h.os, h.tape, h.output, h.size, h.block⟩
theorem cJ {B : Nat} {a b : World} {K : Nat -> Prop} (h : Below B a b) (hk : ∀ k, K k -> k < B) : Keeps K a b := ⟨h.os, h.tape, h.output, h.size, fun k hK => h.block k (hk k hK)⟩
theorem bH {K : Nat -> Prop} (w : World) (o : Obj) (hk : ∀ k, K k -> k < w.heap.size) : Keeps K w (w.alloc o) :=
 ⟨rfl, rfl, rfl, by simp, fun k h => Below.heap_alloc w o k (hk k h)⟩
theorem ku {K : Nat -> Prop} {w w' : World} {row : Option Nat} (h : w.grownBy w' row) (hk : ∀ k, K k -> k < w.heap.size) (hr : ∀ k, row = some k -> ¬ K k) : Keeps K w w' :=
 ⟨h.os, h.tape, h.output, h.size, fun k hK => h.block k (hk k hK) fun e => hr k e.symm hK⟩
theorem ae {w : World} {g j : Nat} {cur : Array Value} {e : TypeId} {fz : Nat × Nat} (v : Value) (h : w.heap[g]? = some (.cells cur e fz)) : (w.setCell ⟨g, j, none⟩ v).heap[g]? = some (.cells (cur.set! j v) e fz) := by
 simp [World.setCell, Array.getElem?_modify, h]
theorem az {w : World} {g j k : Nat} (v : Value) (h : k ≠ g) : (w.setCell ⟨g, j, none⟩ v).heap[k]? = w.heap[k]? :=
 Below.heap_setCell w ⟨g, j, none⟩ v k h
theorem ak {K : Nat -> Prop} (w : World) (g j : Nat) (v : Value) (hk : ¬ K g) : Keeps K w (w.setCell ⟨g, j, none⟩ v) :=
 ⟨rfl, rfl, rfl, by simp, fun k h => az v fun e => hk (e ▸ h)⟩
open Go.ChangeShapes Go.WideShapes Go.ChangeAt Go.RowKit
structure Tr where
 k : Int
 s : ByteArray
 n : Int
 ss : List ByteArray
 l : List Tr
 ds : List Tr
 al : List Tr
def RowOf {α : Type} (K : Nat -> Prop) (w : World) (R : α -> List Value -> Prop) (size : Nat) (o : Option Addr) (xs : List α) : Prop :=
 xs ≠ [] -> ∃ b off, o = some ⟨b, off, none⟩ /\ K b /\ b < w.heap.size /\ ∀ i x, xs[i]? = some x -> ∃ cs, cs.length = size /\ (∀ j u, cs[j]? = some u -> w.cell? ⟨b, off + i * size + j, none⟩ = some u) /\ R x cs
structure Stays (K : Nat -> Prop) (w w' : World) : Prop where
 size : w.heap.size <= w'.heap.size
 block : ∀ b, K b -> b < w.heap.size -> w'.heap[b]? = w.heap[b]?
theorem Stays.of {K : Nat -> Prop} {w w' : World} (hb : Below w.heap.size w w') : Stays K w w' := ⟨hb.size, fun b _ h => hb.block b h⟩
theorem Stays.trans {K : Nat -> Prop} {a b c : World} (h : Stays K a b) (k : Stays K b c) : Stays K a c := ⟨Nat.le_trans h.size k.size, fun x hx hl => (k.block x hx (Nat.lt_of_lt_of_le hl h.size)).trans (h.block x hx hl)⟩
theorem RowOf.frame {α : Type} {K K' : Nat -> Prop} {w w' : World} {R R' : α -> List Value -> Prop} {size : Nat} {o : Option Addr} {xs : List α} (h : RowOf K w R size o xs) (hb : Stays K w w') (hK : ∀ b, K b -> K' b) (hR : ∀ x cs, R x cs -> R' x cs) : RowOf K' w' R' size o xs := by
 intro bU
 obtain ⟨b, off, ho, hk, au, hc⟩ := h bU
 refine ⟨b, off, ho, hK b hk, Nat.lt_of_lt_of_le au hb.size, fun i x hx => ?_⟩
 obtain ⟨cs, h1, h2, h3⟩ := hc i x hx
 exact ⟨cs, h1, fun j u hu => (World.cell?_of_block (a := ⟨b, _, none⟩) (hb.block b hk au)).trans (h2 j u hu), hR x cs h3⟩
def fy (s : ByteArray) (cs : List Value) : Prop := cs = [.string s] /\ s.size <= maxLen
def pC (n c : Nat) : Prop := n <= maxLen /\ n <= c
structure Reads where
 ex : Tr -> List Value -> Prop
 de : Tr -> List Value -> Prop
 al : Tr -> List Value -> Prop
def reads (K : Nat -> Prop) (w : World) : Nat -> Reads
 | 0 => ⟨fun _ _ => False, fun _ _ => False, fun _ _ => False⟩
 | h + 1 =>
  let p := reads K w h
  ⟨fun e cs => e.ss = [] /\ ∃ o1 c1 o2 c2 o3 c3, cs = [.int .i64 e.k, .string e.s, .int .i64 e.n, .slice o1 e.l.length c1, .slice o2 e.ds.length c2, .slice o3 e.al.length c3] /\ e.s.size <= maxLen /\ pC e.l.length c1 /\ pC e.ds.length c2 /\ pC e.al.length c3 /\ RowOf K w p.ex 6 o1 e.l /\ RowOf K w p.de 9 o2 e.ds /\ RowOf K w p.al 8 o3 e.al,
   fun d cs => d.k = 0 /\ d.n = 0 /\ d.al = [] /\ ∃ e o1 c1 ce o2 c2, d.l = [e] /\ cs = [.string d.s, .slice o1 d.ss.length c1] ++ ce ++ [.slice o2 d.ds.length c2] /\ d.s.size <= maxLen /\ pC d.ss.length c1 /\ pC d.ds.length c2 /\ RowOf K w fy 1 o1 d.ss /\ ce.length = 6 /\ p.ex e ce /\ RowOf K w p.de 9 o2 d.ds,
   fun a cs => a.k = 0 /\ a.n = 0 /\ a.ds = [] /\ a.al = [] /\ ∃ e o1 c1 ce, a.l = [e] /\ cs = [.string a.s, .slice o1 a.ss.length c1] ++ ce /\ a.s.size <= maxLen /\ pC a.ss.length c1 /\ RowOf K w fy 1 o1 a.ss /\ ce.length = 6 /\ p.ex e ce⟩
theorem bm {K K' : Nat -> Prop} {w w' : World} (hb : Stays K w w') (hK : ∀ b, K b -> K' b) : ∀ h, (∀ e cs, (reads K w h).ex e cs -> (reads K' w' h).ex e cs) /\ (∀ d cs, (reads K w h).de d cs -> (reads K' w' h).de d cs) /\ (∀ a cs, (reads K w h).al a cs -> (reads K' w' h).al a cs) := by
 intro h
 induction h with
 | zero => exact ⟨fun _ _ h => h, fun _ _ h => h, fun _ _ h => h⟩
 | succ h ih =>
  obtain ⟨ih1, ih2, ih3⟩ := ih
  refine ⟨fun e cs he => ?_, fun d cs hd => ?_, fun a cs ha => ?_⟩
  ·obtain ⟨e0, o1, c1, o2, c2, o3, c3, e1, e2, e3, e4, e5, r1, r2, r3⟩ := he
   exact ⟨e0, o1, c1, o2, c2, o3, c3, e1, e2, e3, e4, e5, r1.frame hb hK ih1, r2.frame hb hK ih2, r3.frame hb hK ih3⟩
  ·obtain ⟨d0, d1, d2, e, o1, c1, ce, o2, c2, e0, e1, e2, e3, e4, r1, e5, r2, r3⟩ := hd
   exact ⟨d0, d1, d2, e, o1, c1, ce, o2, c2, e0, e1, e2, e3, e4, r1.frame hb hK (fun _ _ h => h), e5, ih1 _ _ r2, r3.frame hb hK ih2⟩
  ·obtain ⟨a0, a1, a2, a3, e, o1, c1, ce, e0, e1, e2, e3, r1, e4, r2⟩ := ha
   exact ⟨a0, a1, a2, a3, e, o1, c1, ce, e0, e1, e2, e3, r1.frame hb hK (fun _ _ h => h), e4, ih1 _ _ r2⟩
theorem RowOf.later {α : Type} {K : Nat -> Prop} {w w' : World} {R R' : α -> List Value -> Prop} {size : Nat} {o : Option Addr} {xs : List α} (h : RowOf K w R size o xs) (hb : Below w.heap.size w w') (hR : ∀ x cs, R x cs -> R' x cs) : RowOf K w' R' size o xs :=
 h.frame (Stays.of hb) (fun _ h => h) hR
theorem ap {K : Nat -> Prop} {w w' : World} (hb : Below w.heap.size w w') (h : Nat) : (∀ e cs, (reads K w h).ex e cs -> (reads K w' h).ex e cs) /\ (∀ d cs, (reads K w h).de d cs -> (reads K w' h).de d cs) /\ (∀ a cs, (reads K w h).al a cs -> (reads K w' h).al a cs) :=
 bm (Stays.of hb) (fun _ h => h) h
theorem AU {α : Type} {n : Nat} {p : Nat -> α -> Prop} (h : ∀ i, i < n -> ∃ x, p i x) : ∃ l : List α, l.length = n /\ ∀ i x, l[i]? = some x -> p i x := by
 induction n with
 | zero => exact ⟨[], rfl, fun i x h => by simp at h⟩
 | succ n ih =>
  obtain ⟨l, hl, hp⟩ := ih fun i hi => h i (Nat.lt_succ_of_lt hi)
  obtain ⟨x, hx⟩ := h n (Nat.lt_succ_self n)
  refine ⟨l ++ [x], by rw [List.length_append, hl]; rfl, fun i y hy => ?_⟩
  by_cases hi : i < l.length
  ·rw [List.getElem?_append_left hi] at hy
   exact hp i y hy
  ·rw [List.getElem?_append_right (by omega)] at hy
   have Lf : i - l.length = 0 := by
    have := (List.getElem?_eq_some_iff.1 hy).1
    simp at this
    omega
   rw [Lf] at hy
   have : x = y := by simpa using hy
   subst this
   rw [show i = n by omega]
   exact hx
theorem six {l : List Value} (h : l.length = 6) : ∃ a b c d e f, l = [a, b, c, d, e, f] := by
 match l, h with
 | [a, b, c, d, e, f], _ => exact ⟨a, b, c, d, e, f, rfl⟩
theorem BD {l : List Value} (h : l.length = 8) : ∃ x y a b c d e f, l = [x, y, a, b, c, d, e, f] := by
 match l, h with
 | [x, y, a, b, c, d, e, f], _ => exact ⟨x, y, a, b, c, d, e, f, rfl⟩
theorem JI {l : List Value} (h : l.length = 9) : ∃ x y a b c d e f z, l = [x, y, a, b, c, d, e, f, z] := by
 match l, h with
 | [x, y, a, b, c, d, e, f, z], _ => exact ⟨x, y, a, b, c, d, e, f, z, rfl⟩
abbrev fO : Nat -> Prop := fun _ => True
def FromK (n : Nat) : Nat -> Prop := fun b => n <= b
def qR : Array Value -> Nat -> List Value -> Array Value
 | cur, _, [] => cur
 | cur, p, v :: r => qR (cur.set! p v) (p + 1) r
theorem rv (cs : List Value) : ∀ (cur : Array Value) (p q : Nat), (q < p \/ p + cs.length <= q) -> (qR cur p cs)[q]? = cur[q]? := by
 induction cs with
 | nil => intro _ _ _ _; rfl
 | cons v r ih =>
  intro cur p q h
  show (qR (cur.set! p v) (p + 1) r)[q]? = _
  rw [List.length_cons] at h
  rw [ih _ _ _ (by omega), Array.set!_eq_setIfInBounds, Array.getElem?_setIfInBounds_ne (by omega)]
theorem AX (cs : List Value) : ∀ (cur : Array Value) (p j : Nat) (u : Value), p + cs.length <= cur.size -> cs[j]? = some u -> (qR cur p cs)[p + j]? = some u := by
 induction cs with
 | nil => intro _ _ _ _ _ h; simp at h
 | cons v r ih =>
  intro cur p j u hs h
  show (qR (cur.set! p v) (p + 1) r)[p + j]? = _
  rw [List.length_cons] at hs
  cases j with
  | zero =>
   have : v = u := by simpa using h
   subst this
   rw [rv _ _ _ _ (by omega), Array.set!_eq_setIfInBounds, Nat.add_zero, Array.getElem?_setIfInBounds_self_of_lt (by omega)]
  | succ j =>
   rw [show p + (j + 1) = (p + 1) + j by omega]
   exact ih _ _ _ _ (by simp; omega) (by simpa using h)
def Filled {α : Type} (R : α -> List Value -> Prop) (size : Nat) (cur : Array Value) (xs : List α) : Prop :=
 ∀ k x, xs[k]? = some x -> ∃ cs, cs.length = size /\ (∀ j u, cs[j]? = some u -> cur[k * size + j]? = some u) /\ R x cs
theorem Filled.nil {α : Type} (R : α -> List Value -> Prop) (size : Nat) (cur : Array Value) : Filled R size cur ([] : List α) := fun k x h => by simp at h
theorem Filled.snoc {α : Type} {R R' : α -> List Value -> Prop} {size : Nat} {cur : Array Value} {xs : List α} {i : Nat} {x : α} {cs : List Value} (h : Filled R size cur (xs.take i)) (hR : ∀ x cs, R x cs -> R' x cs) (hx : xs[i]? = some x) (hl : cs.length = size) (hs : cur.size = xs.length * size) (hr : R' x cs) : Filled R' size (qR cur (i * size) cs) (xs.take (i + 1)) := by
 have hi : i < xs.length := (List.getElem?_eq_some_iff.1 hx).1
 have Kk : (i + 1) * size <= xs.length * size := Nat.mul_le_mul_right _ hi
 have nN : (i + 1) * size = i * size + size := by rw [Nat.add_mul, Nat.one_mul]
 intro k y hy
 by_cases hk : k < i
 ·rw [List.getElem?_take, if_pos (by omega)] at hy
  obtain ⟨cs', h1, h2, h3⟩ := h k y (by rw [List.getElem?_take, if_pos hk]; exact hy)
  refine ⟨cs', h1, fun j u hu => ?_, hR _ _ h3⟩
  have hj : j < size := by rw [<- h1]; exact (List.getElem?_eq_some_iff.1 hu).1
  have aL : (k + 1) * size <= i * size := Nat.mul_le_mul_right _ hk
  have d9 : (k + 1) * size = k * size + size := by rw [Nat.add_mul, Nat.one_mul]
  rw [rv _ _ _ _ (by omega)]
  exact h2 j u hu
 ·have aL : k = i := by
   have := (List.getElem?_eq_some_iff.1 hy).1
   rw [List.length_take] at this
   omega
  subst aL
  have Oz : x = y := by
   rw [List.getElem?_take, if_pos (by omega), hx] at hy
   simpa using hy
  subst Oz
  exact ⟨cs, hl, fun j u hu => AX _ _ _ _ _ (by omega) hu, hr⟩
theorem Filled.row {α : Type} {K : Nat -> Prop} {w : World} {R : α -> List Value -> Prop} {size : Nat} {cur : Array Value} {e : TypeId} {b : Nat} {xs : List α} (h : Filled R size cur xs) (hg : w.heap[b]? = some (.cells cur e (0, 0))) (hK : K b) : RowOf K w R size (some ⟨b, 0, none⟩) xs := by
 intro _
 refine ⟨b, 0, rfl, hK, ad hg, fun i x hx => ?_⟩
 obtain ⟨cs, h1, h2, h3⟩ := h i x hx
 refine ⟨cs, h1, fun j u hu => ?_, h3⟩
 rw [Nat.zero_add, cell_of hg]
 exact h2 j u hu
def Plain (w w' : World) : Prop := ∀ b, w.heap.size <= b -> b < w'.heap.size -> ∃ c e, w'.heap[b]? = some (.cells c e (0, 0))
theorem Plain.refl (w : World) : Plain w w := fun b h1 h2 => by omega
theorem Plain.on {w w1 w2 : World} (h : Plain w w1) (k : Plain w1 w2) (hb : Below w1.heap.size w1 w2) : Plain w w2 := by
 intro b h1 h2
 by_cases hl : b < w1.heap.size
 ·obtain ⟨c, e, hc⟩ := h b h1 hl
  exact ⟨c, e, (hb.block b hl).trans hc⟩
 ·exact k b (by omega) h2
theorem Plain.alloc {w w1 : World} (h : Plain w w1) (c : Array Value) (e : TypeId) : Plain w (w1.alloc (.cells c e)) := by
 intro b h1 h2
 by_cases hl : b < w1.heap.size
 ·obtain ⟨c', e', hc⟩ := h b h1 hl
  exact ⟨c', e', (Below.heap_alloc _ _ _ hl).trans hc⟩
 ·have hb : b = w1.heap.size := by simp at h2; omega
  subst hb
  exact ⟨c, e, heap_alloc_new w1 _⟩
theorem Plain.set {w w1 : World} (h : Plain w w1) (g j : Nat) (v : Value) : Plain w (w1.setCell ⟨g, j, none⟩ v) := by
 intro b h1 h2
 have h3 : b < w1.heap.size := by simpa using h2
 obtain ⟨c, e, hc⟩ := h b h1 h3
 by_cases hg : b = g
 ·subst hg
  exact ⟨_, _, ae v hc⟩
 ·exact ⟨c, e, (az v hg).trans hc⟩
theorem Stays.refl (K : Nat -> Prop) (w : World) : Stays K w w := ⟨Nat.le_refl _, fun _ _ _ => rfl⟩
theorem cY {K : Nat -> Prop} {w : World} {h : Nat} {x : Tr} {cs : List Value} (hr : (reads K w h).ex x cs) : ∃ o1 c1 o2 c2 o3 c3, cs = [.int .i64 x.k, .string x.s, .int .i64 x.n, .slice o1 x.l.length c1, .slice o2 x.ds.length c2, .slice o3 x.al.length c3] := by
 cases h with
 | zero => exact hr.elim
 | succ h =>
  obtain ⟨-, o1, c1, o2, c2, o3, c3, e, -⟩ := hr
  exact ⟨o1, c1, o2, c2, o3, c3, e⟩
theorem xy {K : Nat -> Prop} {w : World} {h : Nat} {x : Tr} {cs : List Value} (hr : (reads K w h).de x cs) : ∃ (y : Tr) (o : Option Addr) (c : Nat) (o1 : Option Addr) (c1 : Nat) (o2 : Option Addr) (c2 : Nat) (o3 : Option Addr) (c3 : Nat) (o4 : Option Addr) (c4 : Nat), cs = [.string x.s, .slice o x.ss.length c, .int .i64 y.k, .string y.s, .int .i64 y.n, .slice o1 y.l.length c1, .slice o2 y.ds.length c2, .slice o3 y.al.length c3, .slice o4 x.ds.length c4] := by
 cases h with
 | zero => exact hr.elim
 | succ h =>
  obtain ⟨-, -, -, y, o, c, ce, o4, c4, -, e, -, -, -, -, -, q, -⟩ := hr
  obtain ⟨o1, c1, o2, c2, o3, c3, rfl⟩ := cY q
  exact ⟨y, o, c, o1, c1, o2, c2, o3, c3, o4, c4, e⟩
theorem tM : (Tryz.prog.info? 9).map (fun i => (i.zero, i.size, i.bytes)) = some (some (.string ⟨#[]⟩), 1, 16) := by kernel_rfl
end Go.Proofs.YtfomndilhlgikajGreatDoor

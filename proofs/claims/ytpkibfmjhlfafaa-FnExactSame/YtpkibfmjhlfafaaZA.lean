/- The same, plainly; the model's sameness of texts. -/
import Derived.Test.YtpkibfmjhlfafaaYA
import Derived.Test.YtpkibfmjhlfafaaQC
import Derived.Deep.QuietTactic
import Derived.BigQuiet
namespace Go.Proofs.Ytpkibfmjhlfafaa
open Go.ChangeShapes Go.WideShapes Go.ChangeAt Go.RowKit

def eqS (a b : ByteArray) : Bool := a.toList == b.toList
def strsTo (a b : List ByteArray) : Nat → Bool
  | 0 => true
  | i + 1 => strsTo a b i && eqS (atZ a i) (atZ b i)
def strsB (a b : List ByteArray) : Bool := decide (a.length = b.length) && strsTo a b a.length
def pairB (f : Tr → Tr → Bool) (xs ys : List Tr) (i : Nat) : Bool :=
  match xs[i]?, ys[i]? with
  | some x, some y => f x y
  | _, _ => false
def rowTo (f : Tr → Tr → Bool) (xs ys : List Tr) : Nat → Bool
  | 0 => true
  | i + 1 => rowTo f xs ys i && pairB f xs ys i
def rowB (f : Tr → Tr → Bool) (xs ys : List Tr) : Bool := decide (xs.length = ys.length) && rowTo f xs ys xs.length
theorem strsTo_false {a b : List ByteArray} {i n : Nat} (h : strsTo a b i = false) (hn : i ≤ n) : strsTo a b n = false := up_false (strsTo a b) _ (fun _ => rfl) h hn
theorem rowTo_false {f : Tr → Tr → Bool} {a b : List Tr} {i n : Nat} (h : rowTo f a b i = false) (hn : i ≤ n) : rowTo f a b n = false := up_false (rowTo f a b) _ (fun _ => rfl) h hn
theorem pair_at {f : Tr → Tr → Bool} {xs ys : List Tr} {i : Nat} {x y : Tr} (hx : xs[i]? = some x) (hy : ys[i]? = some y) : pairB f xs ys i = f x y := by
  unfold pairB
  rw [hx, hy]
structure Sm where
  ex : Tr → Tr → Bool
  de : Tr → Tr → Bool
  al : Tr → Tr → Bool
def sm : Nat → Sm
  | 0 => ⟨fun _ _ => true, fun _ _ => true, fun _ _ => true⟩
  | h + 1 =>
    ⟨fun a b => decide (a.k = b.k) && (eqS a.s b.s && (decide (a.n = b.n) && (decide (a.l.length = b.l.length) && (decide (a.al.length = b.al.length) && (rowB (sm h).de a.ds b.ds && (rowTo (sm h).ex a.l b.l a.l.length && rowTo (sm h).al a.al b.al a.al.length)))))),
     fun a b => eqS a.s b.s && (strsB a.ss b.ss && (rowB (sm h).ex a.l b.l && rowB (sm h).de a.ds b.ds)),
     fun a b => eqS a.s b.s && (strsB a.ss b.ss && rowB (sm h).ex a.l b.l)⟩
theorem row_one (f : Tr → Tr → Bool) (a b : Tr) : rowB f [a] [b] = f a b := by simp [rowB, rowTo, pairB]
theorem later_at {W : World} {g : Nat} {j : Nat} {v : Value} (hg : g < W.heap.size) (hv : W.cell? ⟨g, j, none⟩ = some v) : ∀ q : Later W, q.w.cell? ⟨g, j, none⟩ = some v := fun q => (q.h.cell (p := ⟨g, j, none⟩) hg).trans hv

end Go.Proofs.Ytpkibfmjhlfafaa

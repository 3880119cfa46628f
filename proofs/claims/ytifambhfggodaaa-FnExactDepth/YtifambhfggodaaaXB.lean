/- The law's measure of trees. -/
import Derived.Test.YtifambhfggodaaaXA
namespace Go.Proofs.Ytifambhfggodaaa
open Go.ChangeShapes Go.WideShapes Go.ChangeAt Go.RowKit

def lw (f : Tr → Nat) (xs : List Tr) : Nat := xs.length + (xs.map f).sum
def sw (ss : List ByteArray) : Nat := ss.length + (ss.map ByteArray.size).sum
structure Wts where
  ex : Tr → Nat
  de : Tr → Nat
  al : Tr → Nat
/-- What the measure counts, up to a height. -/
def wts : Nat → Wts
  | 0 => ⟨fun _ => 0, fun _ => 0, fun _ => 0⟩
  | h + 1 => ⟨fun e => e.s.size + lw (wts h).ex e.l + lw (wts h).de e.ds + lw (wts h).al e.al, fun d => d.s.size + sw d.ss + (d.l.map (wts h).ex).sum + lw (wts h).de d.ds, fun a => a.s.size + sw a.ss + (a.l.map (wts h).ex).sum⟩

end Go.Proofs.Ytifambhfggodaaa

/- Lists as what is handed on. -/
import Derived.Test.YtnmofagmjcengaaCV
namespace Go.Proofs.Ytnmofagmjcengaa.Br
open Go.RowKit

def tyOf (i : Nat) : TypeId := if i = 0 then 50 else if i = 1 then 75 else 106
/-- A list as what is handed on. -/
def valL (x : Ls) : Value := .iface (tyOf x.i) (.slice x.o x.n x.c)
def one (i : Nat) (o : Option Addr) (n c : Nat) : List Ls := if n = 0 then [] else [⟨i, o, n, c⟩]
end Go.Proofs.Ytnmofagmjcengaa.Br

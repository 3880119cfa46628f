/- The model's sameness of expressions and definitions, a step. -/
import Derived.Test.YtpkibfmjhlfafaaZA
namespace Go.Proofs.Ytpkibfmjhlfafaa
open Go.ChangeShapes Go.WideShapes Go.ChangeAt Go.RowKit

def bdA : Nat → Tr → Tr → Bool
  | 0 => fun _ _ => true
  | h + 1 => fun a b => rowB (sm h).ex a.l b.l
theorem al_eq {K : Nat → Prop} {w : World} {h : Nat} {a b : Tr} {cs : List Value} (hr : (reads K w h).al a cs) : (sm h).al a b = (eqS a.s b.s && (strsB a.ss b.ss && bdA h a b)) := by
  cases h with
  | zero => exact hr.elim
  | succ h => rfl
theorem al_strs {K : Nat → Prop} {w : World} {h : Nat} {a : Tr} {cs : List Value} (hr : (reads K w h).al a cs) : ∃ (p : Option Addr) (g : Nat) (v2 v3 v4 v5 v6 v7 : Value), cs = [.string a.s, .slice p a.ss.length g, v2, v3, v4, v5, v6, v7] ∧ a.ss.length ≤ maxLen ∧ RowOf K w strR 1 p a.ss := by
  cases h with
  | zero => exact hr.elim
  | succ h =>
    obtain ⟨-, -, -, -, y, p, g, ce, -, rfl, -, hl, q1, hce, -⟩ := hr
    obtain ⟨a0, a1, a2, a3, a4, a5, rfl⟩ := six hce
    exact ⟨p, g, a0, a1, a2, a3, a4, a5, rfl, hl.1, q1⟩
end Go.Proofs.Ytpkibfmjhlfafaa

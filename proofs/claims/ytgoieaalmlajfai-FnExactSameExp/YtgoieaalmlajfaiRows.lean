/-
  NARROWER THAN 'FOR EVERY INPUT', by the rows' own cells (each row's printed sentence says how): FnExactExpOk: loops · FnExactDecsOk: loops · FnExactSameExp: loops.
  DERIVED. THE GIVEN ROWS OF THIS SEAT. 5 by the template 'for every input the law returns true; each argument reads behind the call as it read before'; 0 by the template 'total and deterministic' (their statements: YtgoieaalmlajfaiTotals.lean).
  GIVEN WITH THE SEED: the statements are not yours to turn. If you find one false, say at which input.
  Laid BY PROGRAM, IN A SANDBOX (cutbox-rows.mjs): the forced cells as the released guide's own fill.sh prints them over the translation 6eae54997fbefcd2… (all of the seat's roots in one cut). By AI agents, Wed Nov 11 2026. No macro, syntax, notation, axiom, sorry.
-/
import Derived.Test.YtgoieaalmlajfaiChecked
import GoSem.Claim
import GoSem.ClaimJoined
import GoSem.ClaimMapViews
import Derived.JoinedTies
import Derived.KernelRfl
namespace Go.Proofs.Ytgoieaalmlajfai
/- THE CELL 'sum', in the pinned program and in every row, IS THE sha256 OF THE DUMP (.gsa) THAT YtgoieaalmlajfaiProg.lean LOADS. Nothing in Lean hashes anything: it is a label: what it is worth is what the hold of that sum in a sandbox is worth. -/
noncomputable def Try.pinned : Pinned := { name := "ytgoieaalmlajfai", sum := "6eae54997fbefcd2bedf53a410f38d5380bdaad8b3add8c12a9dc73a391176d4", checked := Try.checked }
namespace Rows
def none {H : Type} : Left H := { results := [], args := [] }

/-- 'laws.FnExactLay': WHATEVER THE INPUT: true; the input reads as it did. -/
def fnExactLaySpec : ChangeSpec := { name := "fnExactLay", fn := fun _ => fun
  | [d] => { results := [.lit (.bool true)], args := [d] }
  | _ => none }
def fnExactLayRow : OpenClaim := { program := "ytgoieaalmlajfai", sum := "6eae54997fbefcd2bedf53a410f38d5380bdaad8b3add8c12a9dc73a391176d4", func := "loop.example/g00471/laws.FnExactLay", spec := "fnExactLay", plainKeys := false, apart := false }
def FnExactLaySaid : Prop := fnExactLayRow.holds Try.pinned (OpenSpec.ofChange fnExactLaySpec)

/-- ITS FALSE NEIGHBOUR: 'it returns false'. Refute it at one input. -/
def fnExactLayWrong : ChangeSpec := { name := "fnExactLay", fn := fun _ => fun
  | [d] => { results := [.lit (.bool false)], args := [d] }
  | _ => none }
def FnExactLayWrongFalsely : Prop := fnExactLayRow.holds Try.pinned (OpenSpec.ofChange fnExactLayWrong)

/-- 'laws.FnExactBlocks': WHATEVER THE INPUT: true; the input reads as it did. -/
def fnExactBlocksSpec : ChangeSpec := { name := "fnExactBlocks", fn := fun _ => fun
  | [d] => { results := [.lit (.bool true)], args := [d] }
  | _ => none }
def fnExactBlocksRow : OpenClaim := { program := "ytgoieaalmlajfai", sum := "6eae54997fbefcd2bedf53a410f38d5380bdaad8b3add8c12a9dc73a391176d4", func := "loop.example/g00471/laws.FnExactBlocks", spec := "fnExactBlocks", plainKeys := false, apart := false }
def FnExactBlocksSaid : Prop := fnExactBlocksRow.holds Try.pinned (OpenSpec.ofChange fnExactBlocksSpec)

/-- ITS FALSE NEIGHBOUR: 'it returns false'. Refute it at one input. -/
def fnExactBlocksWrong : ChangeSpec := { name := "fnExactBlocks", fn := fun _ => fun
  | [d] => { results := [.lit (.bool false)], args := [d] }
  | _ => none }
def FnExactBlocksWrongFalsely : Prop := fnExactBlocksRow.holds Try.pinned (OpenSpec.ofChange fnExactBlocksWrong)

/-- 'laws.FnExactExpOk': WHATEVER THE INPUT: true; the input reads as it did. -/
def fnExactExpOkSpec : ChangeSpec := { name := "fnExactExpOk", fn := fun _ => fun
  | [d] => { results := [.lit (.bool true)], args := [d] }
  | _ => none }
def fnExactExpOkRow : OpenClaim := { program := "ytgoieaalmlajfai", sum := "6eae54997fbefcd2bedf53a410f38d5380bdaad8b3add8c12a9dc73a391176d4", func := "loop.example/g00471/laws.FnExactExpOk", spec := "fnExactExpOk", unfollowed := true, recurses := true, loops := true, plainKeys := false, apart := false }
def FnExactExpOkSaid : Prop := fnExactExpOkRow.holds Try.pinned (OpenSpec.ofChange fnExactExpOkSpec)

/-- ITS FALSE NEIGHBOUR: 'it returns false'. Refute it at one input. -/
def fnExactExpOkWrong : ChangeSpec := { name := "fnExactExpOk", fn := fun _ => fun
  | [d] => { results := [.lit (.bool false)], args := [d] }
  | _ => none }
def FnExactExpOkWrongFalsely : Prop := fnExactExpOkRow.holds Try.pinned (OpenSpec.ofChange fnExactExpOkWrong)

/-- 'laws.FnExactDecsOk': WHATEVER THE INPUT: true; the input reads as it did. -/
def fnExactDecsOkSpec : ChangeSpec := { name := "fnExactDecsOk", fn := fun _ => fun
  | [d] => { results := [.lit (.bool true)], args := [d] }
  | _ => none }
def fnExactDecsOkRow : OpenClaim := { program := "ytgoieaalmlajfai", sum := "6eae54997fbefcd2bedf53a410f38d5380bdaad8b3add8c12a9dc73a391176d4", func := "loop.example/g00471/laws.FnExactDecsOk", spec := "fnExactDecsOk", unfollowed := true, recurses := true, loops := true, plainKeys := false, apart := false }
def FnExactDecsOkSaid : Prop := fnExactDecsOkRow.holds Try.pinned (OpenSpec.ofChange fnExactDecsOkSpec)

/-- ITS FALSE NEIGHBOUR: 'it returns false'. Refute it at one input. -/
def fnExactDecsOkWrong : ChangeSpec := { name := "fnExactDecsOk", fn := fun _ => fun
  | [d] => { results := [.lit (.bool false)], args := [d] }
  | _ => none }
def FnExactDecsOkWrongFalsely : Prop := fnExactDecsOkRow.holds Try.pinned (OpenSpec.ofChange fnExactDecsOkWrong)

/-- 'laws.FnExactSameExp': WHATEVER THE INPUT: true; the input reads as it did. -/
def fnExactSameExpSpec : ChangeSpec := { name := "fnExactSameExp", fn := fun _ => fun
  | [d1, d2] => { results := [.lit (.bool true)], args := [d1, d2] }
  | _ => none }
def fnExactSameExpRow : OpenClaim := { program := "ytgoieaalmlajfai", sum := "6eae54997fbefcd2bedf53a410f38d5380bdaad8b3add8c12a9dc73a391176d4", func := "loop.example/g00471/laws.FnExactSameExp", spec := "fnExactSameExp", unfollowed := true, recurses := true, loops := true, plainKeys := false, apart := false }
def FnExactSameExpSaid : Prop := fnExactSameExpRow.holds Try.pinned (OpenSpec.ofChange fnExactSameExpSpec)

/-- ITS FALSE NEIGHBOUR: 'it returns false'. Refute it at one input. -/
def fnExactSameExpWrong : ChangeSpec := { name := "fnExactSameExp", fn := fun _ => fun
  | [d1, d2] => { results := [.lit (.bool false)], args := [d1, d2] }
  | _ => none }
def FnExactSameExpWrongFalsely : Prop := fnExactSameExpRow.holds Try.pinned (OpenSpec.ofChange fnExactSameExpWrong)

/- THE SECOND FORM. 'bulk': how many values and letters a reading holds, each counted each time it is reached (what is shared counts as often as it is met; a slice's spare places count too). A statement '..UptoSaid' is the law's where the arguments, and the package variables that the reading takes, are together of bulk at most 1048576: NARROWER than '..Said'. Prove '..Said' where nothing that the law and all that it calls make is longer than what came in: it says more and counts as full. Else prove '..UptoSaid'. A law counts once. -/
mutual
def uptoBulk {H : Type} : DataW H → Nat
  | .lit (.string bytes) => bytes.length + 1
  | .lit _ => 1
  | .nil => 1
  | .ptr d => uptoBulk d + 1
  | .slice elems spare => uptoBulkAll elems + uptoBulkAll spare + 1
  | .agg parts => uptoBulkAll parts + 1
  | .iface _ d => uptoBulk d + 1
  | .map entries => uptoBulkEntries entries + 1
  | .held _ => 1
def uptoBulkAll {H : Type} : List (DataW H) → Nat
  | [] => 0
  | d :: r => uptoBulk d + uptoBulkAll r
def uptoBulkEntries {H : Type} : List (Lit × DataW H) → Nat
  | [] => 0
  | x :: r => uptoBulkEntry x + uptoBulkEntries r
def uptoBulkEntry {H : Type} : Lit × DataW H → Nat
  | (.string bytes, d) => bytes.length + uptoBulk d + 1
  | (_, d) => uptoBulk d + 1
 end
def uptoSmall : (H : Type) → List (DataW H) → Bool := fun _ ds => decide (uptoBulkAll ds ≤ 1048576)
def OpenSpec.upto (s : _root_.Go.ChangeSpec) : _root_.Go.OpenSpec := { _root_.Go.OpenSpec.ofChange s with cond := some uptoSmall }

/-- 'laws.FnExactLay', WHERE WHAT IT READS IS OF BULK AT MOST 1048576: true; the input reads as it did. -/
def fnExactLayUptoRow : OpenClaim := { program := "ytgoieaalmlajfai", sum := "6eae54997fbefcd2bedf53a410f38d5380bdaad8b3add8c12a9dc73a391176d4", func := "loop.example/g00471/laws.FnExactLay", spec := "fnExactLay", plainKeys := false, apart := false, narrowed := true }
def FnExactLayUptoSaid : Prop := fnExactLayUptoRow.holds Try.pinned (OpenSpec.upto fnExactLaySpec)

/-- 'laws.FnExactBlocks', WHERE WHAT IT READS IS OF BULK AT MOST 1048576: true; the input reads as it did. -/
def fnExactBlocksUptoRow : OpenClaim := { program := "ytgoieaalmlajfai", sum := "6eae54997fbefcd2bedf53a410f38d5380bdaad8b3add8c12a9dc73a391176d4", func := "loop.example/g00471/laws.FnExactBlocks", spec := "fnExactBlocks", plainKeys := false, apart := false, narrowed := true }
def FnExactBlocksUptoSaid : Prop := fnExactBlocksUptoRow.holds Try.pinned (OpenSpec.upto fnExactBlocksSpec)

/-- 'laws.FnExactExpOk', WHERE WHAT IT READS IS OF BULK AT MOST 1048576: true; the input reads as it did. -/
def fnExactExpOkUptoRow : OpenClaim := { program := "ytgoieaalmlajfai", sum := "6eae54997fbefcd2bedf53a410f38d5380bdaad8b3add8c12a9dc73a391176d4", func := "loop.example/g00471/laws.FnExactExpOk", spec := "fnExactExpOk", unfollowed := true, recurses := true, loops := true, plainKeys := false, apart := false, narrowed := true }
def FnExactExpOkUptoSaid : Prop := fnExactExpOkUptoRow.holds Try.pinned (OpenSpec.upto fnExactExpOkSpec)

/-- 'laws.FnExactDecsOk', WHERE WHAT IT READS IS OF BULK AT MOST 1048576: true; the input reads as it did. -/
def fnExactDecsOkUptoRow : OpenClaim := { program := "ytgoieaalmlajfai", sum := "6eae54997fbefcd2bedf53a410f38d5380bdaad8b3add8c12a9dc73a391176d4", func := "loop.example/g00471/laws.FnExactDecsOk", spec := "fnExactDecsOk", unfollowed := true, recurses := true, loops := true, plainKeys := false, apart := false, narrowed := true }
def FnExactDecsOkUptoSaid : Prop := fnExactDecsOkUptoRow.holds Try.pinned (OpenSpec.upto fnExactDecsOkSpec)

/-- 'laws.FnExactSameExp', WHERE WHAT IT READS IS OF BULK AT MOST 1048576: true; the input reads as it did. -/
def fnExactSameExpUptoRow : OpenClaim := { program := "ytgoieaalmlajfai", sum := "6eae54997fbefcd2bedf53a410f38d5380bdaad8b3add8c12a9dc73a391176d4", func := "loop.example/g00471/laws.FnExactSameExp", spec := "fnExactSameExp", unfollowed := true, recurses := true, loops := true, plainKeys := false, apart := false, narrowed := true }
def FnExactSameExpUptoSaid : Prop := fnExactSameExpUptoRow.holds Try.pinned (OpenSpec.upto fnExactSameExpSpec)

end Rows
end Go.Proofs.Ytgoieaalmlajfai

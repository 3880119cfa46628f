/-
  DERIVED. GIVEN WITH THE SEED: THE CARDS: each row of YteoghpefilghdamDoorRows.lean that lists a variable, with what it lists TIED to the program's text (the seventh form; the later family's looks); each row that meets fmt, with fmt's text TOLD by the authors' own Lean function (tested against real Go, not proved from fmt's source: count such statements apart). THE CARD IS WHAT COUNTS. Prove the row's statement (the work); the ties are given (YteoghpefilghdamDoorTie.lean); close each card by the builder's one call (the guide's Derived/Test/ToyasCard.lean, 'card_holds'). Laid BY PROGRAM, IN A SANDBOX (cutbox-door.mjs). By AI agents, Wed Nov 11 2026. No macro, syntax, notation, axiom, sorry.
-/
import Derived.Test.YteoghpefilghdamDoorRows
import GoSem.ClaimSeven
namespace Go.Proofs.YteoghpefilghdamDoor
namespace Rows

/-- THE TIED CARD OF 'laws.FnExactTyText'. -/
def fnExactTyTextCard : Claim7 := { stood := { row := fnExactTyTextRow, standIns := [], harness := (true, "6690fb806295bce7ca50a68faef333e19e071da072e277eb12ea3775ceff1a82"), looks := false }, kinds := [], alts := [], laidByText := true, laidKinds := [.data, .data, .data], laidTests := true, laidLooks := .later }
def FnExactTyTextCardSaid : Prop := Claim7.holds Tryd.pinned (.plain (OpenSpec.ofChange fnExactTyTextSpec)) fnExactTyTextCard

/-- THE SECOND FORM's CARD OF 'laws.FnExactTyText'. -/
def fnExactTyTextUptoCard : Claim7 := { stood := { row := fnExactTyTextUptoRow, standIns := [], harness := (true, "6690fb806295bce7ca50a68faef333e19e071da072e277eb12ea3775ceff1a82"), looks := false }, kinds := [], alts := [], laidByText := true, laidKinds := [.data, .data, .data], laidTests := true, laidLooks := .later }
def FnExactTyTextUptoCardSaid : Prop := Claim7.holds Tryd.pinned (.plain (OpenSpec.upto fnExactTyTextSpec)) fnExactTyTextUptoCard
end Rows
end Go.Proofs.YteoghpefilghdamDoor

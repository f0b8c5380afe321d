/-
  DERIVED. GIVEN WITH THE SEED: THE CARDS: each row of YthnlkpifafklkaaDoorRows.lean that lists a variable, with what it lists TIED to the program's text (the seventh form; the later family's looks); each row that meets fmt, with fmt's text TOLD by the authors' own Lean function (tested against real Go, not proved from fmt's source: count such statements apart). THE CARD IS WHAT COUNTS. Prove the row's statement (the work); the ties are given (YthnlkpifafklkaaDoorTie.lean); close each card by the builder's one call (the guide's Derived/Test/ToyasCard.lean, 'card_holds'). Laid BY PROGRAM, IN A SANDBOX (cutbox-door.mjs). By AI agents, Wed Nov 11 2026. No macro, syntax, notation, axiom, sorry.
-/
import Derived.Test.YthnlkpifafklkaaDoorRows
import GoSem.ClaimSeven
namespace Go.Proofs.YthnlkpifafklkaaDoor
namespace Rows

/-- THE TIED CARD OF 'laws.FnExactWriteLine'. -/
def fnExactWriteLineCard : Claim7 := { stood := { row := fnExactWriteLineRow, standIns := [], harness := (true, "2de695f51f64283c3af68387061f73323f4b62cef078561a5a94eae85925dfe1"), looks := true }, kinds := [], alts := [], laidByText := true, laidKinds := [.data, .data, .data, .handle, .data], laidTests := true, laidLooks := .later }
def FnExactWriteLineCardSaid : Prop := Claim7.holds Tryd.pinned (.plain (OpenSpec.ofChange fnExactWriteLineSpec)) fnExactWriteLineCard

/-- THE SECOND FORM's CARD OF 'laws.FnExactWriteLine'. -/
def fnExactWriteLineUptoCard : Claim7 := { stood := { row := fnExactWriteLineUptoRow, standIns := [], harness := (true, "2de695f51f64283c3af68387061f73323f4b62cef078561a5a94eae85925dfe1"), looks := true }, kinds := [], alts := [], laidByText := true, laidKinds := [.data, .data, .data, .handle, .data], laidTests := true, laidLooks := .later }
def FnExactWriteLineUptoCardSaid : Prop := Claim7.holds Tryd.pinned (.plain (OpenSpec.upto fnExactWriteLineSpec)) fnExactWriteLineUptoCard
end Rows
end Go.Proofs.YthnlkpifafklkaaDoor

/-
  DERIVED. GIVEN WITH THE SEED: THE CARDS: each row of YthnlkpifafklkaaGreatDoorRows.lean that lists a variable, with what it lists TIED to the program's text (the seventh form; the later family's looks); each row that meets fmt, with fmt's text TOLD by the authors' own Lean function (tested against real Go, not proved from fmt's source: count such statements apart). THE CARD IS WHAT COUNTS. Prove the row's statement (the work); the ties are given (YthnlkpifafklkaaGreatDoorTie.lean); close each card by the builder's one call (the guide's Derived/Test/ToyasCard.lean, 'card_holds'). Laid BY PROGRAM, IN A SANDBOX (cutbox-door.mjs). By AI agents, Wed Nov 11 2026. No macro, syntax, notation, axiom, sorry.
-/
import Derived.Test.YthnlkpifafklkaaGreatDoorRows
import GoSem.ClaimSeven
namespace Go.Proofs.YthnlkpifafklkaaGreatDoor
namespace Rows

/-- THE TIED CARD OF 'laws.FnExactPlace'. -/
def fnExactPlaceCard : Claim7 := { stood := { row := fnExactPlaceRow, standIns := [], harness := (true, "2e86b1436208ffb2d05c16ee657e4fb69afeff0db7a95b72f3debdb898380919"), looks := true }, kinds := [], alts := [], laidByText := true, laidKinds := [.handle], laidTests := true, laidLooks := .later }
def FnExactPlaceCardSaid : Prop := Claim7.holds Tryz.pinned (.plain (OpenSpec.ofChange fnExactPlaceSpec)) fnExactPlaceCard

/-- THE TIED CARD OF 'laws.FnExactReadLine'. -/
def fnExactReadLineCard : Claim7 := { stood := { row := fnExactReadLineRow, standIns := [], harness := (true, "2e86b1436208ffb2d05c16ee657e4fb69afeff0db7a95b72f3debdb898380919"), looks := true }, kinds := [], alts := [], laidByText := true, laidKinds := [.data, .data, .data, .data, .handle, .sentinel, .sentinel, .data, .pinned], laidTests := true, laidLooks := .later }
def FnExactReadLineCardSaid : Prop := Claim7.holds Tryz.pinned (.plain (OpenSpec.ofChange fnExactReadLineSpec)) fnExactReadLineCard

/-- THE TIED CARD OF 'laws.FnExactDiagram'. -/
def fnExactDiagramCard : Claim7 := { stood := { row := fnExactDiagramRow, standIns := [], harness := (true, "2e86b1436208ffb2d05c16ee657e4fb69afeff0db7a95b72f3debdb898380919"), looks := true }, kinds := [], alts := [], laidByText := true, laidKinds := [.data, .data, .data, .handle], laidTests := true, laidLooks := .later }
def FnExactDiagramCardSaid : Prop := Claim7.holds Tryz.pinned (.plain (OpenSpec.ofChange fnExactDiagramSpec)) fnExactDiagramCard

/-- THE SECOND FORM's CARD OF 'laws.FnExactPlace'. -/
def fnExactPlaceUptoCard : Claim7 := { stood := { row := fnExactPlaceUptoRow, standIns := [], harness := (true, "2e86b1436208ffb2d05c16ee657e4fb69afeff0db7a95b72f3debdb898380919"), looks := true }, kinds := [], alts := [], laidByText := true, laidKinds := [.handle], laidTests := true, laidLooks := .later }
def FnExactPlaceUptoCardSaid : Prop := Claim7.holds Tryz.pinned (.plain (OpenSpec.upto fnExactPlaceSpec)) fnExactPlaceUptoCard

/-- THE SECOND FORM's CARD OF 'laws.FnExactReadLine'. -/
def fnExactReadLineUptoCard : Claim7 := { stood := { row := fnExactReadLineUptoRow, standIns := [], harness := (true, "2e86b1436208ffb2d05c16ee657e4fb69afeff0db7a95b72f3debdb898380919"), looks := true }, kinds := [], alts := [], laidByText := true, laidKinds := [.data, .data, .data, .data, .handle, .sentinel, .sentinel, .data, .pinned], laidTests := true, laidLooks := .later }
def FnExactReadLineUptoCardSaid : Prop := Claim7.holds Tryz.pinned (.plain (OpenSpec.upto fnExactReadLineSpec)) fnExactReadLineUptoCard

/-- THE SECOND FORM's CARD OF 'laws.FnExactDiagram'. -/
def fnExactDiagramUptoCard : Claim7 := { stood := { row := fnExactDiagramUptoRow, standIns := [], harness := (true, "2e86b1436208ffb2d05c16ee657e4fb69afeff0db7a95b72f3debdb898380919"), looks := true }, kinds := [], alts := [], laidByText := true, laidKinds := [.data, .data, .data, .handle], laidTests := true, laidLooks := .later }
def FnExactDiagramUptoCardSaid : Prop := Claim7.holds Tryz.pinned (.plain (OpenSpec.upto fnExactDiagramSpec)) fnExactDiagramUptoCard
end Rows
end Go.Proofs.YthnlkpifafklkaaGreatDoor

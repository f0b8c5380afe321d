/-
  DERIVED. GIVEN WITH THE SEED: THE CARDS: each row of YtnjaegeapcijpaaGreatDoorRows.lean that lists a variable, with what it lists TIED to the program's text (the seventh form; the later family's looks); each row that meets fmt, with fmt's text TOLD by the authors' own Lean function (tested against real Go, not proved from fmt's source: count such statements apart). THE CARD IS WHAT COUNTS. Prove the row's statement (the work); the ties are given (YtnjaegeapcijpaaGreatDoorTie.lean); close each card by the builder's one call (the guide's Derived/Test/ToyasCard.lean, 'card_holds'). Laid BY PROGRAM, IN A SANDBOX (cutbox-door.mjs). By AI agents, Wed Nov 11 2026. No macro, syntax, notation, axiom, sorry.
-/
import Derived.Test.YtnjaegeapcijpaaGreatDoorRows
import GoSem.ClaimSeven
namespace Go.Proofs.YtnjaegeapcijpaaGreatDoor
namespace Rows

/-- THE TIED CARD OF 'laws.FnSooner'. -/
def fnSoonerCard : Claim7 := { stood := { row := fnSoonerRow, standIns := [], harness := (true, "5da39bfca343cda62d9ca96fa3c02cdb05597d423e3f6eee8daf73310f7df794"), looks := true }, kinds := [], alts := [], laidByText := true, laidKinds := [.handle], laidTests := true, laidLooks := .later }
def FnSoonerCardSaid : Prop := Claim7.holds Tryz.pinned (.plain (OpenSpec.ofChange fnSoonerSpec)) fnSoonerCard

/-- THE TIED CARD OF 'laws.FnText'. -/
def fnTextCard : Claim7 := { stood := { row := fnTextRow, standIns := [], harness := (true, "5da39bfca343cda62d9ca96fa3c02cdb05597d423e3f6eee8daf73310f7df794"), looks := true }, kinds := [], alts := [], laidByText := true, laidKinds := [.data, .data, .data, .data, .handle, .sentinel, .sentinel, .data, .pinned], laidTests := true, laidLooks := .later }
def FnTextCardSaid : Prop := Claim7.holds Tryz.pinned (.plain (OpenSpec.ofChange fnTextSpec)) fnTextCard

/-- THE SECOND FORM's CARD OF 'laws.FnSooner'. -/
def fnSoonerUptoCard : Claim7 := { stood := { row := fnSoonerUptoRow, standIns := [], harness := (true, "5da39bfca343cda62d9ca96fa3c02cdb05597d423e3f6eee8daf73310f7df794"), looks := true }, kinds := [], alts := [], laidByText := true, laidKinds := [.handle], laidTests := true, laidLooks := .later }
def FnSoonerUptoCardSaid : Prop := Claim7.holds Tryz.pinned (.plain (OpenSpec.upto fnSoonerSpec)) fnSoonerUptoCard

/-- THE SECOND FORM's CARD OF 'laws.FnText'. -/
def fnTextUptoCard : Claim7 := { stood := { row := fnTextUptoRow, standIns := [], harness := (true, "5da39bfca343cda62d9ca96fa3c02cdb05597d423e3f6eee8daf73310f7df794"), looks := true }, kinds := [], alts := [], laidByText := true, laidKinds := [.data, .data, .data, .data, .handle, .sentinel, .sentinel, .data, .pinned], laidTests := true, laidLooks := .later }
def FnTextUptoCardSaid : Prop := Claim7.holds Tryz.pinned (.plain (OpenSpec.upto fnTextSpec)) fnTextUptoCard
end Rows
end Go.Proofs.YtnjaegeapcijpaaGreatDoor

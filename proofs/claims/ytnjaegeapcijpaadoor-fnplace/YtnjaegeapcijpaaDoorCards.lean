/-
  DERIVED. GIVEN WITH THE SEED: THE CARDS: each row of YtnjaegeapcijpaaDoorRows.lean that lists a variable, with what it lists TIED to the program's text (the seventh form; the later family's looks); each row that meets fmt, with fmt's text TOLD by the authors' own Lean function (tested against real Go, not proved from fmt's source: count such statements apart). THE CARD IS WHAT COUNTS. Prove the row's statement (the work); the ties are given (YtnjaegeapcijpaaDoorTie.lean); close each card by the builder's one call (the guide's Derived/Test/ToyasCard.lean, 'card_holds'). Laid BY PROGRAM, IN A SANDBOX (cutbox-door.mjs). By AI agents, Wed Nov 11 2026. No macro, syntax, notation, axiom, sorry.
-/
import Derived.Test.YtnjaegeapcijpaaDoorRows
import GoSem.ClaimSeven
namespace Go.Proofs.YtnjaegeapcijpaaDoor
namespace Rows

/-- THE TIED CARD OF 'laws.FnPlace'. -/
def fnPlaceCard : Claim7 := { stood := { row := fnPlaceRow, standIns := [], harness := (true, "98b3c7900aed3711805889e8d832b7150a060f7870d12628d5231466e5ca5ce4"), looks := true }, kinds := [], alts := [], laidByText := true, laidKinds := [.handle], laidTests := true, laidLooks := .later }
def FnPlaceCardSaid : Prop := Claim7.holds Tryd.pinned (.plain (OpenSpec.ofChange fnPlaceSpec)) fnPlaceCard

/-- THE SECOND FORM's CARD OF 'laws.FnPlace'. -/
def fnPlaceUptoCard : Claim7 := { stood := { row := fnPlaceUptoRow, standIns := [], harness := (true, "98b3c7900aed3711805889e8d832b7150a060f7870d12628d5231466e5ca5ce4"), looks := true }, kinds := [], alts := [], laidByText := true, laidKinds := [.handle], laidTests := true, laidLooks := .later }
def FnPlaceUptoCardSaid : Prop := Claim7.holds Tryd.pinned (.plain (OpenSpec.upto fnPlaceSpec)) fnPlaceUptoCard
end Rows
end Go.Proofs.YtnjaegeapcijpaaDoor

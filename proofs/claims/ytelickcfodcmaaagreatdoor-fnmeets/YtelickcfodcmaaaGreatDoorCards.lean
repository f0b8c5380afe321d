/-
  DERIVED. GIVEN WITH THE SEED: THE CARDS: each row of YtelickcfodcmaaaGreatDoorRows.lean that lists a variable, with what it lists TIED to the program's text (the seventh form; the later family's looks); each row that meets fmt, with fmt's text TOLD by the authors' own Lean function (tested against real Go, not proved from fmt's source: count such statements apart). THE CARD IS WHAT COUNTS. Prove the row's statement (the work); the ties are given (YtelickcfodcmaaaGreatDoorTie.lean); close each card by the builder's one call (the guide's Derived/Test/ToyasCard.lean, 'card_holds'). Laid BY PROGRAM, IN A SANDBOX (cutbox-door.mjs). By AI agents, Wed Nov 11 2026. No macro, syntax, notation, axiom, sorry.
-/
import Derived.Test.YtelickcfodcmaaaGreatDoorRows
import GoSem.ClaimSeven
namespace Go.Proofs.YtelickcfodcmaaaGreatDoor
namespace Rows

/-- THE TIED CARD OF 'laws.FnSooner'. -/
def fnSoonerCard : Claim7 := { stood := { row := fnSoonerRow, standIns := [], harness := (true, "be82e7909b9efeeb6fa30289263824404d2208cb79013bac4ac8004104a14d68"), looks := true }, kinds := [], alts := [], goes := true, laidByText := true, laidKinds := [.handle], laidTests := true, laidLooks := .later }
def FnSoonerCardSaid : Prop := Claim7.holds Tryz.pinned (.plain (OpenSpec.ofChange fnSoonerSpec)) fnSoonerCard

/-- THE TIED CARD OF 'laws.FnMeets'. -/
def fnMeetsCard : Claim7 := { stood := { row := fnMeetsRow, standIns := [], harness := (true, "be82e7909b9efeeb6fa30289263824404d2208cb79013bac4ac8004104a14d68"), looks := true }, kinds := [], alts := [], goes := true, laidByText := true, laidKinds := [.handle], laidTests := true, laidLooks := .later }
def FnMeetsCardSaid : Prop := Claim7.holds Tryz.pinned (.plain (OpenSpec.ofChange fnMeetsSpec)) fnMeetsCard

/-- THE SECOND FORM's CARD OF 'laws.FnSooner'. -/
def fnSoonerUptoCard : Claim7 := { stood := { row := fnSoonerUptoRow, standIns := [], harness := (true, "be82e7909b9efeeb6fa30289263824404d2208cb79013bac4ac8004104a14d68"), looks := true }, kinds := [], alts := [], goes := true, laidByText := true, laidKinds := [.handle], laidTests := true, laidLooks := .later }
def FnSoonerUptoCardSaid : Prop := Claim7.holds Tryz.pinned (.plain (OpenSpec.upto fnSoonerSpec)) fnSoonerUptoCard

/-- THE SECOND FORM's CARD OF 'laws.FnMeets'. -/
def fnMeetsUptoCard : Claim7 := { stood := { row := fnMeetsUptoRow, standIns := [], harness := (true, "be82e7909b9efeeb6fa30289263824404d2208cb79013bac4ac8004104a14d68"), looks := true }, kinds := [], alts := [], goes := true, laidByText := true, laidKinds := [.handle], laidTests := true, laidLooks := .later }
def FnMeetsUptoCardSaid : Prop := Claim7.holds Tryz.pinned (.plain (OpenSpec.upto fnMeetsSpec)) fnMeetsUptoCard
end Rows
end Go.Proofs.YtelickcfodcmaaaGreatDoor

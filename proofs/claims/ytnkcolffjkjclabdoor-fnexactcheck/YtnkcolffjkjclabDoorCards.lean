/-
  DERIVED. GIVEN WITH THE SEED: THE CARDS: each row of YtnkcolffjkjclabDoorRows.lean that lists a variable, with what it lists TIED to the program's text (the seventh form; the later family's looks); each row that meets fmt, with fmt's text TOLD by the authors' own Lean function (tested against real Go, not proved from fmt's source: count such statements apart). THE CARD IS WHAT COUNTS. Prove the row's statement (the work); the ties are given (YtnkcolffjkjclabDoorTie.lean); close each card by the builder's one call (the guide's Derived/Test/ToyasCard.lean, 'card_holds'). Laid BY PROGRAM, IN A SANDBOX (cutbox-door.mjs). By AI agents, Wed Nov 11 2026. No macro, syntax, notation, axiom, sorry.
-/
import Derived.Test.YtnkcolffjkjclabDoorRows
import GoSem.ClaimSeven
namespace Go.Proofs.YtnkcolffjkjclabDoor
namespace Rows

/-- THE TIED CARD OF 'laws.FnExactCheck'. -/
def fnExactCheckCard : Claim7 := { stood := { row := fnExactCheckRow, standIns := [], harness := (true, "6024c3ecfe99b8b9ef4fdd354f35a53a4fcc1108448a8eda0697e25953d99bf4"), looks := true }, kinds := [], alts := [], laidByText := true, laidKinds := [.handle], laidTests := true, laidLooks := .later }
def FnExactCheckCardSaid : Prop := Claim7.holds Tryd.pinned (.plain (OpenSpec.ofChange fnExactCheckSpec)) fnExactCheckCard

/-- THE TIED CARD OF 'laws.FnExactArrives'. -/
def fnExactArrivesCard : Claim7 := { stood := { row := fnExactArrivesRow, standIns := [], harness := (true, "6024c3ecfe99b8b9ef4fdd354f35a53a4fcc1108448a8eda0697e25953d99bf4"), looks := true }, kinds := [], alts := [], laidByText := true, laidKinds := [.handle], laidTests := true, laidLooks := .later }
def FnExactArrivesCardSaid : Prop := Claim7.holds Tryd.pinned (.plain (OpenSpec.ofChange fnExactArrivesSpec)) fnExactArrivesCard

/-- THE TIED CARD OF 'laws.FnExactCost'. -/
def fnExactCostCard : Claim7 := { stood := { row := fnExactCostRow, standIns := [], harness := (true, "6024c3ecfe99b8b9ef4fdd354f35a53a4fcc1108448a8eda0697e25953d99bf4"), looks := true }, kinds := [], alts := [], laidByText := true, laidKinds := [.handle], laidTests := true, laidLooks := .later }
def FnExactCostCardSaid : Prop := Claim7.holds Tryd.pinned (.plain (OpenSpec.ofChange fnExactCostSpec)) fnExactCostCard

/-- THE SECOND FORM's CARD OF 'laws.FnExactCheck'. -/
def fnExactCheckUptoCard : Claim7 := { stood := { row := fnExactCheckUptoRow, standIns := [], harness := (true, "6024c3ecfe99b8b9ef4fdd354f35a53a4fcc1108448a8eda0697e25953d99bf4"), looks := true }, kinds := [], alts := [], laidByText := true, laidKinds := [.handle], laidTests := true, laidLooks := .later }
def FnExactCheckUptoCardSaid : Prop := Claim7.holds Tryd.pinned (.plain (OpenSpec.upto fnExactCheckSpec)) fnExactCheckUptoCard

/-- THE SECOND FORM's CARD OF 'laws.FnExactArrives'. -/
def fnExactArrivesUptoCard : Claim7 := { stood := { row := fnExactArrivesUptoRow, standIns := [], harness := (true, "6024c3ecfe99b8b9ef4fdd354f35a53a4fcc1108448a8eda0697e25953d99bf4"), looks := true }, kinds := [], alts := [], laidByText := true, laidKinds := [.handle], laidTests := true, laidLooks := .later }
def FnExactArrivesUptoCardSaid : Prop := Claim7.holds Tryd.pinned (.plain (OpenSpec.upto fnExactArrivesSpec)) fnExactArrivesUptoCard

/-- THE SECOND FORM's CARD OF 'laws.FnExactCost'. -/
def fnExactCostUptoCard : Claim7 := { stood := { row := fnExactCostUptoRow, standIns := [], harness := (true, "6024c3ecfe99b8b9ef4fdd354f35a53a4fcc1108448a8eda0697e25953d99bf4"), looks := true }, kinds := [], alts := [], laidByText := true, laidKinds := [.handle], laidTests := true, laidLooks := .later }
def FnExactCostUptoCardSaid : Prop := Claim7.holds Tryd.pinned (.plain (OpenSpec.upto fnExactCostSpec)) fnExactCostUptoCard
end Rows
end Go.Proofs.YtnkcolffjkjclabDoor

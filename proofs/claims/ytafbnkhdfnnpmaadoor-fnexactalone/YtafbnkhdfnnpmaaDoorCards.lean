/-
  DERIVED. GIVEN WITH THE SEED: THE CARDS: each row of YtafbnkhdfnnpmaaDoorRows.lean that lists a variable, with what it lists TIED to the program's text (the seventh form; the later family's looks); each row that meets fmt, with fmt's text TOLD by the authors' own Lean function (tested against real Go, not proved from fmt's source: count such statements apart). THE CARD IS WHAT COUNTS. Prove the row's statement (the work); the ties are given (YtafbnkhdfnnpmaaDoorTie.lean); close each card by the builder's one call (the guide's Derived/Test/ToyasCard.lean, 'card_holds'). Laid BY PROGRAM, IN A SANDBOX (cutbox-door.mjs). By AI agents, Wed Nov 11 2026. No macro, syntax, notation, axiom, sorry.
-/
import Derived.Test.YtafbnkhdfnnpmaaDoorRows
import GoSem.ClaimSeven
namespace Go.Proofs.YtafbnkhdfnnpmaaDoor
namespace Rows

/-- THE TIED CARD OF 'laws.FnExactLineOk'. -/
def fnExactLineOkCard : Claim7 := { stood := { row := fnExactLineOkRow, standIns := [], harness := (true, "4047cf34edda7d3dd19e67e51a499e2e9d751756254d2e5f06d40c579a495ce4"), looks := true }, kinds := [], alts := [], laidByText := true, laidKinds := [.handle], laidTests := true, laidLooks := .later }
def FnExactLineOkCardSaid : Prop := Claim7.holds Tryd.pinned (.plain (OpenSpec.ofChange fnExactLineOkSpec)) fnExactLineOkCard

/-- THE TIED CARD OF 'laws.FnExactAlone'. -/
def fnExactAloneCard : Claim7 := { stood := { row := fnExactAloneRow, standIns := [], harness := (true, "4047cf34edda7d3dd19e67e51a499e2e9d751756254d2e5f06d40c579a495ce4"), looks := true }, kinds := [], alts := [], laidByText := true, laidKinds := [.handle], laidTests := true, laidLooks := .later }
def FnExactAloneCardSaid : Prop := Claim7.holds Tryd.pinned (.plain (OpenSpec.ofChange fnExactAloneSpec)) fnExactAloneCard

/-- THE TIED CARD OF 'laws.FnExactLeast'. -/
def fnExactLeastCard : Claim7 := { stood := { row := fnExactLeastRow, standIns := [], harness := (true, "4047cf34edda7d3dd19e67e51a499e2e9d751756254d2e5f06d40c579a495ce4"), looks := true }, kinds := [], alts := [], laidByText := true, laidKinds := [.handle], laidTests := true, laidLooks := .later }
def FnExactLeastCardSaid : Prop := Claim7.holds Tryd.pinned (.plain (OpenSpec.ofChange fnExactLeastSpec)) fnExactLeastCard

/-- THE SECOND FORM's CARD OF 'laws.FnExactLineOk'. -/
def fnExactLineOkUptoCard : Claim7 := { stood := { row := fnExactLineOkUptoRow, standIns := [], harness := (true, "4047cf34edda7d3dd19e67e51a499e2e9d751756254d2e5f06d40c579a495ce4"), looks := true }, kinds := [], alts := [], laidByText := true, laidKinds := [.handle], laidTests := true, laidLooks := .later }
def FnExactLineOkUptoCardSaid : Prop := Claim7.holds Tryd.pinned (.plain (OpenSpec.upto fnExactLineOkSpec)) fnExactLineOkUptoCard

/-- THE SECOND FORM's CARD OF 'laws.FnExactAlone'. -/
def fnExactAloneUptoCard : Claim7 := { stood := { row := fnExactAloneUptoRow, standIns := [], harness := (true, "4047cf34edda7d3dd19e67e51a499e2e9d751756254d2e5f06d40c579a495ce4"), looks := true }, kinds := [], alts := [], laidByText := true, laidKinds := [.handle], laidTests := true, laidLooks := .later }
def FnExactAloneUptoCardSaid : Prop := Claim7.holds Tryd.pinned (.plain (OpenSpec.upto fnExactAloneSpec)) fnExactAloneUptoCard

/-- THE SECOND FORM's CARD OF 'laws.FnExactLeast'. -/
def fnExactLeastUptoCard : Claim7 := { stood := { row := fnExactLeastUptoRow, standIns := [], harness := (true, "4047cf34edda7d3dd19e67e51a499e2e9d751756254d2e5f06d40c579a495ce4"), looks := true }, kinds := [], alts := [], laidByText := true, laidKinds := [.handle], laidTests := true, laidLooks := .later }
def FnExactLeastUptoCardSaid : Prop := Claim7.holds Tryd.pinned (.plain (OpenSpec.upto fnExactLeastSpec)) fnExactLeastUptoCard
end Rows
end Go.Proofs.YtafbnkhdfnnpmaaDoor

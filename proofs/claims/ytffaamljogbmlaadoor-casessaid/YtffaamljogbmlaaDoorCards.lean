/-
  DERIVED. GIVEN WITH THE SEED: THE CARDS: each row of YtffaamljogbmlaaDoorRows.lean that lists a variable, with what it lists TIED to the program's text (the seventh form; the later family's looks); each row that meets fmt, with fmt's text TOLD by the authors' own Lean function (tested against real Go, not proved from fmt's source: count such statements apart). THE CARD IS WHAT COUNTS. Prove the row's statement (the work); the ties are given (YtffaamljogbmlaaDoorTie.lean); close each card by the builder's one call (the guide's Derived/Test/ToyasCard.lean, 'card_holds'). Laid BY PROGRAM, IN A SANDBOX (cutbox-door.mjs). By AI agents, Wed Nov 11 2026. No macro, syntax, notation, axiom, sorry.
-/
import Derived.Test.YtffaamljogbmlaaDoorRows
import GoSem.ClaimSeven
namespace Go.Proofs.YtffaamljogbmlaaDoor
namespace Rows

/-- THE TIED CARD OF 'tokenhallkeep.CasesSaid'. -/
def casesSaidCard : Claim7 := { stood := { row := casesSaidRow, standIns := [], harness := (true, "cc6d2591031ecf26b102c363ec6cc82b4f99ecedc835c8d7e4d51974f8f96660"), looks := false }, kinds := [], alts := [], laidByText := true, laidKinds := [.data], laidTests := true, laidLooks := .later }
def CasesSaidCardSaid : Prop := Claim7.holds Tryd.pinned (.plain (OpenSpec.ofChange casesSaidSpec)) casesSaidCard

/-- THE SECOND FORM's CARD OF 'tokenhallkeep.CasesSaid'. -/
def casesSaidUptoCard : Claim7 := { stood := { row := casesSaidUptoRow, standIns := [], harness := (true, "cc6d2591031ecf26b102c363ec6cc82b4f99ecedc835c8d7e4d51974f8f96660"), looks := false }, kinds := [], alts := [], laidByText := true, laidKinds := [.data], laidTests := true, laidLooks := .later }
def CasesSaidUptoCardSaid : Prop := Claim7.holds Tryd.pinned (.plain (OpenSpec.upto casesSaidSpec)) casesSaidUptoCard
end Rows
end Go.Proofs.YtffaamljogbmlaaDoor

/-
  DERIVED. GIVEN WITH THE SEED: THE CARDS: each row of YteoofibhpifmlaaDoorRows.lean that lists a variable, with what it lists TIED to the program's text (the seventh form; the later family's looks); each row that meets fmt, with fmt's text TOLD by the authors' own Lean function (tested against real Go, not proved from fmt's source: count such statements apart). THE CARD IS WHAT COUNTS. Prove the row's statement (the work); the ties are given (YteoofibhpifmlaaDoorTie.lean); close each card by the builder's one call (the guide's Derived/Test/ToyasCard.lean, 'card_holds'). Laid BY PROGRAM, IN A SANDBOX (cutbox-door.mjs). By AI agents, Wed Nov 11 2026. No macro, syntax, notation, axiom, sorry.
-/
import Derived.Test.YteoofibhpifmlaaDoorRows
import GoSem.ClaimSeven
namespace Go.Proofs.YteoofibhpifmlaaDoor
namespace Rows

/-- THE TIED CARD OF 'tokenhalllaw.TongueHas'. -/
def tongueHasCard : Claim7 := { stood := { row := tongueHasRow, standIns := [], harness := (true, "c682189c088251c70a98bcbe0b2f867b1beca9812e4f1be9202904712f93ce91"), looks := true }, kinds := [], alts := [], laidByText := true, laidKinds := [.data], laidTests := true, laidLooks := .later }
def TongueHasCardSaid : Prop := Claim7.holds Tryd.pinned (.plain (OpenSpec.ofChange tongueHasSpec)) tongueHasCard

/-- THE TIED CARD OF 'tokenhallkeep.TongueRuns'. -/
def tongueRunsCard : Claim7 := { stood := { row := tongueRunsRow, standIns := [], harness := (true, "c682189c088251c70a98bcbe0b2f867b1beca9812e4f1be9202904712f93ce91"), looks := true }, kinds := [], alts := [], laidByText := true, laidKinds := [.data], laidTests := true, laidLooks := .later }
def TongueRunsCardSaid : Prop := Claim7.holds Tryd.pinned (.plain (OpenSpec.ofChange tongueRunsSpec)) tongueRunsCard

/-- THE TIED CARD OF 'tokenhallkeep.TongueShort'. -/
def tongueShortCard : Claim7 := { stood := { row := tongueShortRow, standIns := [], harness := (true, "c682189c088251c70a98bcbe0b2f867b1beca9812e4f1be9202904712f93ce91"), looks := true }, kinds := [], alts := [], laidByText := true, laidKinds := [.data], laidTests := true, laidLooks := .later }
def TongueShortCardSaid : Prop := Claim7.holds Tryd.pinned (.plain (OpenSpec.ofChange tongueShortSpec)) tongueShortCard

/-- THE SECOND FORM's CARD OF 'tokenhalllaw.TongueHas'. -/
def tongueHasUptoCard : Claim7 := { stood := { row := tongueHasUptoRow, standIns := [], harness := (true, "c682189c088251c70a98bcbe0b2f867b1beca9812e4f1be9202904712f93ce91"), looks := true }, kinds := [], alts := [], laidByText := true, laidKinds := [.data], laidTests := true, laidLooks := .later }
def TongueHasUptoCardSaid : Prop := Claim7.holds Tryd.pinned (.plain (OpenSpec.upto tongueHasSpec)) tongueHasUptoCard

/-- THE SECOND FORM's CARD OF 'tokenhallkeep.TongueRuns'. -/
def tongueRunsUptoCard : Claim7 := { stood := { row := tongueRunsUptoRow, standIns := [], harness := (true, "c682189c088251c70a98bcbe0b2f867b1beca9812e4f1be9202904712f93ce91"), looks := true }, kinds := [], alts := [], laidByText := true, laidKinds := [.data], laidTests := true, laidLooks := .later }
def TongueRunsUptoCardSaid : Prop := Claim7.holds Tryd.pinned (.plain (OpenSpec.upto tongueRunsSpec)) tongueRunsUptoCard

/-- THE SECOND FORM's CARD OF 'tokenhallkeep.TongueShort'. -/
def tongueShortUptoCard : Claim7 := { stood := { row := tongueShortUptoRow, standIns := [], harness := (true, "c682189c088251c70a98bcbe0b2f867b1beca9812e4f1be9202904712f93ce91"), looks := true }, kinds := [], alts := [], laidByText := true, laidKinds := [.data], laidTests := true, laidLooks := .later }
def TongueShortUptoCardSaid : Prop := Claim7.holds Tryd.pinned (.plain (OpenSpec.upto tongueShortSpec)) tongueShortUptoCard
end Rows
end Go.Proofs.YteoofibhpifmlaaDoor

/-
  DERIVED. GIVEN WITH THE SEED: THE CARDS: each row of YtfaehomopgichaaDoorRows.lean that lists a variable, with what it lists TIED to the program's text (the seventh form; the later family's looks); each row that meets fmt, with fmt's text TOLD by the authors' own Lean function (tested against real Go, not proved from fmt's source: count such statements apart). THE CARD IS WHAT COUNTS. Prove the row's statement (the work); the ties are given (YtfaehomopgichaaDoorTie.lean); close each card by the builder's one call (the guide's Derived/Test/ToyasCard.lean, 'card_holds'). Laid BY PROGRAM, IN A SANDBOX (cutbox-door.mjs). By AI agents, Wed Nov 11 2026. No macro, syntax, notation, axiom, sorry.
-/
import Derived.Test.YtfaehomopgichaaDoorRows
import GoSem.ClaimSeven
namespace Go.Proofs.YtfaehomopgichaaDoor
namespace Rows

/-- THE TIED CARD OF 'tokenhallkeep.ReplayFits'. -/
def replayFitsCard : Claim7 := { stood := { row := replayFitsRow, standIns := [], harness := (true, "28cc0b4af576b0fadc8f0daf5d4a33499f5a5f0a5b0b0a8439161b1d626ef647"), looks := false }, kinds := [], alts := [], laidByText := true, laidKinds := [.data], laidTests := true, laidLooks := .later }
def ReplayFitsCardSaid : Prop := Claim7.holds Tryd.pinned (.plain (OpenSpec.ofChange replayFitsSpec)) replayFitsCard

/-- THE SECOND FORM's CARD OF 'tokenhallkeep.ReplayFits'. -/
def replayFitsUptoCard : Claim7 := { stood := { row := replayFitsUptoRow, standIns := [], harness := (true, "28cc0b4af576b0fadc8f0daf5d4a33499f5a5f0a5b0b0a8439161b1d626ef647"), looks := false }, kinds := [], alts := [], laidByText := true, laidKinds := [.data], laidTests := true, laidLooks := .later }
def ReplayFitsUptoCardSaid : Prop := Claim7.holds Tryd.pinned (.plain (OpenSpec.upto replayFitsSpec)) replayFitsUptoCard
end Rows
end Go.Proofs.YtfaehomopgichaaDoor

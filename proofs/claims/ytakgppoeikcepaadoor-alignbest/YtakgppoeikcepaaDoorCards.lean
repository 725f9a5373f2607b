/-
  DERIVED. GIVEN WITH THE SEED: THE CARDS: each row of YtakgppoeikcepaaDoorRows.lean that lists a variable, with what it lists TIED to the program's text (the seventh form; the later family's looks); each row that meets fmt, with fmt's text TOLD by the authors' own Lean function (tested against real Go, not proved from fmt's source: count such statements apart). THE CARD IS WHAT COUNTS. Prove the row's statement (the work); the ties are given (YtakgppoeikcepaaDoorTie.lean); close each card by the builder's one call (the guide's Derived/Test/ToyasCard.lean, 'card_holds'). Laid BY PROGRAM, IN A SANDBOX (cutbox-door.mjs). By AI agents, Wed Nov 11 2026. No macro, syntax, notation, axiom, sorry.
-/
import Derived.Test.YtakgppoeikcepaaDoorRows
import GoSem.ClaimSeven
namespace Go.Proofs.YtakgppoeikcepaaDoor
namespace Rows

/-- THE TIED CARD OF 'tokenhallkeep.AlignFits'. -/
def alignFitsCard : Claim7 := { stood := { row := alignFitsRow, standIns := [], harness := (true, "95a30b690d810aa135291410761507cef812d4030c1e95ea469c02424e5d9110"), looks := false }, kinds := [], alts := [], laidByText := true, laidKinds := [.data], laidTests := true, laidLooks := .later }
def AlignFitsCardSaid : Prop := Claim7.holds Tryd.pinned (.plain (OpenSpec.ofChange alignFitsSpec)) alignFitsCard

/-- THE TIED CARD OF 'tokenhallkeep.AlignBest'. -/
def alignBestCard : Claim7 := { stood := { row := alignBestRow, standIns := [], harness := (true, "95a30b690d810aa135291410761507cef812d4030c1e95ea469c02424e5d9110"), looks := false }, kinds := [], alts := [], laidByText := true, laidKinds := [.data], laidTests := true, laidLooks := .later }
def AlignBestCardSaid : Prop := Claim7.holds Tryd.pinned (.plain (OpenSpec.ofChange alignBestSpec)) alignBestCard

/-- THE SECOND FORM's CARD OF 'tokenhallkeep.AlignFits'. -/
def alignFitsUptoCard : Claim7 := { stood := { row := alignFitsUptoRow, standIns := [], harness := (true, "95a30b690d810aa135291410761507cef812d4030c1e95ea469c02424e5d9110"), looks := false }, kinds := [], alts := [], laidByText := true, laidKinds := [.data], laidTests := true, laidLooks := .later }
def AlignFitsUptoCardSaid : Prop := Claim7.holds Tryd.pinned (.plain (OpenSpec.upto alignFitsSpec)) alignFitsUptoCard

/-- THE SECOND FORM's CARD OF 'tokenhallkeep.AlignBest'. -/
def alignBestUptoCard : Claim7 := { stood := { row := alignBestUptoRow, standIns := [], harness := (true, "95a30b690d810aa135291410761507cef812d4030c1e95ea469c02424e5d9110"), looks := false }, kinds := [], alts := [], laidByText := true, laidKinds := [.data], laidTests := true, laidLooks := .later }
def AlignBestUptoCardSaid : Prop := Claim7.holds Tryd.pinned (.plain (OpenSpec.upto alignBestSpec)) alignBestUptoCard
end Rows
end Go.Proofs.YtakgppoeikcepaaDoor

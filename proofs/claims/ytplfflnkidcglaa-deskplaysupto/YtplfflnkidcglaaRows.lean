/-
  No cell of these rows narrows 'for every input' (looked for: loops, veiled, ifaces, maps, wideKeys, modest, calm, conditions, laid).
  DERIVED. THE GIVEN ROWS OF THIS SEAT. 5 by the template 'for every input the law returns true; each argument reads behind the call as it read before'; 0 by the template 'total and deterministic' (their statements: YtplfflnkidcglaaTotals.lean).
  GIVEN WITH THE SEED: the statements are not yours to turn. If you find one false, say at which input.
  Laid BY PROGRAM, IN A SANDBOX (cutbox-rows.mjs): the forced cells as the released guide's own fill.sh prints them over the translation a9279b339aee0cd6… (all of the seat's roots in one cut). By AI agents, Wed Nov 11 2026. No macro, syntax, notation, axiom, sorry.
-/
import Derived.Test.YtplfflnkidcglaaChecked
import GoSem.Claim
import GoSem.ClaimJoined
import GoSem.ClaimMapViews
import Derived.JoinedTies
import Derived.KernelRfl
namespace Go.Proofs.Ytplfflnkidcglaa
/- THE CELL 'sum', in the pinned program and in every row, IS THE sha256 OF THE DUMP (.gsa) THAT YtplfflnkidcglaaProg.lean LOADS. Nothing in Lean hashes anything: it is a label: what it is worth is what the hold of that sum in a sandbox is worth. -/
noncomputable def Try.pinned : Pinned := { name := "ytplfflnkidcglaa", sum := "a9279b339aee0cd67faee7b7ef367885e40d89e44863fe107b489dd05d84b91a", checked := Try.checked }
namespace Rows
def none {H : Type} : Left H := { results := [], args := [] }

/-- 'tokenhalllaw.DeskPlays': WHATEVER THE INPUT: true; the input reads as it did. -/
def deskPlaysSpec : ChangeSpec := { name := "deskPlays", fn := fun _ => fun
  | [d1, d2, d3, d4] => { results := [.lit (.bool true)], args := [d1, d2, d3, d4] }
  | _ => none }
def deskPlaysRow : OpenClaim := { program := "ytplfflnkidcglaa", sum := "a9279b339aee0cd67faee7b7ef367885e40d89e44863fe107b489dd05d84b91a", func := "tokenhall/tokenhalllaw.DeskPlays", spec := "deskPlays", unfollowed := true, recurses := true, apart := false }
def DeskPlaysSaid : Prop := deskPlaysRow.holds Try.pinned (OpenSpec.ofChange deskPlaysSpec)

/-- ITS FALSE NEIGHBOUR: 'it returns false'. Refute it at one input. -/
def deskPlaysWrong : ChangeSpec := { name := "deskPlays", fn := fun _ => fun
  | [d1, d2, d3, d4] => { results := [.lit (.bool false)], args := [d1, d2, d3, d4] }
  | _ => none }
def DeskPlaysWrongFalsely : Prop := deskPlaysRow.holds Try.pinned (OpenSpec.ofChange deskPlaysWrong)

/-- 'tokenhallkeep.DeskRole': WHATEVER THE INPUT: true; the input reads as it did. -/
def deskRoleSpec : ChangeSpec := { name := "deskRole", fn := fun _ => fun
  | [d1, d2, d3, d4] => { results := [.lit (.bool true)], args := [d1, d2, d3, d4] }
  | _ => none }
def deskRoleRow : OpenClaim := { program := "ytplfflnkidcglaa", sum := "a9279b339aee0cd67faee7b7ef367885e40d89e44863fe107b489dd05d84b91a", func := "tokenhall/tokenhallkeep.DeskRole", spec := "deskRole", unfollowed := true, recurses := true, apart := false }
def DeskRoleSaid : Prop := deskRoleRow.holds Try.pinned (OpenSpec.ofChange deskRoleSpec)

/-- ITS FALSE NEIGHBOUR: 'it returns false'. Refute it at one input. -/
def deskRoleWrong : ChangeSpec := { name := "deskRole", fn := fun _ => fun
  | [d1, d2, d3, d4] => { results := [.lit (.bool false)], args := [d1, d2, d3, d4] }
  | _ => none }
def DeskRoleWrongFalsely : Prop := deskRoleRow.holds Try.pinned (OpenSpec.ofChange deskRoleWrong)

/-- 'tokenhallkeep.DeskBusy': WHATEVER THE INPUT: true; the input reads as it did. -/
def deskBusySpec : ChangeSpec := { name := "deskBusy", fn := fun _ => fun
  | [d1, d2, d3, d4] => { results := [.lit (.bool true)], args := [d1, d2, d3, d4] }
  | _ => none }
def deskBusyRow : OpenClaim := { program := "ytplfflnkidcglaa", sum := "a9279b339aee0cd67faee7b7ef367885e40d89e44863fe107b489dd05d84b91a", func := "tokenhall/tokenhallkeep.DeskBusy", spec := "deskBusy", unfollowed := true, recurses := true, apart := false }
def DeskBusySaid : Prop := deskBusyRow.holds Try.pinned (OpenSpec.ofChange deskBusySpec)

/-- ITS FALSE NEIGHBOUR: 'it returns false'. Refute it at one input. -/
def deskBusyWrong : ChangeSpec := { name := "deskBusy", fn := fun _ => fun
  | [d1, d2, d3, d4] => { results := [.lit (.bool false)], args := [d1, d2, d3, d4] }
  | _ => none }
def DeskBusyWrongFalsely : Prop := deskBusyRow.holds Try.pinned (OpenSpec.ofChange deskBusyWrong)

/-- 'tokenhallkeep.DeskCase': WHATEVER THE INPUT: true; the input reads as it did. -/
def deskCaseSpec : ChangeSpec := { name := "deskCase", fn := fun _ => fun
  | [d1, d2, d3, d4] => { results := [.lit (.bool true)], args := [d1, d2, d3, d4] }
  | _ => none }
def deskCaseRow : OpenClaim := { program := "ytplfflnkidcglaa", sum := "a9279b339aee0cd67faee7b7ef367885e40d89e44863fe107b489dd05d84b91a", func := "tokenhall/tokenhallkeep.DeskCase", spec := "deskCase", unfollowed := true, recurses := true, apart := false }
def DeskCaseSaid : Prop := deskCaseRow.holds Try.pinned (OpenSpec.ofChange deskCaseSpec)

/-- ITS FALSE NEIGHBOUR: 'it returns false'. Refute it at one input. -/
def deskCaseWrong : ChangeSpec := { name := "deskCase", fn := fun _ => fun
  | [d1, d2, d3, d4] => { results := [.lit (.bool false)], args := [d1, d2, d3, d4] }
  | _ => none }
def DeskCaseWrongFalsely : Prop := deskCaseRow.holds Try.pinned (OpenSpec.ofChange deskCaseWrong)

/-- 'tokenhallkeep.DeskRefused': WHATEVER THE INPUT: true; the input reads as it did. -/
def deskRefusedSpec : ChangeSpec := { name := "deskRefused", fn := fun _ => fun
  | [d1, d2, d3, d4] => { results := [.lit (.bool true)], args := [d1, d2, d3, d4] }
  | _ => none }
def deskRefusedRow : OpenClaim := { program := "ytplfflnkidcglaa", sum := "a9279b339aee0cd67faee7b7ef367885e40d89e44863fe107b489dd05d84b91a", func := "tokenhall/tokenhallkeep.DeskRefused", spec := "deskRefused", unfollowed := true, recurses := true, apart := false }
def DeskRefusedSaid : Prop := deskRefusedRow.holds Try.pinned (OpenSpec.ofChange deskRefusedSpec)

/-- ITS FALSE NEIGHBOUR: 'it returns false'. Refute it at one input. -/
def deskRefusedWrong : ChangeSpec := { name := "deskRefused", fn := fun _ => fun
  | [d1, d2, d3, d4] => { results := [.lit (.bool false)], args := [d1, d2, d3, d4] }
  | _ => none }
def DeskRefusedWrongFalsely : Prop := deskRefusedRow.holds Try.pinned (OpenSpec.ofChange deskRefusedWrong)

/- THE SECOND FORM. 'bulk': how many values and letters a reading holds, each counted each time it is reached (what is shared counts as often as it is met; a slice's spare places count too). A statement '..UptoSaid' is the law's where the arguments, and the package variables that the reading takes, are together of bulk at most 1048576: NARROWER than '..Said'. Prove '..Said' where nothing that the law and all that it calls make is longer than what came in: it says more and counts as full. Else prove '..UptoSaid'. A law counts once. -/
mutual
def uptoBulk {H : Type} : DataW H → Nat
  | .lit (.string bytes) => bytes.length + 1
  | .lit _ => 1
  | .nil => 1
  | .ptr d => uptoBulk d + 1
  | .slice elems spare => uptoBulkAll elems + uptoBulkAll spare + 1
  | .agg parts => uptoBulkAll parts + 1
  | .iface _ d => uptoBulk d + 1
  | .map entries => uptoBulkEntries entries + 1
  | .held _ => 1
def uptoBulkAll {H : Type} : List (DataW H) → Nat
  | [] => 0
  | d :: r => uptoBulk d + uptoBulkAll r
def uptoBulkEntries {H : Type} : List (Lit × DataW H) → Nat
  | [] => 0
  | x :: r => uptoBulkEntry x + uptoBulkEntries r
def uptoBulkEntry {H : Type} : Lit × DataW H → Nat
  | (.string bytes, d) => bytes.length + uptoBulk d + 1
  | (_, d) => uptoBulk d + 1
 end
def uptoSmall : (H : Type) → List (DataW H) → Bool := fun _ ds => decide (uptoBulkAll ds ≤ 1048576)
def OpenSpec.upto (s : _root_.Go.ChangeSpec) : _root_.Go.OpenSpec := { _root_.Go.OpenSpec.ofChange s with cond := some uptoSmall }

/-- 'tokenhalllaw.DeskPlays', WHERE WHAT IT READS IS OF BULK AT MOST 1048576: true; the input reads as it did. -/
def deskPlaysUptoRow : OpenClaim := { program := "ytplfflnkidcglaa", sum := "a9279b339aee0cd67faee7b7ef367885e40d89e44863fe107b489dd05d84b91a", func := "tokenhall/tokenhalllaw.DeskPlays", spec := "deskPlays", unfollowed := true, recurses := true, apart := false, narrowed := true }
def DeskPlaysUptoSaid : Prop := deskPlaysUptoRow.holds Try.pinned (OpenSpec.upto deskPlaysSpec)

/-- 'tokenhallkeep.DeskRole', WHERE WHAT IT READS IS OF BULK AT MOST 1048576: true; the input reads as it did. -/
def deskRoleUptoRow : OpenClaim := { program := "ytplfflnkidcglaa", sum := "a9279b339aee0cd67faee7b7ef367885e40d89e44863fe107b489dd05d84b91a", func := "tokenhall/tokenhallkeep.DeskRole", spec := "deskRole", unfollowed := true, recurses := true, apart := false, narrowed := true }
def DeskRoleUptoSaid : Prop := deskRoleUptoRow.holds Try.pinned (OpenSpec.upto deskRoleSpec)

/-- 'tokenhallkeep.DeskBusy', WHERE WHAT IT READS IS OF BULK AT MOST 1048576: true; the input reads as it did. -/
def deskBusyUptoRow : OpenClaim := { program := "ytplfflnkidcglaa", sum := "a9279b339aee0cd67faee7b7ef367885e40d89e44863fe107b489dd05d84b91a", func := "tokenhall/tokenhallkeep.DeskBusy", spec := "deskBusy", unfollowed := true, recurses := true, apart := false, narrowed := true }
def DeskBusyUptoSaid : Prop := deskBusyUptoRow.holds Try.pinned (OpenSpec.upto deskBusySpec)

/-- 'tokenhallkeep.DeskCase', WHERE WHAT IT READS IS OF BULK AT MOST 1048576: true; the input reads as it did. -/
def deskCaseUptoRow : OpenClaim := { program := "ytplfflnkidcglaa", sum := "a9279b339aee0cd67faee7b7ef367885e40d89e44863fe107b489dd05d84b91a", func := "tokenhall/tokenhallkeep.DeskCase", spec := "deskCase", unfollowed := true, recurses := true, apart := false, narrowed := true }
def DeskCaseUptoSaid : Prop := deskCaseUptoRow.holds Try.pinned (OpenSpec.upto deskCaseSpec)

/-- 'tokenhallkeep.DeskRefused', WHERE WHAT IT READS IS OF BULK AT MOST 1048576: true; the input reads as it did. -/
def deskRefusedUptoRow : OpenClaim := { program := "ytplfflnkidcglaa", sum := "a9279b339aee0cd67faee7b7ef367885e40d89e44863fe107b489dd05d84b91a", func := "tokenhall/tokenhallkeep.DeskRefused", spec := "deskRefused", unfollowed := true, recurses := true, apart := false, narrowed := true }
def DeskRefusedUptoSaid : Prop := deskRefusedUptoRow.holds Try.pinned (OpenSpec.upto deskRefusedSpec)

end Rows
end Go.Proofs.Ytplfflnkidcglaa

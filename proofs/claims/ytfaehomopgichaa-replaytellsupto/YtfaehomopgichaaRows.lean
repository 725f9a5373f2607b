/-
  No cell of these rows narrows 'for every input' (looked for: loops, veiled, ifaces, maps, wideKeys, modest, calm, conditions, laid).
  DERIVED. THE GIVEN ROWS OF THIS SEAT. 3 by the template 'for every input the law returns true; each argument reads behind the call as it read before'; 0 by the template 'total and deterministic' (their statements: YtfaehomopgichaaTotals.lean).
  GIVEN WITH THE SEED: the statements are not yours to turn. If you find one false, say at which input.
  Laid BY PROGRAM, IN A SANDBOX (cutbox-rows.mjs): the forced cells as the released guide's own fill.sh prints them over the translation 66a29369238d658c… (all of the seat's roots in one cut). By AI agents, Wed Nov 11 2026. No macro, syntax, notation, axiom, sorry.
-/
import Derived.Test.YtfaehomopgichaaChecked
import GoSem.Claim
import GoSem.ClaimJoined
import GoSem.ClaimMapViews
import Derived.JoinedTies
import Derived.KernelRfl
namespace Go.Proofs.Ytfaehomopgichaa
/- THE CELL 'sum', in the pinned program and in every row, IS THE sha256 OF THE DUMP (.gsa) THAT YtfaehomopgichaaProg.lean LOADS. Nothing in Lean hashes anything: it is a label: what it is worth is what the hold of that sum in a sandbox is worth. -/
noncomputable def Try.pinned : Pinned := { name := "ytfaehomopgichaa", sum := "66a29369238d658c8801584ef309562c8244cef9f7c64a2cbb7c08abb4235743", checked := Try.checked }
namespace Rows
def none {H : Type} : Left H := { results := [], args := [] }

/-- 'tokenhalllaw.ReplayTells': WHATEVER THE INPUT: true; the input reads as it did. -/
def replayTellsSpec : ChangeSpec := { name := "replayTells", fn := fun _ => fun
  | [d1, d2, d3, d4] => { results := [.lit (.bool true)], args := [d1, d2, d3, d4] }
  | _ => none }
def replayTellsRow : OpenClaim := { program := "ytfaehomopgichaa", sum := "66a29369238d658c8801584ef309562c8244cef9f7c64a2cbb7c08abb4235743", func := "tokenhall/tokenhalllaw.ReplayTells", spec := "replayTells", unfollowed := true, recurses := true, plainKeys := false, apart := false }
def ReplayTellsSaid : Prop := replayTellsRow.holds Try.pinned (OpenSpec.ofChange replayTellsSpec)

/-- ITS FALSE NEIGHBOUR: 'it returns false'. Refute it at one input. -/
def replayTellsWrong : ChangeSpec := { name := "replayTells", fn := fun _ => fun
  | [d1, d2, d3, d4] => { results := [.lit (.bool false)], args := [d1, d2, d3, d4] }
  | _ => none }
def ReplayTellsWrongFalsely : Prop := replayTellsRow.holds Try.pinned (OpenSpec.ofChange replayTellsWrong)

/-- 'tokenhallkeep.ReplaySum': WHATEVER THE INPUT: true; the input reads as it did. -/
def replaySumSpec : ChangeSpec := { name := "replaySum", fn := fun _ => fun
  | [d1, d2, d3, d4] => { results := [.lit (.bool true)], args := [d1, d2, d3, d4] }
  | _ => none }
def replaySumRow : OpenClaim := { program := "ytfaehomopgichaa", sum := "66a29369238d658c8801584ef309562c8244cef9f7c64a2cbb7c08abb4235743", func := "tokenhall/tokenhallkeep.ReplaySum", spec := "replaySum", unfollowed := true, recurses := true, plainKeys := false, apart := false }
def ReplaySumSaid : Prop := replaySumRow.holds Try.pinned (OpenSpec.ofChange replaySumSpec)

/-- ITS FALSE NEIGHBOUR: 'it returns false'. Refute it at one input. -/
def replaySumWrong : ChangeSpec := { name := "replaySum", fn := fun _ => fun
  | [d1, d2, d3, d4] => { results := [.lit (.bool false)], args := [d1, d2, d3, d4] }
  | _ => none }
def ReplaySumWrongFalsely : Prop := replaySumRow.holds Try.pinned (OpenSpec.ofChange replaySumWrong)

/-- 'tokenhallkeep.ReplayRun': WHATEVER THE INPUT: true; the input reads as it did. -/
def replayRunSpec : ChangeSpec := { name := "replayRun", fn := fun _ => fun
  | [d1, d2, d3, d4] => { results := [.lit (.bool true)], args := [d1, d2, d3, d4] }
  | _ => none }
def replayRunRow : OpenClaim := { program := "ytfaehomopgichaa", sum := "66a29369238d658c8801584ef309562c8244cef9f7c64a2cbb7c08abb4235743", func := "tokenhall/tokenhallkeep.ReplayRun", spec := "replayRun", unfollowed := true, recurses := true, plainKeys := false, apart := false }
def ReplayRunSaid : Prop := replayRunRow.holds Try.pinned (OpenSpec.ofChange replayRunSpec)

/-- ITS FALSE NEIGHBOUR: 'it returns false'. Refute it at one input. -/
def replayRunWrong : ChangeSpec := { name := "replayRun", fn := fun _ => fun
  | [d1, d2, d3, d4] => { results := [.lit (.bool false)], args := [d1, d2, d3, d4] }
  | _ => none }
def ReplayRunWrongFalsely : Prop := replayRunRow.holds Try.pinned (OpenSpec.ofChange replayRunWrong)

/- THE SECOND FORM. 'bulk': how many values and letters a reading holds, each counted each time it is reached (what is shared counts as often as it is met; a slice's spare places count too). A statement '..UptoSaid' is the law's where the arguments, and the package variables that the reading takes, are together of bulk at most 1048576: NARROWER than '..Said'. Prove '..Said' where nothing that the law and all that it calls make is longer than what came in: it says more and counts as full. Else prove '..UptoSaid'. A law counts once. -/
mutual
def uptoBulk {H : Type} : DataW H → Nat
  | .lit (.string bytes) => bytes.length + 1
  | .lit _ => 1
  | .nil => 1
  | .ptr d => uptoBulk d + 1
  | .slice elems spare => uptoBulkAll elems + uptoBulkAll spare + 1
  | .agg parts => uptoBulkAll parts + 1
  | .iface _ d => uptoBulk d + 1
  | .map entries => uptoBulkEntries entries + 1
  | .held _ => 1
def uptoBulkAll {H : Type} : List (DataW H) → Nat
  | [] => 0
  | d :: r => uptoBulk d + uptoBulkAll r
def uptoBulkEntries {H : Type} : List (Lit × DataW H) → Nat
  | [] => 0
  | x :: r => uptoBulkEntry x + uptoBulkEntries r
def uptoBulkEntry {H : Type} : Lit × DataW H → Nat
  | (.string bytes, d) => bytes.length + uptoBulk d + 1
  | (_, d) => uptoBulk d + 1
 end
def uptoSmall : (H : Type) → List (DataW H) → Bool := fun _ ds => decide (uptoBulkAll ds ≤ 1048576)
def OpenSpec.upto (s : _root_.Go.ChangeSpec) : _root_.Go.OpenSpec := { _root_.Go.OpenSpec.ofChange s with cond := some uptoSmall }

/-- 'tokenhalllaw.ReplayTells', WHERE WHAT IT READS IS OF BULK AT MOST 1048576: true; the input reads as it did. -/
def replayTellsUptoRow : OpenClaim := { program := "ytfaehomopgichaa", sum := "66a29369238d658c8801584ef309562c8244cef9f7c64a2cbb7c08abb4235743", func := "tokenhall/tokenhalllaw.ReplayTells", spec := "replayTells", unfollowed := true, recurses := true, plainKeys := false, apart := false, narrowed := true }
def ReplayTellsUptoSaid : Prop := replayTellsUptoRow.holds Try.pinned (OpenSpec.upto replayTellsSpec)

/-- 'tokenhallkeep.ReplaySum', WHERE WHAT IT READS IS OF BULK AT MOST 1048576: true; the input reads as it did. -/
def replaySumUptoRow : OpenClaim := { program := "ytfaehomopgichaa", sum := "66a29369238d658c8801584ef309562c8244cef9f7c64a2cbb7c08abb4235743", func := "tokenhall/tokenhallkeep.ReplaySum", spec := "replaySum", unfollowed := true, recurses := true, plainKeys := false, apart := false, narrowed := true }
def ReplaySumUptoSaid : Prop := replaySumUptoRow.holds Try.pinned (OpenSpec.upto replaySumSpec)

/-- 'tokenhallkeep.ReplayRun', WHERE WHAT IT READS IS OF BULK AT MOST 1048576: true; the input reads as it did. -/
def replayRunUptoRow : OpenClaim := { program := "ytfaehomopgichaa", sum := "66a29369238d658c8801584ef309562c8244cef9f7c64a2cbb7c08abb4235743", func := "tokenhall/tokenhallkeep.ReplayRun", spec := "replayRun", unfollowed := true, recurses := true, plainKeys := false, apart := false, narrowed := true }
def ReplayRunUptoSaid : Prop := replayRunUptoRow.holds Try.pinned (OpenSpec.upto replayRunSpec)

end Rows
end Go.Proofs.Ytfaehomopgichaa

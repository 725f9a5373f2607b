/-
  No cell of these rows narrows 'for every input' (looked for: loops, veiled, ifaces, maps, wideKeys, modest, calm, conditions, laid).
  DERIVED. THE GIVEN ROWS OF THIS SEAT. 4 by the template 'for every input the law returns true; each argument reads behind the call as it read before'; 0 by the template 'total and deterministic' (their statements: YtlejaeecfeiajaaTotals.lean).
  GIVEN WITH THE SEED: the statements are not yours to turn. If you find one false, say at which input.
  Laid BY PROGRAM, IN A SANDBOX (cutbox-rows.mjs): the forced cells as the released guide's own fill.sh prints them over the translation f929c9e887d2749c… (all of the seat's roots in one cut). By AI agents, Wed Nov 11 2026. No macro, syntax, notation, axiom, sorry.
-/
import Derived.Test.YtlejaeecfeiajaaChecked
import GoSem.Claim
import GoSem.ClaimJoined
import GoSem.ClaimMapViews
import Derived.JoinedTies
import Derived.KernelRfl
namespace Go.Proofs.Ytlejaeecfeiajaa
/- THE CELL 'sum', in the pinned program and in every row, IS THE sha256 OF THE DUMP (.gsa) THAT YtlejaeecfeiajaaProg.lean LOADS. Nothing in Lean hashes anything: it is a label: what it is worth is what the hold of that sum in a sandbox is worth. -/
noncomputable def Try.pinned : Pinned := { name := "ytlejaeecfeiajaa", sum := "f929c9e887d2749c563545a1af69f8b49be63314c4ff00b51fbd14adc7f7e7d9", checked := Try.checked }
namespace Rows
def none {H : Type} : Left H := { results := [], args := [] }

/-- 'tokenhalllaw.LiveTells': WHATEVER THE INPUT: true; the input reads as it did. -/
def liveTellsSpec : ChangeSpec := { name := "liveTells", fn := fun _ => fun
  | [d1, d2] => { results := [.lit (.bool true)], args := [d1, d2] }
  | _ => none }
def liveTellsRow : OpenClaim := { program := "ytlejaeecfeiajaa", sum := "f929c9e887d2749c563545a1af69f8b49be63314c4ff00b51fbd14adc7f7e7d9", func := "tokenhall/tokenhalllaw.LiveTells", spec := "liveTells", unfollowed := true, recurses := true, plainKeys := false, apart := false }
def LiveTellsSaid : Prop := liveTellsRow.holds Try.pinned (OpenSpec.ofChange liveTellsSpec)

/-- ITS FALSE NEIGHBOUR: 'it returns false'. Refute it at one input. -/
def liveTellsWrong : ChangeSpec := { name := "liveTells", fn := fun _ => fun
  | [d1, d2] => { results := [.lit (.bool false)], args := [d1, d2] }
  | _ => none }
def LiveTellsWrongFalsely : Prop := liveTellsRow.holds Try.pinned (OpenSpec.ofChange liveTellsWrong)

/-- 'tokenhallkeep.LiveRuns': WHATEVER THE INPUT: true; the input reads as it did. -/
def liveRunsSpec : ChangeSpec := { name := "liveRuns", fn := fun _ => fun
  | [d1, d2, d3, d4] => { results := [.lit (.bool true)], args := [d1, d2, d3, d4] }
  | _ => none }
def liveRunsRow : OpenClaim := { program := "ytlejaeecfeiajaa", sum := "f929c9e887d2749c563545a1af69f8b49be63314c4ff00b51fbd14adc7f7e7d9", func := "tokenhall/tokenhallkeep.LiveRuns", spec := "liveRuns", unfollowed := true, recurses := true, plainKeys := false, apart := false }
def LiveRunsSaid : Prop := liveRunsRow.holds Try.pinned (OpenSpec.ofChange liveRunsSpec)

/-- ITS FALSE NEIGHBOUR: 'it returns false'. Refute it at one input. -/
def liveRunsWrong : ChangeSpec := { name := "liveRuns", fn := fun _ => fun
  | [d1, d2, d3, d4] => { results := [.lit (.bool false)], args := [d1, d2, d3, d4] }
  | _ => none }
def LiveRunsWrongFalsely : Prop := liveRunsRow.holds Try.pinned (OpenSpec.ofChange liveRunsWrong)

/-- 'tokenhallkeep.LiveDead': WHATEVER THE INPUT: true; the input reads as it did. -/
def liveDeadSpec : ChangeSpec := { name := "liveDead", fn := fun _ => fun
  | [d1, d2, d3] => { results := [.lit (.bool true)], args := [d1, d2, d3] }
  | _ => none }
def liveDeadRow : OpenClaim := { program := "ytlejaeecfeiajaa", sum := "f929c9e887d2749c563545a1af69f8b49be63314c4ff00b51fbd14adc7f7e7d9", func := "tokenhall/tokenhallkeep.LiveDead", spec := "liveDead", unfollowed := true, recurses := true, plainKeys := false, apart := false }
def LiveDeadSaid : Prop := liveDeadRow.holds Try.pinned (OpenSpec.ofChange liveDeadSpec)

/-- ITS FALSE NEIGHBOUR: 'it returns false'. Refute it at one input. -/
def liveDeadWrong : ChangeSpec := { name := "liveDead", fn := fun _ => fun
  | [d1, d2, d3] => { results := [.lit (.bool false)], args := [d1, d2, d3] }
  | _ => none }
def LiveDeadWrongFalsely : Prop := liveDeadRow.holds Try.pinned (OpenSpec.ofChange liveDeadWrong)

/-- 'tokenhallkeep.LiveStuck': WHATEVER THE INPUT: true; the input reads as it did. -/
def liveStuckSpec : ChangeSpec := { name := "liveStuck", fn := fun _ => fun
  | [d1, d2] => { results := [.lit (.bool true)], args := [d1, d2] }
  | _ => none }
def liveStuckRow : OpenClaim := { program := "ytlejaeecfeiajaa", sum := "f929c9e887d2749c563545a1af69f8b49be63314c4ff00b51fbd14adc7f7e7d9", func := "tokenhall/tokenhallkeep.LiveStuck", spec := "liveStuck", unfollowed := true, recurses := true, plainKeys := false, apart := false }
def LiveStuckSaid : Prop := liveStuckRow.holds Try.pinned (OpenSpec.ofChange liveStuckSpec)

/-- ITS FALSE NEIGHBOUR: 'it returns false'. Refute it at one input. -/
def liveStuckWrong : ChangeSpec := { name := "liveStuck", fn := fun _ => fun
  | [d1, d2] => { results := [.lit (.bool false)], args := [d1, d2] }
  | _ => none }
def LiveStuckWrongFalsely : Prop := liveStuckRow.holds Try.pinned (OpenSpec.ofChange liveStuckWrong)

/- THE SECOND FORM. 'bulk': how many values and letters a reading holds, each counted each time it is reached (what is shared counts as often as it is met; a slice's spare places count too). A statement '..UptoSaid' is the law's where the arguments, and the package variables that the reading takes, are together of bulk at most 1048576: NARROWER than '..Said'. Prove '..Said' where nothing that the law and all that it calls make is longer than what came in: it says more and counts as full. Else prove '..UptoSaid'. A law counts once. -/
mutual
def uptoBulk {H : Type} : DataW H → Nat
  | .lit (.string bytes) => bytes.length + 1
  | .lit _ => 1
  | .nil => 1
  | .ptr d => uptoBulk d + 1
  | .slice elems spare => uptoBulkAll elems + uptoBulkAll spare + 1
  | .agg parts => uptoBulkAll parts + 1
  | .iface _ d => uptoBulk d + 1
  | .map entries => uptoBulkEntries entries + 1
  | .held _ => 1
def uptoBulkAll {H : Type} : List (DataW H) → Nat
  | [] => 0
  | d :: r => uptoBulk d + uptoBulkAll r
def uptoBulkEntries {H : Type} : List (Lit × DataW H) → Nat
  | [] => 0
  | x :: r => uptoBulkEntry x + uptoBulkEntries r
def uptoBulkEntry {H : Type} : Lit × DataW H → Nat
  | (.string bytes, d) => bytes.length + uptoBulk d + 1
  | (_, d) => uptoBulk d + 1
 end
def uptoSmall : (H : Type) → List (DataW H) → Bool := fun _ ds => decide (uptoBulkAll ds ≤ 1048576)
def OpenSpec.upto (s : _root_.Go.ChangeSpec) : _root_.Go.OpenSpec := { _root_.Go.OpenSpec.ofChange s with cond := some uptoSmall }

/-- 'tokenhalllaw.LiveTells', WHERE WHAT IT READS IS OF BULK AT MOST 1048576: true; the input reads as it did. -/
def liveTellsUptoRow : OpenClaim := { program := "ytlejaeecfeiajaa", sum := "f929c9e887d2749c563545a1af69f8b49be63314c4ff00b51fbd14adc7f7e7d9", func := "tokenhall/tokenhalllaw.LiveTells", spec := "liveTells", unfollowed := true, recurses := true, plainKeys := false, apart := false, narrowed := true }
def LiveTellsUptoSaid : Prop := liveTellsUptoRow.holds Try.pinned (OpenSpec.upto liveTellsSpec)

/-- 'tokenhallkeep.LiveRuns', WHERE WHAT IT READS IS OF BULK AT MOST 1048576: true; the input reads as it did. -/
def liveRunsUptoRow : OpenClaim := { program := "ytlejaeecfeiajaa", sum := "f929c9e887d2749c563545a1af69f8b49be63314c4ff00b51fbd14adc7f7e7d9", func := "tokenhall/tokenhallkeep.LiveRuns", spec := "liveRuns", unfollowed := true, recurses := true, plainKeys := false, apart := false, narrowed := true }
def LiveRunsUptoSaid : Prop := liveRunsUptoRow.holds Try.pinned (OpenSpec.upto liveRunsSpec)

/-- 'tokenhallkeep.LiveDead', WHERE WHAT IT READS IS OF BULK AT MOST 1048576: true; the input reads as it did. -/
def liveDeadUptoRow : OpenClaim := { program := "ytlejaeecfeiajaa", sum := "f929c9e887d2749c563545a1af69f8b49be63314c4ff00b51fbd14adc7f7e7d9", func := "tokenhall/tokenhallkeep.LiveDead", spec := "liveDead", unfollowed := true, recurses := true, plainKeys := false, apart := false, narrowed := true }
def LiveDeadUptoSaid : Prop := liveDeadUptoRow.holds Try.pinned (OpenSpec.upto liveDeadSpec)

/-- 'tokenhallkeep.LiveStuck', WHERE WHAT IT READS IS OF BULK AT MOST 1048576: true; the input reads as it did. -/
def liveStuckUptoRow : OpenClaim := { program := "ytlejaeecfeiajaa", sum := "f929c9e887d2749c563545a1af69f8b49be63314c4ff00b51fbd14adc7f7e7d9", func := "tokenhall/tokenhallkeep.LiveStuck", spec := "liveStuck", unfollowed := true, recurses := true, plainKeys := false, apart := false, narrowed := true }
def LiveStuckUptoSaid : Prop := liveStuckUptoRow.holds Try.pinned (OpenSpec.upto liveStuckSpec)

end Rows
end Go.Proofs.Ytlejaeecfeiajaa

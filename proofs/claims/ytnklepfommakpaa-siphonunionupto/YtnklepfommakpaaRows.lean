/-
  No cell of these rows narrows 'for every input' (looked for: loops, veiled, ifaces, maps, wideKeys, modest, calm, conditions, laid).
  DERIVED. THE GIVEN ROWS OF THIS SEAT. 6 by the template 'for every input the law returns true; each argument reads behind the call as it read before'; 0 by the template 'total and deterministic' (their statements: YtnklepfommakpaaTotals.lean).
  GIVEN WITH THE SEED: the statements are not yours to turn. If you find one false, say at which input.
  Laid BY PROGRAM, IN A SANDBOX (cutbox-rows.mjs): the forced cells as the released guide's own fill.sh prints them over the translation fa886712397ba2e2… (all of the seat's roots in one cut). By AI agents, Wed Nov 11 2026. No macro, syntax, notation, axiom, sorry.
-/
import Derived.Test.YtnklepfommakpaaChecked
import GoSem.Claim
import GoSem.ClaimJoined
import GoSem.ClaimMapViews
import Derived.JoinedTies
import Derived.KernelRfl
namespace Go.Proofs.Ytnklepfommakpaa
/- THE CELL 'sum', in the pinned program and in every row, IS THE sha256 OF THE DUMP (.gsa) THAT YtnklepfommakpaaProg.lean LOADS. Nothing in Lean hashes anything: it is a label: what it is worth is what the hold of that sum in a sandbox is worth. -/
noncomputable def Try.pinned : Pinned := { name := "ytnklepfommakpaa", sum := "fa886712397ba2e272f4cacce3bb3a1f9493f902445c900012bbcd0256f199ac", checked := Try.checked }
namespace Rows
def none {H : Type} : Left H := { results := [], args := [] }

/-- 'tokenhalllaw.SiphonTells': WHATEVER THE INPUT: true; the input reads as it did. -/
def siphonTellsSpec : ChangeSpec := { name := "siphonTells", fn := fun _ => fun
  | [d1, d2] => { results := [.lit (.bool true)], args := [d1, d2] }
  | _ => none }
def siphonTellsRow : OpenClaim := { program := "ytnklepfommakpaa", sum := "fa886712397ba2e272f4cacce3bb3a1f9493f902445c900012bbcd0256f199ac", func := "tokenhall/tokenhalllaw.SiphonTells", spec := "siphonTells", unfollowed := true, recurses := true, apart := false }
def SiphonTellsSaid : Prop := siphonTellsRow.holds Try.pinned (OpenSpec.ofChange siphonTellsSpec)

/-- ITS FALSE NEIGHBOUR: 'it returns false'. Refute it at one input. -/
def siphonTellsWrong : ChangeSpec := { name := "siphonTells", fn := fun _ => fun
  | [d1, d2] => { results := [.lit (.bool false)], args := [d1, d2] }
  | _ => none }
def SiphonTellsWrongFalsely : Prop := siphonTellsRow.holds Try.pinned (OpenSpec.ofChange siphonTellsWrong)

/-- 'tokenhallkeep.SiphonEmpty': WHATEVER THE INPUT: true; the input reads as it did. -/
def siphonEmptySpec : ChangeSpec := { name := "siphonEmpty", fn := fun _ => fun
  | [d1, d2, d3, d4] => { results := [.lit (.bool true)], args := [d1, d2, d3, d4] }
  | _ => none }
def siphonEmptyRow : OpenClaim := { program := "ytnklepfommakpaa", sum := "fa886712397ba2e272f4cacce3bb3a1f9493f902445c900012bbcd0256f199ac", func := "tokenhall/tokenhallkeep.SiphonEmpty", spec := "siphonEmpty", unfollowed := true, recurses := true, apart := false }
def SiphonEmptySaid : Prop := siphonEmptyRow.holds Try.pinned (OpenSpec.ofChange siphonEmptySpec)

/-- ITS FALSE NEIGHBOUR: 'it returns false'. Refute it at one input. -/
def siphonEmptyWrong : ChangeSpec := { name := "siphonEmpty", fn := fun _ => fun
  | [d1, d2, d3, d4] => { results := [.lit (.bool false)], args := [d1, d2, d3, d4] }
  | _ => none }
def SiphonEmptyWrongFalsely : Prop := siphonEmptyRow.holds Try.pinned (OpenSpec.ofChange siphonEmptyWrong)

/-- 'tokenhallkeep.SiphonTrap': WHATEVER THE INPUT: true; the input reads as it did. -/
def siphonTrapSpec : ChangeSpec := { name := "siphonTrap", fn := fun _ => fun
  | [d1, d2, d3, d4] => { results := [.lit (.bool true)], args := [d1, d2, d3, d4] }
  | _ => none }
def siphonTrapRow : OpenClaim := { program := "ytnklepfommakpaa", sum := "fa886712397ba2e272f4cacce3bb3a1f9493f902445c900012bbcd0256f199ac", func := "tokenhall/tokenhallkeep.SiphonTrap", spec := "siphonTrap", unfollowed := true, recurses := true, apart := false }
def SiphonTrapSaid : Prop := siphonTrapRow.holds Try.pinned (OpenSpec.ofChange siphonTrapSpec)

/-- ITS FALSE NEIGHBOUR: 'it returns false'. Refute it at one input. -/
def siphonTrapWrong : ChangeSpec := { name := "siphonTrap", fn := fun _ => fun
  | [d1, d2, d3, d4] => { results := [.lit (.bool false)], args := [d1, d2, d3, d4] }
  | _ => none }
def SiphonTrapWrongFalsely : Prop := siphonTrapRow.holds Try.pinned (OpenSpec.ofChange siphonTrapWrong)

/-- 'tokenhallkeep.SiphonUnion': WHATEVER THE INPUT: true; the input reads as it did. -/
def siphonUnionSpec : ChangeSpec := { name := "siphonUnion", fn := fun _ => fun
  | [d1, d2, d3] => { results := [.lit (.bool true)], args := [d1, d2, d3] }
  | _ => none }
def siphonUnionRow : OpenClaim := { program := "ytnklepfommakpaa", sum := "fa886712397ba2e272f4cacce3bb3a1f9493f902445c900012bbcd0256f199ac", func := "tokenhall/tokenhallkeep.SiphonUnion", spec := "siphonUnion", unfollowed := true, recurses := true, apart := false }
def SiphonUnionSaid : Prop := siphonUnionRow.holds Try.pinned (OpenSpec.ofChange siphonUnionSpec)

/-- ITS FALSE NEIGHBOUR: 'it returns false'. Refute it at one input. -/
def siphonUnionWrong : ChangeSpec := { name := "siphonUnion", fn := fun _ => fun
  | [d1, d2, d3] => { results := [.lit (.bool false)], args := [d1, d2, d3] }
  | _ => none }
def SiphonUnionWrongFalsely : Prop := siphonUnionRow.holds Try.pinned (OpenSpec.ofChange siphonUnionWrong)

/-- 'tokenhallkeep.SiphonDead': WHATEVER THE INPUT: true; the input reads as it did. -/
def siphonDeadSpec : ChangeSpec := { name := "siphonDead", fn := fun _ => fun
  | [d1, d2] => { results := [.lit (.bool true)], args := [d1, d2] }
  | _ => none }
def siphonDeadRow : OpenClaim := { program := "ytnklepfommakpaa", sum := "fa886712397ba2e272f4cacce3bb3a1f9493f902445c900012bbcd0256f199ac", func := "tokenhall/tokenhallkeep.SiphonDead", spec := "siphonDead", unfollowed := true, recurses := true, apart := false }
def SiphonDeadSaid : Prop := siphonDeadRow.holds Try.pinned (OpenSpec.ofChange siphonDeadSpec)

/-- ITS FALSE NEIGHBOUR: 'it returns false'. Refute it at one input. -/
def siphonDeadWrong : ChangeSpec := { name := "siphonDead", fn := fun _ => fun
  | [d1, d2] => { results := [.lit (.bool false)], args := [d1, d2] }
  | _ => none }
def SiphonDeadWrongFalsely : Prop := siphonDeadRow.holds Try.pinned (OpenSpec.ofChange siphonDeadWrong)

/-- 'tokenhallkeep.SiphonCommoner': WHATEVER THE INPUT: true; the input reads as it did. -/
def siphonCommonerSpec : ChangeSpec := { name := "siphonCommoner", fn := fun _ => fun
  | [d1, d2, d3] => { results := [.lit (.bool true)], args := [d1, d2, d3] }
  | _ => none }
def siphonCommonerRow : OpenClaim := { program := "ytnklepfommakpaa", sum := "fa886712397ba2e272f4cacce3bb3a1f9493f902445c900012bbcd0256f199ac", func := "tokenhall/tokenhallkeep.SiphonCommoner", spec := "siphonCommoner", unfollowed := true, recurses := true, apart := false }
def SiphonCommonerSaid : Prop := siphonCommonerRow.holds Try.pinned (OpenSpec.ofChange siphonCommonerSpec)

/-- ITS FALSE NEIGHBOUR: 'it returns false'. Refute it at one input. -/
def siphonCommonerWrong : ChangeSpec := { name := "siphonCommoner", fn := fun _ => fun
  | [d1, d2, d3] => { results := [.lit (.bool false)], args := [d1, d2, d3] }
  | _ => none }
def SiphonCommonerWrongFalsely : Prop := siphonCommonerRow.holds Try.pinned (OpenSpec.ofChange siphonCommonerWrong)

/- THE SECOND FORM. 'bulk': how many values and letters a reading holds, each counted each time it is reached (what is shared counts as often as it is met; a slice's spare places count too). A statement '..UptoSaid' is the law's where the arguments, and the package variables that the reading takes, are together of bulk at most 1048576: NARROWER than '..Said'. Prove '..Said' where nothing that the law and all that it calls make is longer than what came in: it says more and counts as full. Else prove '..UptoSaid'. A law counts once. -/
mutual
def uptoBulk {H : Type} : DataW H → Nat
  | .lit (.string bytes) => bytes.length + 1
  | .lit _ => 1
  | .nil => 1
  | .ptr d => uptoBulk d + 1
  | .slice elems spare => uptoBulkAll elems + uptoBulkAll spare + 1
  | .agg parts => uptoBulkAll parts + 1
  | .iface _ d => uptoBulk d + 1
  | .map entries => uptoBulkEntries entries + 1
  | .held _ => 1
def uptoBulkAll {H : Type} : List (DataW H) → Nat
  | [] => 0
  | d :: r => uptoBulk d + uptoBulkAll r
def uptoBulkEntries {H : Type} : List (Lit × DataW H) → Nat
  | [] => 0
  | x :: r => uptoBulkEntry x + uptoBulkEntries r
def uptoBulkEntry {H : Type} : Lit × DataW H → Nat
  | (.string bytes, d) => bytes.length + uptoBulk d + 1
  | (_, d) => uptoBulk d + 1
 end
def uptoSmall : (H : Type) → List (DataW H) → Bool := fun _ ds => decide (uptoBulkAll ds ≤ 1048576)
def OpenSpec.upto (s : _root_.Go.ChangeSpec) : _root_.Go.OpenSpec := { _root_.Go.OpenSpec.ofChange s with cond := some uptoSmall }

/-- 'tokenhalllaw.SiphonTells', WHERE WHAT IT READS IS OF BULK AT MOST 1048576: true; the input reads as it did. -/
def siphonTellsUptoRow : OpenClaim := { program := "ytnklepfommakpaa", sum := "fa886712397ba2e272f4cacce3bb3a1f9493f902445c900012bbcd0256f199ac", func := "tokenhall/tokenhalllaw.SiphonTells", spec := "siphonTells", unfollowed := true, recurses := true, apart := false, narrowed := true }
def SiphonTellsUptoSaid : Prop := siphonTellsUptoRow.holds Try.pinned (OpenSpec.upto siphonTellsSpec)

/-- 'tokenhallkeep.SiphonEmpty', WHERE WHAT IT READS IS OF BULK AT MOST 1048576: true; the input reads as it did. -/
def siphonEmptyUptoRow : OpenClaim := { program := "ytnklepfommakpaa", sum := "fa886712397ba2e272f4cacce3bb3a1f9493f902445c900012bbcd0256f199ac", func := "tokenhall/tokenhallkeep.SiphonEmpty", spec := "siphonEmpty", unfollowed := true, recurses := true, apart := false, narrowed := true }
def SiphonEmptyUptoSaid : Prop := siphonEmptyUptoRow.holds Try.pinned (OpenSpec.upto siphonEmptySpec)

/-- 'tokenhallkeep.SiphonTrap', WHERE WHAT IT READS IS OF BULK AT MOST 1048576: true; the input reads as it did. -/
def siphonTrapUptoRow : OpenClaim := { program := "ytnklepfommakpaa", sum := "fa886712397ba2e272f4cacce3bb3a1f9493f902445c900012bbcd0256f199ac", func := "tokenhall/tokenhallkeep.SiphonTrap", spec := "siphonTrap", unfollowed := true, recurses := true, apart := false, narrowed := true }
def SiphonTrapUptoSaid : Prop := siphonTrapUptoRow.holds Try.pinned (OpenSpec.upto siphonTrapSpec)

/-- 'tokenhallkeep.SiphonUnion', WHERE WHAT IT READS IS OF BULK AT MOST 1048576: true; the input reads as it did. -/
def siphonUnionUptoRow : OpenClaim := { program := "ytnklepfommakpaa", sum := "fa886712397ba2e272f4cacce3bb3a1f9493f902445c900012bbcd0256f199ac", func := "tokenhall/tokenhallkeep.SiphonUnion", spec := "siphonUnion", unfollowed := true, recurses := true, apart := false, narrowed := true }
def SiphonUnionUptoSaid : Prop := siphonUnionUptoRow.holds Try.pinned (OpenSpec.upto siphonUnionSpec)

/-- 'tokenhallkeep.SiphonDead', WHERE WHAT IT READS IS OF BULK AT MOST 1048576: true; the input reads as it did. -/
def siphonDeadUptoRow : OpenClaim := { program := "ytnklepfommakpaa", sum := "fa886712397ba2e272f4cacce3bb3a1f9493f902445c900012bbcd0256f199ac", func := "tokenhall/tokenhallkeep.SiphonDead", spec := "siphonDead", unfollowed := true, recurses := true, apart := false, narrowed := true }
def SiphonDeadUptoSaid : Prop := siphonDeadUptoRow.holds Try.pinned (OpenSpec.upto siphonDeadSpec)

/-- 'tokenhallkeep.SiphonCommoner', WHERE WHAT IT READS IS OF BULK AT MOST 1048576: true; the input reads as it did. -/
def siphonCommonerUptoRow : OpenClaim := { program := "ytnklepfommakpaa", sum := "fa886712397ba2e272f4cacce3bb3a1f9493f902445c900012bbcd0256f199ac", func := "tokenhall/tokenhallkeep.SiphonCommoner", spec := "siphonCommoner", unfollowed := true, recurses := true, apart := false, narrowed := true }
def SiphonCommonerUptoSaid : Prop := siphonCommonerUptoRow.holds Try.pinned (OpenSpec.upto siphonCommonerSpec)

end Rows
end Go.Proofs.Ytnklepfommakpaa

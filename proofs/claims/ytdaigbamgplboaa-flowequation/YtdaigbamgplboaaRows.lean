/-
  No cell of these rows narrows 'for every input' (looked for: loops, veiled, ifaces, maps, wideKeys, modest, calm, conditions, laid).
  DERIVED. THE GIVEN ROWS OF THIS SEAT. 6 by the template 'for every input the law returns true; each argument reads behind the call as it read before'; 0 by the template 'total and deterministic' (their statements: YtdaigbamgplboaaTotals.lean).
  GIVEN WITH THE SEED: the statements are not yours to turn. If you find one false, say at which input.
  Laid BY PROGRAM, IN A SANDBOX (cutbox-rows.mjs): the forced cells as the released guide's own fill.sh prints them over the translation e7e1a01ae526efdb… (all of the seat's roots in one cut). By AI agents, Wed Nov 11 2026. No macro, syntax, notation, axiom, sorry.
-/
import Derived.Test.YtdaigbamgplboaaChecked
import GoSem.Claim
import GoSem.ClaimJoined
import GoSem.ClaimMapViews
import Derived.JoinedTies
import Derived.KernelRfl
namespace Go.Proofs.Ytdaigbamgplboaa
/- THE CELL 'sum', in the pinned program and in every row, IS THE sha256 OF THE DUMP (.gsa) THAT YtdaigbamgplboaaProg.lean LOADS. Nothing in Lean hashes anything: it is a label: what it is worth is what the hold of that sum in a sandbox is worth. -/
noncomputable def Try.pinned : Pinned := { name := "ytdaigbamgplboaa", sum := "e7e1a01ae526efdbbc0109704bede2428c6801a24d4d27ed15aafbc4300ac61d", checked := Try.checked }
namespace Rows
def none {H : Type} : Left H := { results := [], args := [] }

/-- 'tokenhalllaw.FlowTells': WHATEVER THE INPUT: true; the input reads as it did. -/
def flowTellsSpec : ChangeSpec := { name := "flowTells", fn := fun _ => fun
  | [d1, d2, d3, d4] => { results := [.lit (.bool true)], args := [d1, d2, d3, d4] }
  | _ => none }
def flowTellsRow : OpenClaim := { program := "ytdaigbamgplboaa", sum := "e7e1a01ae526efdbbc0109704bede2428c6801a24d4d27ed15aafbc4300ac61d", func := "tokenhall/tokenhalllaw.FlowTells", spec := "flowTells", recurses := true, apart := false }
def FlowTellsSaid : Prop := flowTellsRow.holds Try.pinned (OpenSpec.ofChange flowTellsSpec)

/-- ITS FALSE NEIGHBOUR: 'it returns false'. Refute it at one input. -/
def flowTellsWrong : ChangeSpec := { name := "flowTells", fn := fun _ => fun
  | [d1, d2, d3, d4] => { results := [.lit (.bool false)], args := [d1, d2, d3, d4] }
  | _ => none }
def FlowTellsWrongFalsely : Prop := flowTellsRow.holds Try.pinned (OpenSpec.ofChange flowTellsWrong)

/-- 'tokenhallkeep.FlowEquation': WHATEVER THE INPUT: true; the input reads as it did. -/
def flowEquationSpec : ChangeSpec := { name := "flowEquation", fn := fun _ => fun
  | [d1, d2, d3] => { results := [.lit (.bool true)], args := [d1, d2, d3] }
  | _ => none }
def flowEquationRow : OpenClaim := { program := "ytdaigbamgplboaa", sum := "e7e1a01ae526efdbbc0109704bede2428c6801a24d4d27ed15aafbc4300ac61d", func := "tokenhall/tokenhallkeep.FlowEquation", spec := "flowEquation", unfollowed := true, recurses := true, apart := false }
def FlowEquationSaid : Prop := flowEquationRow.holds Try.pinned (OpenSpec.ofChange flowEquationSpec)

/-- ITS FALSE NEIGHBOUR: 'it returns false'. Refute it at one input. -/
def flowEquationWrong : ChangeSpec := { name := "flowEquation", fn := fun _ => fun
  | [d1, d2, d3] => { results := [.lit (.bool false)], args := [d1, d2, d3] }
  | _ => none }
def FlowEquationWrongFalsely : Prop := flowEquationRow.holds Try.pinned (OpenSpec.ofChange flowEquationWrong)

/-- 'tokenhallkeep.FlowKept': WHATEVER THE INPUT: true; the input reads as it did. -/
def flowKeptSpec : ChangeSpec := { name := "flowKept", fn := fun _ => fun
  | [d1, d2, d3, d4] => { results := [.lit (.bool true)], args := [d1, d2, d3, d4] }
  | _ => none }
def flowKeptRow : OpenClaim := { program := "ytdaigbamgplboaa", sum := "e7e1a01ae526efdbbc0109704bede2428c6801a24d4d27ed15aafbc4300ac61d", func := "tokenhall/tokenhallkeep.FlowKept", spec := "flowKept", unfollowed := true, recurses := true, apart := false }
def FlowKeptSaid : Prop := flowKeptRow.holds Try.pinned (OpenSpec.ofChange flowKeptSpec)

/-- ITS FALSE NEIGHBOUR: 'it returns false'. Refute it at one input. -/
def flowKeptWrong : ChangeSpec := { name := "flowKept", fn := fun _ => fun
  | [d1, d2, d3, d4] => { results := [.lit (.bool false)], args := [d1, d2, d3, d4] }
  | _ => none }
def FlowKeptWrongFalsely : Prop := flowKeptRow.holds Try.pinned (OpenSpec.ofChange flowKeptWrong)

/-- 'tokenhallkeep.FlowBound': WHATEVER THE INPUT: true; the input reads as it did. -/
def flowBoundSpec : ChangeSpec := { name := "flowBound", fn := fun _ => fun
  | [d1, d2, d3, d4, d5] => { results := [.lit (.bool true)], args := [d1, d2, d3, d4, d5] }
  | _ => none }
def flowBoundRow : OpenClaim := { program := "ytdaigbamgplboaa", sum := "e7e1a01ae526efdbbc0109704bede2428c6801a24d4d27ed15aafbc4300ac61d", func := "tokenhall/tokenhallkeep.FlowBound", spec := "flowBound", unfollowed := true, recurses := true, apart := false }
def FlowBoundSaid : Prop := flowBoundRow.holds Try.pinned (OpenSpec.ofChange flowBoundSpec)

/-- ITS FALSE NEIGHBOUR: 'it returns false'. Refute it at one input. -/
def flowBoundWrong : ChangeSpec := { name := "flowBound", fn := fun _ => fun
  | [d1, d2, d3, d4, d5] => { results := [.lit (.bool false)], args := [d1, d2, d3, d4, d5] }
  | _ => none }
def FlowBoundWrongFalsely : Prop := flowBoundRow.holds Try.pinned (OpenSpec.ofChange flowBoundWrong)

/-- 'tokenhallkeep.FlowRound': WHATEVER THE INPUT: true; the input reads as it did. -/
def flowRoundSpec : ChangeSpec := { name := "flowRound", fn := fun _ => fun
  | [d1, d2, d3] => { results := [.lit (.bool true)], args := [d1, d2, d3] }
  | _ => none }
def flowRoundRow : OpenClaim := { program := "ytdaigbamgplboaa", sum := "e7e1a01ae526efdbbc0109704bede2428c6801a24d4d27ed15aafbc4300ac61d", func := "tokenhall/tokenhallkeep.FlowRound", spec := "flowRound", unfollowed := true, recurses := true, apart := false }
def FlowRoundSaid : Prop := flowRoundRow.holds Try.pinned (OpenSpec.ofChange flowRoundSpec)

/-- ITS FALSE NEIGHBOUR: 'it returns false'. Refute it at one input. -/
def flowRoundWrong : ChangeSpec := { name := "flowRound", fn := fun _ => fun
  | [d1, d2, d3] => { results := [.lit (.bool false)], args := [d1, d2, d3] }
  | _ => none }
def FlowRoundWrongFalsely : Prop := flowRoundRow.holds Try.pinned (OpenSpec.ofChange flowRoundWrong)

/-- 'tokenhallkeep.FlowSums': WHATEVER THE INPUT: true; the input reads as it did. -/
def flowSumsSpec : ChangeSpec := { name := "flowSums", fn := fun _ => fun
  | [d1, d2, d3] => { results := [.lit (.bool true)], args := [d1, d2, d3] }
  | _ => none }
def flowSumsRow : OpenClaim := { program := "ytdaigbamgplboaa", sum := "e7e1a01ae526efdbbc0109704bede2428c6801a24d4d27ed15aafbc4300ac61d", func := "tokenhall/tokenhallkeep.FlowSums", spec := "flowSums", apart := false }
def FlowSumsSaid : Prop := flowSumsRow.holds Try.pinned (OpenSpec.ofChange flowSumsSpec)

/-- ITS FALSE NEIGHBOUR: 'it returns false'. Refute it at one input. -/
def flowSumsWrong : ChangeSpec := { name := "flowSums", fn := fun _ => fun
  | [d1, d2, d3] => { results := [.lit (.bool false)], args := [d1, d2, d3] }
  | _ => none }
def FlowSumsWrongFalsely : Prop := flowSumsRow.holds Try.pinned (OpenSpec.ofChange flowSumsWrong)

/- THE SECOND FORM. 'bulk': how many values and letters a reading holds, each counted each time it is reached (what is shared counts as often as it is met; a slice's spare places count too). A statement '..UptoSaid' is the law's where the arguments, and the package variables that the reading takes, are together of bulk at most 1048576: NARROWER than '..Said'. Prove '..Said' where nothing that the law and all that it calls make is longer than what came in: it says more and counts as full. Else prove '..UptoSaid'. A law counts once. -/
mutual
def uptoBulk {H : Type} : DataW H → Nat
  | .lit (.string bytes) => bytes.length + 1
  | .lit _ => 1
  | .nil => 1
  | .ptr d => uptoBulk d + 1
  | .slice elems spare => uptoBulkAll elems + uptoBulkAll spare + 1
  | .agg parts => uptoBulkAll parts + 1
  | .iface _ d => uptoBulk d + 1
  | .map entries => uptoBulkEntries entries + 1
  | .held _ => 1
def uptoBulkAll {H : Type} : List (DataW H) → Nat
  | [] => 0
  | d :: r => uptoBulk d + uptoBulkAll r
def uptoBulkEntries {H : Type} : List (Lit × DataW H) → Nat
  | [] => 0
  | x :: r => uptoBulkEntry x + uptoBulkEntries r
def uptoBulkEntry {H : Type} : Lit × DataW H → Nat
  | (.string bytes, d) => bytes.length + uptoBulk d + 1
  | (_, d) => uptoBulk d + 1
 end
def uptoSmall : (H : Type) → List (DataW H) → Bool := fun _ ds => decide (uptoBulkAll ds ≤ 1048576)
def OpenSpec.upto (s : _root_.Go.ChangeSpec) : _root_.Go.OpenSpec := { _root_.Go.OpenSpec.ofChange s with cond := some uptoSmall }

/-- 'tokenhalllaw.FlowTells', WHERE WHAT IT READS IS OF BULK AT MOST 1048576: true; the input reads as it did. -/
def flowTellsUptoRow : OpenClaim := { program := "ytdaigbamgplboaa", sum := "e7e1a01ae526efdbbc0109704bede2428c6801a24d4d27ed15aafbc4300ac61d", func := "tokenhall/tokenhalllaw.FlowTells", spec := "flowTells", recurses := true, apart := false, narrowed := true }
def FlowTellsUptoSaid : Prop := flowTellsUptoRow.holds Try.pinned (OpenSpec.upto flowTellsSpec)

/-- 'tokenhallkeep.FlowEquation', WHERE WHAT IT READS IS OF BULK AT MOST 1048576: true; the input reads as it did. -/
def flowEquationUptoRow : OpenClaim := { program := "ytdaigbamgplboaa", sum := "e7e1a01ae526efdbbc0109704bede2428c6801a24d4d27ed15aafbc4300ac61d", func := "tokenhall/tokenhallkeep.FlowEquation", spec := "flowEquation", unfollowed := true, recurses := true, apart := false, narrowed := true }
def FlowEquationUptoSaid : Prop := flowEquationUptoRow.holds Try.pinned (OpenSpec.upto flowEquationSpec)

/-- 'tokenhallkeep.FlowKept', WHERE WHAT IT READS IS OF BULK AT MOST 1048576: true; the input reads as it did. -/
def flowKeptUptoRow : OpenClaim := { program := "ytdaigbamgplboaa", sum := "e7e1a01ae526efdbbc0109704bede2428c6801a24d4d27ed15aafbc4300ac61d", func := "tokenhall/tokenhallkeep.FlowKept", spec := "flowKept", unfollowed := true, recurses := true, apart := false, narrowed := true }
def FlowKeptUptoSaid : Prop := flowKeptUptoRow.holds Try.pinned (OpenSpec.upto flowKeptSpec)

/-- 'tokenhallkeep.FlowBound', WHERE WHAT IT READS IS OF BULK AT MOST 1048576: true; the input reads as it did. -/
def flowBoundUptoRow : OpenClaim := { program := "ytdaigbamgplboaa", sum := "e7e1a01ae526efdbbc0109704bede2428c6801a24d4d27ed15aafbc4300ac61d", func := "tokenhall/tokenhallkeep.FlowBound", spec := "flowBound", unfollowed := true, recurses := true, apart := false, narrowed := true }
def FlowBoundUptoSaid : Prop := flowBoundUptoRow.holds Try.pinned (OpenSpec.upto flowBoundSpec)

/-- 'tokenhallkeep.FlowRound', WHERE WHAT IT READS IS OF BULK AT MOST 1048576: true; the input reads as it did. -/
def flowRoundUptoRow : OpenClaim := { program := "ytdaigbamgplboaa", sum := "e7e1a01ae526efdbbc0109704bede2428c6801a24d4d27ed15aafbc4300ac61d", func := "tokenhall/tokenhallkeep.FlowRound", spec := "flowRound", unfollowed := true, recurses := true, apart := false, narrowed := true }
def FlowRoundUptoSaid : Prop := flowRoundUptoRow.holds Try.pinned (OpenSpec.upto flowRoundSpec)

/-- 'tokenhallkeep.FlowSums', WHERE WHAT IT READS IS OF BULK AT MOST 1048576: true; the input reads as it did. -/
def flowSumsUptoRow : OpenClaim := { program := "ytdaigbamgplboaa", sum := "e7e1a01ae526efdbbc0109704bede2428c6801a24d4d27ed15aafbc4300ac61d", func := "tokenhall/tokenhallkeep.FlowSums", spec := "flowSums", apart := false, narrowed := true }
def FlowSumsUptoSaid : Prop := flowSumsUptoRow.holds Try.pinned (OpenSpec.upto flowSumsSpec)

end Rows
end Go.Proofs.Ytdaigbamgplboaa

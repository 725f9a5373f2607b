/-
  No cell of these rows narrows 'for every input' (looked for: loops, veiled, ifaces, maps, wideKeys, modest, calm, conditions, laid).
  DERIVED. THE GIVEN ROWS OF THIS SEAT. 3 by the template 'for every input the law returns true; each argument reads behind the call as it read before'; 0 by the template 'total and deterministic' (their statements: YtakgppoeikcepaaTotals.lean).
  GIVEN WITH THE SEED: the statements are not yours to turn. If you find one false, say at which input.
  Laid BY PROGRAM, IN A SANDBOX (cutbox-rows.mjs): the forced cells as the released guide's own fill.sh prints them over the translation 3df375c8247b7c70… (all of the seat's roots in one cut). By AI agents, Wed Nov 11 2026. No macro, syntax, notation, axiom, sorry.
-/
import Derived.Test.YtakgppoeikcepaaChecked
import GoSem.Claim
import GoSem.ClaimJoined
import GoSem.ClaimMapViews
import Derived.JoinedTies
import Derived.KernelRfl
namespace Go.Proofs.Ytakgppoeikcepaa
/- THE CELL 'sum', in the pinned program and in every row, IS THE sha256 OF THE DUMP (.gsa) THAT YtakgppoeikcepaaProg.lean LOADS. Nothing in Lean hashes anything: it is a label: what it is worth is what the hold of that sum in a sandbox is worth. -/
noncomputable def Try.pinned : Pinned := { name := "ytakgppoeikcepaa", sum := "3df375c8247b7c708b3216cc150b98abc012774652cd5a297b2facdcc9acb7a7", checked := Try.checked }
namespace Rows
def none {H : Type} : Left H := { results := [], args := [] }

/-- 'tokenhalllaw.AlignCosts': WHATEVER THE INPUT: true; the input reads as it did. -/
def alignCostsSpec : ChangeSpec := { name := "alignCosts", fn := fun _ => fun
  | [d1, d2, d3, d4] => { results := [.lit (.bool true)], args := [d1, d2, d3, d4] }
  | _ => none }
def alignCostsRow : OpenClaim := { program := "ytakgppoeikcepaa", sum := "3df375c8247b7c708b3216cc150b98abc012774652cd5a297b2facdcc9acb7a7", func := "tokenhall/tokenhalllaw.AlignCosts", spec := "alignCosts", unfollowed := true, recurses := true, plainKeys := false, apart := false }
def AlignCostsSaid : Prop := alignCostsRow.holds Try.pinned (OpenSpec.ofChange alignCostsSpec)

/-- ITS FALSE NEIGHBOUR: 'it returns false'. Refute it at one input. -/
def alignCostsWrong : ChangeSpec := { name := "alignCosts", fn := fun _ => fun
  | [d1, d2, d3, d4] => { results := [.lit (.bool false)], args := [d1, d2, d3, d4] }
  | _ => none }
def AlignCostsWrongFalsely : Prop := alignCostsRow.holds Try.pinned (OpenSpec.ofChange alignCostsWrong)

/-- 'tokenhallkeep.AlignTrue': WHATEVER THE INPUT: true; the input reads as it did. -/
def alignTrueSpec : ChangeSpec := { name := "alignTrue", fn := fun _ => fun
  | [d1, d2, d3, d4] => { results := [.lit (.bool true)], args := [d1, d2, d3, d4] }
  | _ => none }
def alignTrueRow : OpenClaim := { program := "ytakgppoeikcepaa", sum := "3df375c8247b7c708b3216cc150b98abc012774652cd5a297b2facdcc9acb7a7", func := "tokenhall/tokenhallkeep.AlignTrue", spec := "alignTrue", unfollowed := true, recurses := true, plainKeys := false, apart := false }
def AlignTrueSaid : Prop := alignTrueRow.holds Try.pinned (OpenSpec.ofChange alignTrueSpec)

/-- ITS FALSE NEIGHBOUR: 'it returns false'. Refute it at one input. -/
def alignTrueWrong : ChangeSpec := { name := "alignTrue", fn := fun _ => fun
  | [d1, d2, d3, d4] => { results := [.lit (.bool false)], args := [d1, d2, d3, d4] }
  | _ => none }
def AlignTrueWrongFalsely : Prop := alignTrueRow.holds Try.pinned (OpenSpec.ofChange alignTrueWrong)

/-- 'tokenhallkeep.AlignNone': WHATEVER THE INPUT: true; the input reads as it did. -/
def alignNoneSpec : ChangeSpec := { name := "alignNone", fn := fun _ => fun
  | [d1, d2, d3, d4, d5] => { results := [.lit (.bool true)], args := [d1, d2, d3, d4, d5] }
  | _ => none }
def alignNoneRow : OpenClaim := { program := "ytakgppoeikcepaa", sum := "3df375c8247b7c708b3216cc150b98abc012774652cd5a297b2facdcc9acb7a7", func := "tokenhall/tokenhallkeep.AlignNone", spec := "alignNone", unfollowed := true, recurses := true, plainKeys := false, apart := false }
def AlignNoneSaid : Prop := alignNoneRow.holds Try.pinned (OpenSpec.ofChange alignNoneSpec)

/-- ITS FALSE NEIGHBOUR: 'it returns false'. Refute it at one input. -/
def alignNoneWrong : ChangeSpec := { name := "alignNone", fn := fun _ => fun
  | [d1, d2, d3, d4, d5] => { results := [.lit (.bool false)], args := [d1, d2, d3, d4, d5] }
  | _ => none }
def AlignNoneWrongFalsely : Prop := alignNoneRow.holds Try.pinned (OpenSpec.ofChange alignNoneWrong)

/- THE SECOND FORM. 'bulk': how many values and letters a reading holds, each counted each time it is reached (what is shared counts as often as it is met; a slice's spare places count too). A statement '..UptoSaid' is the law's where the arguments, and the package variables that the reading takes, are together of bulk at most 1048576: NARROWER than '..Said'. Prove '..Said' where nothing that the law and all that it calls make is longer than what came in: it says more and counts as full. Else prove '..UptoSaid'. A law counts once. -/
mutual
def uptoBulk {H : Type} : DataW H → Nat
  | .lit (.string bytes) => bytes.length + 1
  | .lit _ => 1
  | .nil => 1
  | .ptr d => uptoBulk d + 1
  | .slice elems spare => uptoBulkAll elems + uptoBulkAll spare + 1
  | .agg parts => uptoBulkAll parts + 1
  | .iface _ d => uptoBulk d + 1
  | .map entries => uptoBulkEntries entries + 1
  | .held _ => 1
def uptoBulkAll {H : Type} : List (DataW H) → Nat
  | [] => 0
  | d :: r => uptoBulk d + uptoBulkAll r
def uptoBulkEntries {H : Type} : List (Lit × DataW H) → Nat
  | [] => 0
  | x :: r => uptoBulkEntry x + uptoBulkEntries r
def uptoBulkEntry {H : Type} : Lit × DataW H → Nat
  | (.string bytes, d) => bytes.length + uptoBulk d + 1
  | (_, d) => uptoBulk d + 1
 end
def uptoSmall : (H : Type) → List (DataW H) → Bool := fun _ ds => decide (uptoBulkAll ds ≤ 1048576)
def OpenSpec.upto (s : _root_.Go.ChangeSpec) : _root_.Go.OpenSpec := { _root_.Go.OpenSpec.ofChange s with cond := some uptoSmall }

/-- 'tokenhalllaw.AlignCosts', WHERE WHAT IT READS IS OF BULK AT MOST 1048576: true; the input reads as it did. -/
def alignCostsUptoRow : OpenClaim := { program := "ytakgppoeikcepaa", sum := "3df375c8247b7c708b3216cc150b98abc012774652cd5a297b2facdcc9acb7a7", func := "tokenhall/tokenhalllaw.AlignCosts", spec := "alignCosts", unfollowed := true, recurses := true, plainKeys := false, apart := false, narrowed := true }
def AlignCostsUptoSaid : Prop := alignCostsUptoRow.holds Try.pinned (OpenSpec.upto alignCostsSpec)

/-- 'tokenhallkeep.AlignTrue', WHERE WHAT IT READS IS OF BULK AT MOST 1048576: true; the input reads as it did. -/
def alignTrueUptoRow : OpenClaim := { program := "ytakgppoeikcepaa", sum := "3df375c8247b7c708b3216cc150b98abc012774652cd5a297b2facdcc9acb7a7", func := "tokenhall/tokenhallkeep.AlignTrue", spec := "alignTrue", unfollowed := true, recurses := true, plainKeys := false, apart := false, narrowed := true }
def AlignTrueUptoSaid : Prop := alignTrueUptoRow.holds Try.pinned (OpenSpec.upto alignTrueSpec)

/-- 'tokenhallkeep.AlignNone', WHERE WHAT IT READS IS OF BULK AT MOST 1048576: true; the input reads as it did. -/
def alignNoneUptoRow : OpenClaim := { program := "ytakgppoeikcepaa", sum := "3df375c8247b7c708b3216cc150b98abc012774652cd5a297b2facdcc9acb7a7", func := "tokenhall/tokenhallkeep.AlignNone", spec := "alignNone", unfollowed := true, recurses := true, plainKeys := false, apart := false, narrowed := true }
def AlignNoneUptoSaid : Prop := alignNoneUptoRow.holds Try.pinned (OpenSpec.upto alignNoneSpec)

end Rows
end Go.Proofs.Ytakgppoeikcepaa

/-
  No cell of these rows narrows 'for every input' (looked for: loops, veiled, ifaces, maps, wideKeys, modest, calm, conditions, laid).
  DERIVED. THE GIVEN ROWS OF THIS SEAT. 5 by the template 'for every input the law returns true; each argument reads behind the call as it read before'; 0 by the template 'total and deterministic' (their statements: YtffaamljogbmlaaTotals.lean).
  GIVEN WITH THE SEED: the statements are not yours to turn. If you find one false, say at which input.
  Laid BY PROGRAM, IN A SANDBOX (cutbox-rows.mjs): the forced cells as the released guide's own fill.sh prints them over the translation 7d134c7c60adcf9a… (all of the seat's roots in one cut). By AI agents, Wed Nov 11 2026. No macro, syntax, notation, axiom, sorry.
-/
import Derived.Test.YtffaamljogbmlaaChecked
import GoSem.Claim
import GoSem.ClaimJoined
import GoSem.ClaimMapViews
import Derived.JoinedTies
import Derived.KernelRfl
namespace Go.Proofs.Ytffaamljogbmlaa
/- THE CELL 'sum', in the pinned program and in every row, IS THE sha256 OF THE DUMP (.gsa) THAT YtffaamljogbmlaaProg.lean LOADS. Nothing in Lean hashes anything: it is a label: what it is worth is what the hold of that sum in a sandbox is worth. -/
noncomputable def Try.pinned : Pinned := { name := "ytffaamljogbmlaa", sum := "7d134c7c60adcf9abcc0f260c18002b4af57f1caa83409fc31a417f60cd0b965", checked := Try.checked }
namespace Rows
def none {H : Type} : Left H := { results := [], args := [] }

/-- 'tokenhalllaw.CasesDo': WHATEVER THE INPUT: true; the input reads as it did. -/
def casesDoSpec : ChangeSpec := { name := "casesDo", fn := fun _ => fun
  | [d1, d2, d3, d4] => { results := [.lit (.bool true)], args := [d1, d2, d3, d4] }
  | _ => none }
def casesDoRow : OpenClaim := { program := "ytffaamljogbmlaa", sum := "7d134c7c60adcf9abcc0f260c18002b4af57f1caa83409fc31a417f60cd0b965", func := "tokenhall/tokenhalllaw.CasesDo", spec := "casesDo", unfollowed := true, recurses := true, apart := false }
def CasesDoSaid : Prop := casesDoRow.holds Try.pinned (OpenSpec.ofChange casesDoSpec)

/-- ITS FALSE NEIGHBOUR: 'it returns false'. Refute it at one input. -/
def casesDoWrong : ChangeSpec := { name := "casesDo", fn := fun _ => fun
  | [d1, d2, d3, d4] => { results := [.lit (.bool false)], args := [d1, d2, d3, d4] }
  | _ => none }
def CasesDoWrongFalsely : Prop := casesDoRow.holds Try.pinned (OpenSpec.ofChange casesDoWrong)

/-- 'tokenhalllaw.CasesPlay': WHATEVER THE INPUT: true; the input reads as it did. -/
def casesPlaySpec : ChangeSpec := { name := "casesPlay", fn := fun _ => fun
  | [d1, d2, d3] => { results := [.lit (.bool true)], args := [d1, d2, d3] }
  | _ => none }
def casesPlayRow : OpenClaim := { program := "ytffaamljogbmlaa", sum := "7d134c7c60adcf9abcc0f260c18002b4af57f1caa83409fc31a417f60cd0b965", func := "tokenhall/tokenhalllaw.CasesPlay", spec := "casesPlay", unfollowed := true, recurses := true, apart := false }
def CasesPlaySaid : Prop := casesPlayRow.holds Try.pinned (OpenSpec.ofChange casesPlaySpec)

/-- ITS FALSE NEIGHBOUR: 'it returns false'. Refute it at one input. -/
def casesPlayWrong : ChangeSpec := { name := "casesPlay", fn := fun _ => fun
  | [d1, d2, d3] => { results := [.lit (.bool false)], args := [d1, d2, d3] }
  | _ => none }
def CasesPlayWrongFalsely : Prop := casesPlayRow.holds Try.pinned (OpenSpec.ofChange casesPlayWrong)

/-- 'tokenhallkeep.CasesUndo': WHATEVER THE INPUT: true; the input reads as it did. -/
def casesUndoSpec : ChangeSpec := { name := "casesUndo", fn := fun _ => fun
  | [d1, d2, d3] => { results := [.lit (.bool true)], args := [d1, d2, d3] }
  | _ => none }
def casesUndoRow : OpenClaim := { program := "ytffaamljogbmlaa", sum := "7d134c7c60adcf9abcc0f260c18002b4af57f1caa83409fc31a417f60cd0b965", func := "tokenhall/tokenhallkeep.CasesUndo", spec := "casesUndo", unfollowed := true, recurses := true, apart := false }
def CasesUndoSaid : Prop := casesUndoRow.holds Try.pinned (OpenSpec.ofChange casesUndoSpec)

/-- ITS FALSE NEIGHBOUR: 'it returns false'. Refute it at one input. -/
def casesUndoWrong : ChangeSpec := { name := "casesUndo", fn := fun _ => fun
  | [d1, d2, d3] => { results := [.lit (.bool false)], args := [d1, d2, d3] }
  | _ => none }
def CasesUndoWrongFalsely : Prop := casesUndoRow.holds Try.pinned (OpenSpec.ofChange casesUndoWrong)

/-- 'tokenhallkeep.CasesOnce': WHATEVER THE INPUT: true; the input reads as it did. -/
def casesOnceSpec : ChangeSpec := { name := "casesOnce", fn := fun _ => fun
  | [d1, d2, d3] => { results := [.lit (.bool true)], args := [d1, d2, d3] }
  | _ => none }
def casesOnceRow : OpenClaim := { program := "ytffaamljogbmlaa", sum := "7d134c7c60adcf9abcc0f260c18002b4af57f1caa83409fc31a417f60cd0b965", func := "tokenhall/tokenhallkeep.CasesOnce", spec := "casesOnce", unfollowed := true, recurses := true, apart := false }
def CasesOnceSaid : Prop := casesOnceRow.holds Try.pinned (OpenSpec.ofChange casesOnceSpec)

/-- ITS FALSE NEIGHBOUR: 'it returns false'. Refute it at one input. -/
def casesOnceWrong : ChangeSpec := { name := "casesOnce", fn := fun _ => fun
  | [d1, d2, d3] => { results := [.lit (.bool false)], args := [d1, d2, d3] }
  | _ => none }
def CasesOnceWrongFalsely : Prop := casesOnceRow.holds Try.pinned (OpenSpec.ofChange casesOnceWrong)

/-- 'tokenhallkeep.CasesNet': WHATEVER THE INPUT: true; the input reads as it did. -/
def casesNetSpec : ChangeSpec := { name := "casesNet", fn := fun _ => fun
  | [d1, d2, d3] => { results := [.lit (.bool true)], args := [d1, d2, d3] }
  | _ => none }
def casesNetRow : OpenClaim := { program := "ytffaamljogbmlaa", sum := "7d134c7c60adcf9abcc0f260c18002b4af57f1caa83409fc31a417f60cd0b965", func := "tokenhall/tokenhallkeep.CasesNet", spec := "casesNet", unfollowed := true, recurses := true, apart := false }
def CasesNetSaid : Prop := casesNetRow.holds Try.pinned (OpenSpec.ofChange casesNetSpec)

/-- ITS FALSE NEIGHBOUR: 'it returns false'. Refute it at one input. -/
def casesNetWrong : ChangeSpec := { name := "casesNet", fn := fun _ => fun
  | [d1, d2, d3] => { results := [.lit (.bool false)], args := [d1, d2, d3] }
  | _ => none }
def CasesNetWrongFalsely : Prop := casesNetRow.holds Try.pinned (OpenSpec.ofChange casesNetWrong)

/- THE SECOND FORM. 'bulk': how many values and letters a reading holds, each counted each time it is reached (what is shared counts as often as it is met; a slice's spare places count too). A statement '..UptoSaid' is the law's where the arguments, and the package variables that the reading takes, are together of bulk at most 1048576: NARROWER than '..Said'. Prove '..Said' where nothing that the law and all that it calls make is longer than what came in: it says more and counts as full. Else prove '..UptoSaid'. A law counts once. -/
mutual
def uptoBulk {H : Type} : DataW H → Nat
  | .lit (.string bytes) => bytes.length + 1
  | .lit _ => 1
  | .nil => 1
  | .ptr d => uptoBulk d + 1
  | .slice elems spare => uptoBulkAll elems + uptoBulkAll spare + 1
  | .agg parts => uptoBulkAll parts + 1
  | .iface _ d => uptoBulk d + 1
  | .map entries => uptoBulkEntries entries + 1
  | .held _ => 1
def uptoBulkAll {H : Type} : List (DataW H) → Nat
  | [] => 0
  | d :: r => uptoBulk d + uptoBulkAll r
def uptoBulkEntries {H : Type} : List (Lit × DataW H) → Nat
  | [] => 0
  | x :: r => uptoBulkEntry x + uptoBulkEntries r
def uptoBulkEntry {H : Type} : Lit × DataW H → Nat
  | (.string bytes, d) => bytes.length + uptoBulk d + 1
  | (_, d) => uptoBulk d + 1
 end
def uptoSmall : (H : Type) → List (DataW H) → Bool := fun _ ds => decide (uptoBulkAll ds ≤ 1048576)
def OpenSpec.upto (s : _root_.Go.ChangeSpec) : _root_.Go.OpenSpec := { _root_.Go.OpenSpec.ofChange s with cond := some uptoSmall }

/-- 'tokenhalllaw.CasesDo', WHERE WHAT IT READS IS OF BULK AT MOST 1048576: true; the input reads as it did. -/
def casesDoUptoRow : OpenClaim := { program := "ytffaamljogbmlaa", sum := "7d134c7c60adcf9abcc0f260c18002b4af57f1caa83409fc31a417f60cd0b965", func := "tokenhall/tokenhalllaw.CasesDo", spec := "casesDo", unfollowed := true, recurses := true, apart := false, narrowed := true }
def CasesDoUptoSaid : Prop := casesDoUptoRow.holds Try.pinned (OpenSpec.upto casesDoSpec)

/-- 'tokenhalllaw.CasesPlay', WHERE WHAT IT READS IS OF BULK AT MOST 1048576: true; the input reads as it did. -/
def casesPlayUptoRow : OpenClaim := { program := "ytffaamljogbmlaa", sum := "7d134c7c60adcf9abcc0f260c18002b4af57f1caa83409fc31a417f60cd0b965", func := "tokenhall/tokenhalllaw.CasesPlay", spec := "casesPlay", unfollowed := true, recurses := true, apart := false, narrowed := true }
def CasesPlayUptoSaid : Prop := casesPlayUptoRow.holds Try.pinned (OpenSpec.upto casesPlaySpec)

/-- 'tokenhallkeep.CasesUndo', WHERE WHAT IT READS IS OF BULK AT MOST 1048576: true; the input reads as it did. -/
def casesUndoUptoRow : OpenClaim := { program := "ytffaamljogbmlaa", sum := "7d134c7c60adcf9abcc0f260c18002b4af57f1caa83409fc31a417f60cd0b965", func := "tokenhall/tokenhallkeep.CasesUndo", spec := "casesUndo", unfollowed := true, recurses := true, apart := false, narrowed := true }
def CasesUndoUptoSaid : Prop := casesUndoUptoRow.holds Try.pinned (OpenSpec.upto casesUndoSpec)

/-- 'tokenhallkeep.CasesOnce', WHERE WHAT IT READS IS OF BULK AT MOST 1048576: true; the input reads as it did. -/
def casesOnceUptoRow : OpenClaim := { program := "ytffaamljogbmlaa", sum := "7d134c7c60adcf9abcc0f260c18002b4af57f1caa83409fc31a417f60cd0b965", func := "tokenhall/tokenhallkeep.CasesOnce", spec := "casesOnce", unfollowed := true, recurses := true, apart := false, narrowed := true }
def CasesOnceUptoSaid : Prop := casesOnceUptoRow.holds Try.pinned (OpenSpec.upto casesOnceSpec)

/-- 'tokenhallkeep.CasesNet', WHERE WHAT IT READS IS OF BULK AT MOST 1048576: true; the input reads as it did. -/
def casesNetUptoRow : OpenClaim := { program := "ytffaamljogbmlaa", sum := "7d134c7c60adcf9abcc0f260c18002b4af57f1caa83409fc31a417f60cd0b965", func := "tokenhall/tokenhallkeep.CasesNet", spec := "casesNet", unfollowed := true, recurses := true, apart := false, narrowed := true }
def CasesNetUptoSaid : Prop := casesNetUptoRow.holds Try.pinned (OpenSpec.upto casesNetSpec)

end Rows
end Go.Proofs.Ytffaamljogbmlaa

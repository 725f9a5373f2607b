/-
  No cell of these rows narrows 'for every input' (looked for: loops, veiled, ifaces, maps, wideKeys, modest, calm, conditions, laid).
  DERIVED. THE GIVEN ROWS OF THIS SEAT. 4 by the template 'for every input the law returns true; each argument reads behind the call as it read before'; 0 by the template 'total and deterministic' (their statements: YthkalnijmlhgiaaTotals.lean).
  GIVEN WITH THE SEED: the statements are not yours to turn. If you find one false, say at which input.
  Laid BY PROGRAM, IN A SANDBOX (cutbox-rows.mjs): the forced cells as the released guide's own fill.sh prints them over the translation b3e329cb941ab3a3… (all of the seat's roots in one cut). By AI agents, Wed Nov 11 2026. No macro, syntax, notation, axiom, sorry.
-/
import Derived.Test.YthkalnijmlhgiaaChecked
import GoSem.Claim
import GoSem.ClaimJoined
import GoSem.ClaimMapViews
import Derived.JoinedTies
import Derived.KernelRfl
namespace Go.Proofs.Ythkalnijmlhgiaa
/- THE CELL 'sum', in the pinned program and in every row, IS THE sha256 OF THE DUMP (.gsa) THAT YthkalnijmlhgiaaProg.lean LOADS. Nothing in Lean hashes anything: it is a label: what it is worth is what the hold of that sum in a sandbox is worth. -/
noncomputable def Try.pinned : Pinned := { name := "ythkalnijmlhgiaa", sum := "b3e329cb941ab3a3903999247602eb29b27135bea4111c3318696228ac44a9fb", checked := Try.checked }
namespace Rows
def none {H : Type} : Left H := { results := [], args := [] }

/-- 'tokenhalllaw.ShapeTells': WHATEVER THE INPUT: true; the input reads as it did. -/
def shapeTellsSpec : ChangeSpec := { name := "shapeTells", fn := fun _ => fun
  | [d1, d2, d3] => { results := [.lit (.bool true)], args := [d1, d2, d3] }
  | _ => none }
def shapeTellsRow : OpenClaim := { program := "ythkalnijmlhgiaa", sum := "b3e329cb941ab3a3903999247602eb29b27135bea4111c3318696228ac44a9fb", func := "tokenhall/tokenhalllaw.ShapeTells", spec := "shapeTells", unfollowed := true, recurses := true, plainKeys := false, apart := false }
def ShapeTellsSaid : Prop := shapeTellsRow.holds Try.pinned (OpenSpec.ofChange shapeTellsSpec)

/-- ITS FALSE NEIGHBOUR: 'it returns false'. Refute it at one input. -/
def shapeTellsWrong : ChangeSpec := { name := "shapeTells", fn := fun _ => fun
  | [d1, d2, d3] => { results := [.lit (.bool false)], args := [d1, d2, d3] }
  | _ => none }
def ShapeTellsWrongFalsely : Prop := shapeTellsRow.holds Try.pinned (OpenSpec.ofChange shapeTellsWrong)

/-- 'tokenhallkeep.ShapeTurned': WHATEVER THE INPUT: true; the input reads as it did. -/
def shapeTurnedSpec : ChangeSpec := { name := "shapeTurned", fn := fun _ => fun
  | [d1, d2, d3] => { results := [.lit (.bool true)], args := [d1, d2, d3] }
  | _ => none }
def shapeTurnedRow : OpenClaim := { program := "ythkalnijmlhgiaa", sum := "b3e329cb941ab3a3903999247602eb29b27135bea4111c3318696228ac44a9fb", func := "tokenhall/tokenhallkeep.ShapeTurned", spec := "shapeTurned", unfollowed := true, recurses := true, plainKeys := false, apart := false }
def ShapeTurnedSaid : Prop := shapeTurnedRow.holds Try.pinned (OpenSpec.ofChange shapeTurnedSpec)

/-- ITS FALSE NEIGHBOUR: 'it returns false'. Refute it at one input. -/
def shapeTurnedWrong : ChangeSpec := { name := "shapeTurned", fn := fun _ => fun
  | [d1, d2, d3] => { results := [.lit (.bool false)], args := [d1, d2, d3] }
  | _ => none }
def ShapeTurnedWrongFalsely : Prop := shapeTurnedRow.holds Try.pinned (OpenSpec.ofChange shapeTurnedWrong)

/-- 'tokenhallkeep.ShapeRound': WHATEVER THE INPUT: true; the input reads as it did. -/
def shapeRoundSpec : ChangeSpec := { name := "shapeRound", fn := fun _ => fun
  | [d1, d2, d3, d4] => { results := [.lit (.bool true)], args := [d1, d2, d3, d4] }
  | _ => none }
def shapeRoundRow : OpenClaim := { program := "ythkalnijmlhgiaa", sum := "b3e329cb941ab3a3903999247602eb29b27135bea4111c3318696228ac44a9fb", func := "tokenhall/tokenhallkeep.ShapeRound", spec := "shapeRound", unfollowed := true, recurses := true, plainKeys := false, apart := false }
def ShapeRoundSaid : Prop := shapeRoundRow.holds Try.pinned (OpenSpec.ofChange shapeRoundSpec)

/-- ITS FALSE NEIGHBOUR: 'it returns false'. Refute it at one input. -/
def shapeRoundWrong : ChangeSpec := { name := "shapeRound", fn := fun _ => fun
  | [d1, d2, d3, d4] => { results := [.lit (.bool false)], args := [d1, d2, d3, d4] }
  | _ => none }
def ShapeRoundWrongFalsely : Prop := shapeRoundRow.holds Try.pinned (OpenSpec.ofChange shapeRoundWrong)

/-- 'tokenhallkeep.ShapeEnd': WHATEVER THE INPUT: true; the input reads as it did. -/
def shapeEndSpec : ChangeSpec := { name := "shapeEnd", fn := fun _ => fun
  | [d1, d2, d3, d4] => { results := [.lit (.bool true)], args := [d1, d2, d3, d4] }
  | _ => none }
def shapeEndRow : OpenClaim := { program := "ythkalnijmlhgiaa", sum := "b3e329cb941ab3a3903999247602eb29b27135bea4111c3318696228ac44a9fb", func := "tokenhall/tokenhallkeep.ShapeEnd", spec := "shapeEnd", unfollowed := true, recurses := true, plainKeys := false, apart := false }
def ShapeEndSaid : Prop := shapeEndRow.holds Try.pinned (OpenSpec.ofChange shapeEndSpec)

/-- ITS FALSE NEIGHBOUR: 'it returns false'. Refute it at one input. -/
def shapeEndWrong : ChangeSpec := { name := "shapeEnd", fn := fun _ => fun
  | [d1, d2, d3, d4] => { results := [.lit (.bool false)], args := [d1, d2, d3, d4] }
  | _ => none }
def ShapeEndWrongFalsely : Prop := shapeEndRow.holds Try.pinned (OpenSpec.ofChange shapeEndWrong)

/- THE SECOND FORM. 'bulk': how many values and letters a reading holds, each counted each time it is reached (what is shared counts as often as it is met; a slice's spare places count too). A statement '..UptoSaid' is the law's where the arguments, and the package variables that the reading takes, are together of bulk at most 1048576: NARROWER than '..Said'. Prove '..Said' where nothing that the law and all that it calls make is longer than what came in: it says more and counts as full. Else prove '..UptoSaid'. A law counts once. -/
mutual
def uptoBulk {H : Type} : DataW H → Nat
  | .lit (.string bytes) => bytes.length + 1
  | .lit _ => 1
  | .nil => 1
  | .ptr d => uptoBulk d + 1
  | .slice elems spare => uptoBulkAll elems + uptoBulkAll spare + 1
  | .agg parts => uptoBulkAll parts + 1
  | .iface _ d => uptoBulk d + 1
  | .map entries => uptoBulkEntries entries + 1
  | .held _ => 1
def uptoBulkAll {H : Type} : List (DataW H) → Nat
  | [] => 0
  | d :: r => uptoBulk d + uptoBulkAll r
def uptoBulkEntries {H : Type} : List (Lit × DataW H) → Nat
  | [] => 0
  | x :: r => uptoBulkEntry x + uptoBulkEntries r
def uptoBulkEntry {H : Type} : Lit × DataW H → Nat
  | (.string bytes, d) => bytes.length + uptoBulk d + 1
  | (_, d) => uptoBulk d + 1
 end
def uptoSmall : (H : Type) → List (DataW H) → Bool := fun _ ds => decide (uptoBulkAll ds ≤ 1048576)
def OpenSpec.upto (s : _root_.Go.ChangeSpec) : _root_.Go.OpenSpec := { _root_.Go.OpenSpec.ofChange s with cond := some uptoSmall }

/-- 'tokenhalllaw.ShapeTells', WHERE WHAT IT READS IS OF BULK AT MOST 1048576: true; the input reads as it did. -/
def shapeTellsUptoRow : OpenClaim := { program := "ythkalnijmlhgiaa", sum := "b3e329cb941ab3a3903999247602eb29b27135bea4111c3318696228ac44a9fb", func := "tokenhall/tokenhalllaw.ShapeTells", spec := "shapeTells", unfollowed := true, recurses := true, plainKeys := false, apart := false, narrowed := true }
def ShapeTellsUptoSaid : Prop := shapeTellsUptoRow.holds Try.pinned (OpenSpec.upto shapeTellsSpec)

/-- 'tokenhallkeep.ShapeTurned', WHERE WHAT IT READS IS OF BULK AT MOST 1048576: true; the input reads as it did. -/
def shapeTurnedUptoRow : OpenClaim := { program := "ythkalnijmlhgiaa", sum := "b3e329cb941ab3a3903999247602eb29b27135bea4111c3318696228ac44a9fb", func := "tokenhall/tokenhallkeep.ShapeTurned", spec := "shapeTurned", unfollowed := true, recurses := true, plainKeys := false, apart := false, narrowed := true }
def ShapeTurnedUptoSaid : Prop := shapeTurnedUptoRow.holds Try.pinned (OpenSpec.upto shapeTurnedSpec)

/-- 'tokenhallkeep.ShapeRound', WHERE WHAT IT READS IS OF BULK AT MOST 1048576: true; the input reads as it did. -/
def shapeRoundUptoRow : OpenClaim := { program := "ythkalnijmlhgiaa", sum := "b3e329cb941ab3a3903999247602eb29b27135bea4111c3318696228ac44a9fb", func := "tokenhall/tokenhallkeep.ShapeRound", spec := "shapeRound", unfollowed := true, recurses := true, plainKeys := false, apart := false, narrowed := true }
def ShapeRoundUptoSaid : Prop := shapeRoundUptoRow.holds Try.pinned (OpenSpec.upto shapeRoundSpec)

/-- 'tokenhallkeep.ShapeEnd', WHERE WHAT IT READS IS OF BULK AT MOST 1048576: true; the input reads as it did. -/
def shapeEndUptoRow : OpenClaim := { program := "ythkalnijmlhgiaa", sum := "b3e329cb941ab3a3903999247602eb29b27135bea4111c3318696228ac44a9fb", func := "tokenhall/tokenhallkeep.ShapeEnd", spec := "shapeEnd", unfollowed := true, recurses := true, plainKeys := false, apart := false, narrowed := true }
def ShapeEndUptoSaid : Prop := shapeEndUptoRow.holds Try.pinned (OpenSpec.upto shapeEndSpec)

end Rows
end Go.Proofs.Ythkalnijmlhgiaa

/-
  No cell of these rows narrows 'for every input' (looked for: loops, veiled, ifaces, maps, wideKeys, modest, calm, conditions, laid).
  DERIVED. THE GIVEN ROWS OF THIS SEAT. 5 by the template 'for every input the law returns true; each argument reads behind the call as it read before'; 0 by the template 'total and deterministic' (their statements: YtbpkebkblkjdhaaTotals.lean).
  GIVEN WITH THE SEED: the statements are not yours to turn. If you find one false, say at which input.
  Laid BY PROGRAM, IN A SANDBOX (cutbox-rows.mjs): the forced cells as the released guide's own fill.sh prints them over the translation f897c3982d177f3d… (all of the seat's roots in one cut). By AI agents, Wed Nov 11 2026. No macro, syntax, notation, axiom, sorry.
-/
import Derived.Test.YtbpkebkblkjdhaaChecked
import GoSem.Claim
import GoSem.ClaimJoined
import GoSem.ClaimMapViews
import Derived.JoinedTies
import Derived.KernelRfl
namespace Go.Proofs.Ytbpkebkblkjdhaa
/- THE CELL 'sum', in the pinned program and in every row, IS THE sha256 OF THE DUMP (.gsa) THAT YtbpkebkblkjdhaaProg.lean LOADS. Nothing in Lean hashes anything: it is a label: what it is worth is what the hold of that sum in a sandbox is worth. -/
noncomputable def Try.pinned : Pinned := { name := "ytbpkebkblkjdhaa", sum := "f897c3982d177f3dddbc1ffdded35b10d7f9c77e15a3cc95335fedb0be1a9122", checked := Try.checked }
namespace Rows
def none {H : Type} : Left H := { results := [], args := [] }

/-- 'tokenhalllaw.CoverTells': WHATEVER THE INPUT: true; the input reads as it did. -/
def coverTellsSpec : ChangeSpec := { name := "coverTells", fn := fun _ => fun
  | [d1, d2, d3, d4] => { results := [.lit (.bool true)], args := [d1, d2, d3, d4] }
  | _ => none }
def coverTellsRow : OpenClaim := { program := "ytbpkebkblkjdhaa", sum := "f897c3982d177f3dddbc1ffdded35b10d7f9c77e15a3cc95335fedb0be1a9122", func := "tokenhall/tokenhalllaw.CoverTells", spec := "coverTells", unfollowed := true, recurses := true, plainKeys := false, apart := false }
def CoverTellsSaid : Prop := coverTellsRow.holds Try.pinned (OpenSpec.ofChange coverTellsSpec)

/-- ITS FALSE NEIGHBOUR: 'it returns false'. Refute it at one input. -/
def coverTellsWrong : ChangeSpec := { name := "coverTells", fn := fun _ => fun
  | [d1, d2, d3, d4] => { results := [.lit (.bool false)], args := [d1, d2, d3, d4] }
  | _ => none }
def CoverTellsWrongFalsely : Prop := coverTellsRow.holds Try.pinned (OpenSpec.ofChange coverTellsWrong)

/-- 'tokenhallkeep.CoverAll': WHATEVER THE INPUT: true; the input reads as it did. -/
def coverAllSpec : ChangeSpec := { name := "coverAll", fn := fun _ => fun
  | [d1, d2, d3, d4] => { results := [.lit (.bool true)], args := [d1, d2, d3, d4] }
  | _ => none }
def coverAllRow : OpenClaim := { program := "ytbpkebkblkjdhaa", sum := "f897c3982d177f3dddbc1ffdded35b10d7f9c77e15a3cc95335fedb0be1a9122", func := "tokenhall/tokenhallkeep.CoverAll", spec := "coverAll", unfollowed := true, recurses := true, plainKeys := false, apart := false }
def CoverAllSaid : Prop := coverAllRow.holds Try.pinned (OpenSpec.ofChange coverAllSpec)

/-- ITS FALSE NEIGHBOUR: 'it returns false'. Refute it at one input. -/
def coverAllWrong : ChangeSpec := { name := "coverAll", fn := fun _ => fun
  | [d1, d2, d3, d4] => { results := [.lit (.bool false)], args := [d1, d2, d3, d4] }
  | _ => none }
def CoverAllWrongFalsely : Prop := coverAllRow.holds Try.pinned (OpenSpec.ofChange coverAllWrong)

/-- 'tokenhallkeep.CoverBounded': WHATEVER THE INPUT: true; the input reads as it did. -/
def coverBoundedSpec : ChangeSpec := { name := "coverBounded", fn := fun _ => fun
  | [d1, d2, d3] => { results := [.lit (.bool true)], args := [d1, d2, d3] }
  | _ => none }
def coverBoundedRow : OpenClaim := { program := "ytbpkebkblkjdhaa", sum := "f897c3982d177f3dddbc1ffdded35b10d7f9c77e15a3cc95335fedb0be1a9122", func := "tokenhall/tokenhallkeep.CoverBounded", spec := "coverBounded", unfollowed := true, recurses := true, plainKeys := false, apart := false }
def CoverBoundedSaid : Prop := coverBoundedRow.holds Try.pinned (OpenSpec.ofChange coverBoundedSpec)

/-- ITS FALSE NEIGHBOUR: 'it returns false'. Refute it at one input. -/
def coverBoundedWrong : ChangeSpec := { name := "coverBounded", fn := fun _ => fun
  | [d1, d2, d3] => { results := [.lit (.bool false)], args := [d1, d2, d3] }
  | _ => none }
def CoverBoundedWrongFalsely : Prop := coverBoundedRow.holds Try.pinned (OpenSpec.ofChange coverBoundedWrong)

/-- 'tokenhallkeep.CoverMany': WHATEVER THE INPUT: true; the input reads as it did. -/
def coverManySpec : ChangeSpec := { name := "coverMany", fn := fun _ => fun
  | [d1, d2, d3] => { results := [.lit (.bool true)], args := [d1, d2, d3] }
  | _ => none }
def coverManyRow : OpenClaim := { program := "ytbpkebkblkjdhaa", sum := "f897c3982d177f3dddbc1ffdded35b10d7f9c77e15a3cc95335fedb0be1a9122", func := "tokenhall/tokenhallkeep.CoverMany", spec := "coverMany", unfollowed := true, recurses := true, plainKeys := false, apart := false }
def CoverManySaid : Prop := coverManyRow.holds Try.pinned (OpenSpec.ofChange coverManySpec)

/-- ITS FALSE NEIGHBOUR: 'it returns false'. Refute it at one input. -/
def coverManyWrong : ChangeSpec := { name := "coverMany", fn := fun _ => fun
  | [d1, d2, d3] => { results := [.lit (.bool false)], args := [d1, d2, d3] }
  | _ => none }
def CoverManyWrongFalsely : Prop := coverManyRow.holds Try.pinned (OpenSpec.ofChange coverManyWrong)

/-- 'tokenhallkeep.CoverLimit': WHATEVER THE INPUT: true; the input reads as it did. -/
def coverLimitSpec : ChangeSpec := { name := "coverLimit", fn := fun _ => fun
  | [d1, d2, d3, d4, d5] => { results := [.lit (.bool true)], args := [d1, d2, d3, d4, d5] }
  | _ => none }
def coverLimitRow : OpenClaim := { program := "ytbpkebkblkjdhaa", sum := "f897c3982d177f3dddbc1ffdded35b10d7f9c77e15a3cc95335fedb0be1a9122", func := "tokenhall/tokenhallkeep.CoverLimit", spec := "coverLimit", unfollowed := true, recurses := true, plainKeys := false, apart := false }
def CoverLimitSaid : Prop := coverLimitRow.holds Try.pinned (OpenSpec.ofChange coverLimitSpec)

/-- ITS FALSE NEIGHBOUR: 'it returns false'. Refute it at one input. -/
def coverLimitWrong : ChangeSpec := { name := "coverLimit", fn := fun _ => fun
  | [d1, d2, d3, d4, d5] => { results := [.lit (.bool false)], args := [d1, d2, d3, d4, d5] }
  | _ => none }
def CoverLimitWrongFalsely : Prop := coverLimitRow.holds Try.pinned (OpenSpec.ofChange coverLimitWrong)

/- THE SECOND FORM. 'bulk': how many values and letters a reading holds, each counted each time it is reached (what is shared counts as often as it is met; a slice's spare places count too). A statement '..UptoSaid' is the law's where the arguments, and the package variables that the reading takes, are together of bulk at most 1048576: NARROWER than '..Said'. Prove '..Said' where nothing that the law and all that it calls make is longer than what came in: it says more and counts as full. Else prove '..UptoSaid'. A law counts once. -/
mutual
def uptoBulk {H : Type} : DataW H → Nat
  | .lit (.string bytes) => bytes.length + 1
  | .lit _ => 1
  | .nil => 1
  | .ptr d => uptoBulk d + 1
  | .slice elems spare => uptoBulkAll elems + uptoBulkAll spare + 1
  | .agg parts => uptoBulkAll parts + 1
  | .iface _ d => uptoBulk d + 1
  | .map entries => uptoBulkEntries entries + 1
  | .held _ => 1
def uptoBulkAll {H : Type} : List (DataW H) → Nat
  | [] => 0
  | d :: r => uptoBulk d + uptoBulkAll r
def uptoBulkEntries {H : Type} : List (Lit × DataW H) → Nat
  | [] => 0
  | x :: r => uptoBulkEntry x + uptoBulkEntries r
def uptoBulkEntry {H : Type} : Lit × DataW H → Nat
  | (.string bytes, d) => bytes.length + uptoBulk d + 1
  | (_, d) => uptoBulk d + 1
 end
def uptoSmall : (H : Type) → List (DataW H) → Bool := fun _ ds => decide (uptoBulkAll ds ≤ 1048576)
def OpenSpec.upto (s : _root_.Go.ChangeSpec) : _root_.Go.OpenSpec := { _root_.Go.OpenSpec.ofChange s with cond := some uptoSmall }

/-- 'tokenhalllaw.CoverTells', WHERE WHAT IT READS IS OF BULK AT MOST 1048576: true; the input reads as it did. -/
def coverTellsUptoRow : OpenClaim := { program := "ytbpkebkblkjdhaa", sum := "f897c3982d177f3dddbc1ffdded35b10d7f9c77e15a3cc95335fedb0be1a9122", func := "tokenhall/tokenhalllaw.CoverTells", spec := "coverTells", unfollowed := true, recurses := true, plainKeys := false, apart := false, narrowed := true }
def CoverTellsUptoSaid : Prop := coverTellsUptoRow.holds Try.pinned (OpenSpec.upto coverTellsSpec)

/-- 'tokenhallkeep.CoverAll', WHERE WHAT IT READS IS OF BULK AT MOST 1048576: true; the input reads as it did. -/
def coverAllUptoRow : OpenClaim := { program := "ytbpkebkblkjdhaa", sum := "f897c3982d177f3dddbc1ffdded35b10d7f9c77e15a3cc95335fedb0be1a9122", func := "tokenhall/tokenhallkeep.CoverAll", spec := "coverAll", unfollowed := true, recurses := true, plainKeys := false, apart := false, narrowed := true }
def CoverAllUptoSaid : Prop := coverAllUptoRow.holds Try.pinned (OpenSpec.upto coverAllSpec)

/-- 'tokenhallkeep.CoverBounded', WHERE WHAT IT READS IS OF BULK AT MOST 1048576: true; the input reads as it did. -/
def coverBoundedUptoRow : OpenClaim := { program := "ytbpkebkblkjdhaa", sum := "f897c3982d177f3dddbc1ffdded35b10d7f9c77e15a3cc95335fedb0be1a9122", func := "tokenhall/tokenhallkeep.CoverBounded", spec := "coverBounded", unfollowed := true, recurses := true, plainKeys := false, apart := false, narrowed := true }
def CoverBoundedUptoSaid : Prop := coverBoundedUptoRow.holds Try.pinned (OpenSpec.upto coverBoundedSpec)

/-- 'tokenhallkeep.CoverMany', WHERE WHAT IT READS IS OF BULK AT MOST 1048576: true; the input reads as it did. -/
def coverManyUptoRow : OpenClaim := { program := "ytbpkebkblkjdhaa", sum := "f897c3982d177f3dddbc1ffdded35b10d7f9c77e15a3cc95335fedb0be1a9122", func := "tokenhall/tokenhallkeep.CoverMany", spec := "coverMany", unfollowed := true, recurses := true, plainKeys := false, apart := false, narrowed := true }
def CoverManyUptoSaid : Prop := coverManyUptoRow.holds Try.pinned (OpenSpec.upto coverManySpec)

/-- 'tokenhallkeep.CoverLimit', WHERE WHAT IT READS IS OF BULK AT MOST 1048576: true; the input reads as it did. -/
def coverLimitUptoRow : OpenClaim := { program := "ytbpkebkblkjdhaa", sum := "f897c3982d177f3dddbc1ffdded35b10d7f9c77e15a3cc95335fedb0be1a9122", func := "tokenhall/tokenhallkeep.CoverLimit", spec := "coverLimit", unfollowed := true, recurses := true, plainKeys := false, apart := false, narrowed := true }
def CoverLimitUptoSaid : Prop := coverLimitUptoRow.holds Try.pinned (OpenSpec.upto coverLimitSpec)

end Rows
end Go.Proofs.Ytbpkebkblkjdhaa

/-
  No cell of these rows narrows 'for every input' (looked for: loops, veiled, ifaces, maps, wideKeys, modest, calm, conditions, laid).
  DERIVED. THE GIVEN ROWS OF THIS SEAT. 4 by the template 'for every input the law returns true; each argument reads behind the call as it read before'; 0 by the template 'total and deterministic' (their statements: YtaladbcocealnaaTotals.lean).
  GIVEN WITH THE SEED: the statements are not yours to turn. If you find one false, say at which input.
  Laid BY PROGRAM, IN A SANDBOX (cutbox-rows.mjs): the forced cells as the released guide's own fill.sh prints them over the translation 168c87ba28bafba8… (all of the seat's roots in one cut). By AI agents, Wed Nov 11 2026. No macro, syntax, notation, axiom, sorry.
-/
import Derived.Test.YtaladbcocealnaaChecked
import GoSem.Claim
import GoSem.ClaimJoined
import GoSem.ClaimMapViews
import Derived.JoinedTies
import Derived.KernelRfl
namespace Go.Proofs.Ytaladbcocealnaa
/- THE CELL 'sum', in the pinned program and in every row, IS THE sha256 OF THE DUMP (.gsa) THAT YtaladbcocealnaaProg.lean LOADS. Nothing in Lean hashes anything: it is a label: what it is worth is what the hold of that sum in a sandbox is worth. -/
noncomputable def Try.pinned : Pinned := { name := "ytaladbcocealnaa", sum := "168c87ba28bafba85c746e8ed156c42e81468f2fe05fee152cbb83d26722e81b", checked := Try.checked }
namespace Rows
def none {H : Type} : Left H := { results := [], args := [] }

/-- 'tokenhalllaw.HallPlays': WHATEVER THE INPUT: true; the input reads as it did. -/
def hallPlaysSpec : ChangeSpec := { name := "hallPlays", fn := fun _ => fun
  | [d1, d2, d3, d4] => { results := [.lit (.bool true)], args := [d1, d2, d3, d4] }
  | _ => none }
def hallPlaysRow : OpenClaim := { program := "ytaladbcocealnaa", sum := "168c87ba28bafba85c746e8ed156c42e81468f2fe05fee152cbb83d26722e81b", func := "tokenhall/tokenhalllaw.HallPlays", spec := "hallPlays", unfollowed := true, recurses := true, apart := false }
def HallPlaysSaid : Prop := hallPlaysRow.holds Try.pinned (OpenSpec.ofChange hallPlaysSpec)

/-- ITS FALSE NEIGHBOUR: 'it returns false'. Refute it at one input. -/
def hallPlaysWrong : ChangeSpec := { name := "hallPlays", fn := fun _ => fun
  | [d1, d2, d3, d4] => { results := [.lit (.bool false)], args := [d1, d2, d3, d4] }
  | _ => none }
def HallPlaysWrongFalsely : Prop := hallPlaysRow.holds Try.pinned (OpenSpec.ofChange hallPlaysWrong)

/-- 'tokenhallkeep.HallKept': WHATEVER THE INPUT: true; the input reads as it did. -/
def hallKeptSpec : ChangeSpec := { name := "hallKept", fn := fun _ => fun
  | [d1, d2, d3, d4, d5, d6] => { results := [.lit (.bool true)], args := [d1, d2, d3, d4, d5, d6] }
  | _ => none }
def hallKeptRow : OpenClaim := { program := "ytaladbcocealnaa", sum := "168c87ba28bafba85c746e8ed156c42e81468f2fe05fee152cbb83d26722e81b", func := "tokenhall/tokenhallkeep.HallKept", spec := "hallKept", unfollowed := true, recurses := true, apart := false }
def HallKeptSaid : Prop := hallKeptRow.holds Try.pinned (OpenSpec.ofChange hallKeptSpec)

/-- ITS FALSE NEIGHBOUR: 'it returns false'. Refute it at one input. -/
def hallKeptWrong : ChangeSpec := { name := "hallKept", fn := fun _ => fun
  | [d1, d2, d3, d4, d5, d6] => { results := [.lit (.bool false)], args := [d1, d2, d3, d4, d5, d6] }
  | _ => none }
def HallKeptWrongFalsely : Prop := hallKeptRow.holds Try.pinned (OpenSpec.ofChange hallKeptWrong)

/-- 'tokenhallkeep.HallTwice': WHATEVER THE INPUT: true; the input reads as it did. -/
def hallTwiceSpec : ChangeSpec := { name := "hallTwice", fn := fun _ => fun
  | [d1, d2, d3, d4, d5, d6] => { results := [.lit (.bool true)], args := [d1, d2, d3, d4, d5, d6] }
  | _ => none }
def hallTwiceRow : OpenClaim := { program := "ytaladbcocealnaa", sum := "168c87ba28bafba85c746e8ed156c42e81468f2fe05fee152cbb83d26722e81b", func := "tokenhall/tokenhallkeep.HallTwice", spec := "hallTwice", unfollowed := true, recurses := true, apart := false }
def HallTwiceSaid : Prop := hallTwiceRow.holds Try.pinned (OpenSpec.ofChange hallTwiceSpec)

/-- ITS FALSE NEIGHBOUR: 'it returns false'. Refute it at one input. -/
def hallTwiceWrong : ChangeSpec := { name := "hallTwice", fn := fun _ => fun
  | [d1, d2, d3, d4, d5, d6] => { results := [.lit (.bool false)], args := [d1, d2, d3, d4, d5, d6] }
  | _ => none }
def HallTwiceWrongFalsely : Prop := hallTwiceRow.holds Try.pinned (OpenSpec.ofChange hallTwiceWrong)

/-- 'tokenhallkeep.HallSame': WHATEVER THE INPUT: true; the input reads as it did. -/
def hallSameSpec : ChangeSpec := { name := "hallSame", fn := fun _ => fun
  | [d1, d2, d3, d4] => { results := [.lit (.bool true)], args := [d1, d2, d3, d4] }
  | _ => none }
def hallSameRow : OpenClaim := { program := "ytaladbcocealnaa", sum := "168c87ba28bafba85c746e8ed156c42e81468f2fe05fee152cbb83d26722e81b", func := "tokenhall/tokenhallkeep.HallSame", spec := "hallSame", unfollowed := true, recurses := true, apart := false }
def HallSameSaid : Prop := hallSameRow.holds Try.pinned (OpenSpec.ofChange hallSameSpec)

/-- ITS FALSE NEIGHBOUR: 'it returns false'. Refute it at one input. -/
def hallSameWrong : ChangeSpec := { name := "hallSame", fn := fun _ => fun
  | [d1, d2, d3, d4] => { results := [.lit (.bool false)], args := [d1, d2, d3, d4] }
  | _ => none }
def HallSameWrongFalsely : Prop := hallSameRow.holds Try.pinned (OpenSpec.ofChange hallSameWrong)

/- THE SECOND FORM. 'bulk': how many values and letters a reading holds, each counted each time it is reached (what is shared counts as often as it is met; a slice's spare places count too). A statement '..UptoSaid' is the law's where the arguments, and the package variables that the reading takes, are together of bulk at most 1048576: NARROWER than '..Said'. Prove '..Said' where nothing that the law and all that it calls make is longer than what came in: it says more and counts as full. Else prove '..UptoSaid'. A law counts once. -/
mutual
def uptoBulk {H : Type} : DataW H → Nat
  | .lit (.string bytes) => bytes.length + 1
  | .lit _ => 1
  | .nil => 1
  | .ptr d => uptoBulk d + 1
  | .slice elems spare => uptoBulkAll elems + uptoBulkAll spare + 1
  | .agg parts => uptoBulkAll parts + 1
  | .iface _ d => uptoBulk d + 1
  | .map entries => uptoBulkEntries entries + 1
  | .held _ => 1
def uptoBulkAll {H : Type} : List (DataW H) → Nat
  | [] => 0
  | d :: r => uptoBulk d + uptoBulkAll r
def uptoBulkEntries {H : Type} : List (Lit × DataW H) → Nat
  | [] => 0
  | x :: r => uptoBulkEntry x + uptoBulkEntries r
def uptoBulkEntry {H : Type} : Lit × DataW H → Nat
  | (.string bytes, d) => bytes.length + uptoBulk d + 1
  | (_, d) => uptoBulk d + 1
 end
def uptoSmall : (H : Type) → List (DataW H) → Bool := fun _ ds => decide (uptoBulkAll ds ≤ 1048576)
def OpenSpec.upto (s : _root_.Go.ChangeSpec) : _root_.Go.OpenSpec := { _root_.Go.OpenSpec.ofChange s with cond := some uptoSmall }

/-- 'tokenhalllaw.HallPlays', WHERE WHAT IT READS IS OF BULK AT MOST 1048576: true; the input reads as it did. -/
def hallPlaysUptoRow : OpenClaim := { program := "ytaladbcocealnaa", sum := "168c87ba28bafba85c746e8ed156c42e81468f2fe05fee152cbb83d26722e81b", func := "tokenhall/tokenhalllaw.HallPlays", spec := "hallPlays", unfollowed := true, recurses := true, apart := false, narrowed := true }
def HallPlaysUptoSaid : Prop := hallPlaysUptoRow.holds Try.pinned (OpenSpec.upto hallPlaysSpec)

/-- 'tokenhallkeep.HallKept', WHERE WHAT IT READS IS OF BULK AT MOST 1048576: true; the input reads as it did. -/
def hallKeptUptoRow : OpenClaim := { program := "ytaladbcocealnaa", sum := "168c87ba28bafba85c746e8ed156c42e81468f2fe05fee152cbb83d26722e81b", func := "tokenhall/tokenhallkeep.HallKept", spec := "hallKept", unfollowed := true, recurses := true, apart := false, narrowed := true }
def HallKeptUptoSaid : Prop := hallKeptUptoRow.holds Try.pinned (OpenSpec.upto hallKeptSpec)

/-- 'tokenhallkeep.HallTwice', WHERE WHAT IT READS IS OF BULK AT MOST 1048576: true; the input reads as it did. -/
def hallTwiceUptoRow : OpenClaim := { program := "ytaladbcocealnaa", sum := "168c87ba28bafba85c746e8ed156c42e81468f2fe05fee152cbb83d26722e81b", func := "tokenhall/tokenhallkeep.HallTwice", spec := "hallTwice", unfollowed := true, recurses := true, apart := false, narrowed := true }
def HallTwiceUptoSaid : Prop := hallTwiceUptoRow.holds Try.pinned (OpenSpec.upto hallTwiceSpec)

/-- 'tokenhallkeep.HallSame', WHERE WHAT IT READS IS OF BULK AT MOST 1048576: true; the input reads as it did. -/
def hallSameUptoRow : OpenClaim := { program := "ytaladbcocealnaa", sum := "168c87ba28bafba85c746e8ed156c42e81468f2fe05fee152cbb83d26722e81b", func := "tokenhall/tokenhallkeep.HallSame", spec := "hallSame", unfollowed := true, recurses := true, apart := false, narrowed := true }
def HallSameUptoSaid : Prop := hallSameUptoRow.holds Try.pinned (OpenSpec.upto hallSameSpec)

end Rows
end Go.Proofs.Ytaladbcocealnaa

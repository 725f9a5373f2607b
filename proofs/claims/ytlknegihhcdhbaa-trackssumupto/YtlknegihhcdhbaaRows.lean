/-
  No cell of these rows narrows 'for every input' (looked for: loops, veiled, ifaces, maps, wideKeys, modest, calm, conditions, laid).
  DERIVED. THE GIVEN ROWS OF THIS SEAT. 4 by the template 'for every input the law returns true; each argument reads behind the call as it read before'; 0 by the template 'total and deterministic' (their statements: YtlknegihhcdhbaaTotals.lean).
  GIVEN WITH THE SEED: the statements are not yours to turn. If you find one false, say at which input.
  Laid BY PROGRAM, IN A SANDBOX (cutbox-rows.mjs): the forced cells as the released guide's own fill.sh prints them over the translation 883ad46492e292d7… (all of the seat's roots in one cut). By AI agents, Wed Nov 11 2026. No macro, syntax, notation, axiom, sorry.
-/
import Derived.Test.YtlknegihhcdhbaaChecked
import GoSem.Claim
import GoSem.ClaimJoined
import GoSem.ClaimMapViews
import Derived.JoinedTies
import Derived.KernelRfl
namespace Go.Proofs.Ytlknegihhcdhbaa
/- THE CELL 'sum', in the pinned program and in every row, IS THE sha256 OF THE DUMP (.gsa) THAT YtlknegihhcdhbaaProg.lean LOADS. Nothing in Lean hashes anything: it is a label: what it is worth is what the hold of that sum in a sandbox is worth. -/
noncomputable def Try.pinned : Pinned := { name := "ytlknegihhcdhbaa", sum := "883ad46492e292d7d17b2518884aa92ca1ad3f4a23b1c69620e9de6dab5e11e4", checked := Try.checked }
namespace Rows
def none {H : Type} : Left H := { results := [], args := [] }

/-- 'tokenhalllaw.TracksTell': WHATEVER THE INPUT: true; the input reads as it did. -/
def tracksTellSpec : ChangeSpec := { name := "tracksTell", fn := fun _ => fun
  | [d1, d2] => { results := [.lit (.bool true)], args := [d1, d2] }
  | _ => none }
def tracksTellRow : OpenClaim := { program := "ytlknegihhcdhbaa", sum := "883ad46492e292d7d17b2518884aa92ca1ad3f4a23b1c69620e9de6dab5e11e4", func := "tokenhall/tokenhalllaw.TracksTell", spec := "tracksTell", unfollowed := true, recurses := true, plainKeys := false, apart := false }
def TracksTellSaid : Prop := tracksTellRow.holds Try.pinned (OpenSpec.ofChange tracksTellSpec)

/-- ITS FALSE NEIGHBOUR: 'it returns false'. Refute it at one input. -/
def tracksTellWrong : ChangeSpec := { name := "tracksTell", fn := fun _ => fun
  | [d1, d2] => { results := [.lit (.bool false)], args := [d1, d2] }
  | _ => none }
def TracksTellWrongFalsely : Prop := tracksTellRow.holds Try.pinned (OpenSpec.ofChange tracksTellWrong)

/-- 'tokenhallkeep.TracksSum': WHATEVER THE INPUT: true; the input reads as it did. -/
def tracksSumSpec : ChangeSpec := { name := "tracksSum", fn := fun _ => fun
  | [d1, d2] => { results := [.lit (.bool true)], args := [d1, d2] }
  | _ => none }
def tracksSumRow : OpenClaim := { program := "ytlknegihhcdhbaa", sum := "883ad46492e292d7d17b2518884aa92ca1ad3f4a23b1c69620e9de6dab5e11e4", func := "tokenhall/tokenhallkeep.TracksSum", spec := "tracksSum", unfollowed := true, recurses := true, plainKeys := false, apart := false }
def TracksSumSaid : Prop := tracksSumRow.holds Try.pinned (OpenSpec.ofChange tracksSumSpec)

/-- ITS FALSE NEIGHBOUR: 'it returns false'. Refute it at one input. -/
def tracksSumWrong : ChangeSpec := { name := "tracksSum", fn := fun _ => fun
  | [d1, d2] => { results := [.lit (.bool false)], args := [d1, d2] }
  | _ => none }
def TracksSumWrongFalsely : Prop := tracksSumRow.holds Try.pinned (OpenSpec.ofChange tracksSumWrong)

/-- 'tokenhallkeep.TracksWalk': WHATEVER THE INPUT: true; the input reads as it did. -/
def tracksWalkSpec : ChangeSpec := { name := "tracksWalk", fn := fun _ => fun
  | [d1, d2] => { results := [.lit (.bool true)], args := [d1, d2] }
  | _ => none }
def tracksWalkRow : OpenClaim := { program := "ytlknegihhcdhbaa", sum := "883ad46492e292d7d17b2518884aa92ca1ad3f4a23b1c69620e9de6dab5e11e4", func := "tokenhall/tokenhallkeep.TracksWalk", spec := "tracksWalk", unfollowed := true, recurses := true, plainKeys := false, apart := false }
def TracksWalkSaid : Prop := tracksWalkRow.holds Try.pinned (OpenSpec.ofChange tracksWalkSpec)

/-- ITS FALSE NEIGHBOUR: 'it returns false'. Refute it at one input. -/
def tracksWalkWrong : ChangeSpec := { name := "tracksWalk", fn := fun _ => fun
  | [d1, d2] => { results := [.lit (.bool false)], args := [d1, d2] }
  | _ => none }
def TracksWalkWrongFalsely : Prop := tracksWalkRow.holds Try.pinned (OpenSpec.ofChange tracksWalkWrong)

/-- 'tokenhallkeep.TracksOnto': WHATEVER THE INPUT: true; the input reads as it did. -/
def tracksOntoSpec : ChangeSpec := { name := "tracksOnto", fn := fun _ => fun
  | [d1, d2, d3] => { results := [.lit (.bool true)], args := [d1, d2, d3] }
  | _ => none }
def tracksOntoRow : OpenClaim := { program := "ytlknegihhcdhbaa", sum := "883ad46492e292d7d17b2518884aa92ca1ad3f4a23b1c69620e9de6dab5e11e4", func := "tokenhall/tokenhallkeep.TracksOnto", spec := "tracksOnto", unfollowed := true, recurses := true, plainKeys := false, apart := false }
def TracksOntoSaid : Prop := tracksOntoRow.holds Try.pinned (OpenSpec.ofChange tracksOntoSpec)

/-- ITS FALSE NEIGHBOUR: 'it returns false'. Refute it at one input. -/
def tracksOntoWrong : ChangeSpec := { name := "tracksOnto", fn := fun _ => fun
  | [d1, d2, d3] => { results := [.lit (.bool false)], args := [d1, d2, d3] }
  | _ => none }
def TracksOntoWrongFalsely : Prop := tracksOntoRow.holds Try.pinned (OpenSpec.ofChange tracksOntoWrong)

/- THE SECOND FORM. 'bulk': how many values and letters a reading holds, each counted each time it is reached (what is shared counts as often as it is met; a slice's spare places count too). A statement '..UptoSaid' is the law's where the arguments, and the package variables that the reading takes, are together of bulk at most 1048576: NARROWER than '..Said'. Prove '..Said' where nothing that the law and all that it calls make is longer than what came in: it says more and counts as full. Else prove '..UptoSaid'. A law counts once. -/
mutual
def uptoBulk {H : Type} : DataW H → Nat
  | .lit (.string bytes) => bytes.length + 1
  | .lit _ => 1
  | .nil => 1
  | .ptr d => uptoBulk d + 1
  | .slice elems spare => uptoBulkAll elems + uptoBulkAll spare + 1
  | .agg parts => uptoBulkAll parts + 1
  | .iface _ d => uptoBulk d + 1
  | .map entries => uptoBulkEntries entries + 1
  | .held _ => 1
def uptoBulkAll {H : Type} : List (DataW H) → Nat
  | [] => 0
  | d :: r => uptoBulk d + uptoBulkAll r
def uptoBulkEntries {H : Type} : List (Lit × DataW H) → Nat
  | [] => 0
  | x :: r => uptoBulkEntry x + uptoBulkEntries r
def uptoBulkEntry {H : Type} : Lit × DataW H → Nat
  | (.string bytes, d) => bytes.length + uptoBulk d + 1
  | (_, d) => uptoBulk d + 1
 end
def uptoSmall : (H : Type) → List (DataW H) → Bool := fun _ ds => decide (uptoBulkAll ds ≤ 1048576)
def OpenSpec.upto (s : _root_.Go.ChangeSpec) : _root_.Go.OpenSpec := { _root_.Go.OpenSpec.ofChange s with cond := some uptoSmall }

/-- 'tokenhalllaw.TracksTell', WHERE WHAT IT READS IS OF BULK AT MOST 1048576: true; the input reads as it did. -/
def tracksTellUptoRow : OpenClaim := { program := "ytlknegihhcdhbaa", sum := "883ad46492e292d7d17b2518884aa92ca1ad3f4a23b1c69620e9de6dab5e11e4", func := "tokenhall/tokenhalllaw.TracksTell", spec := "tracksTell", unfollowed := true, recurses := true, plainKeys := false, apart := false, narrowed := true }
def TracksTellUptoSaid : Prop := tracksTellUptoRow.holds Try.pinned (OpenSpec.upto tracksTellSpec)

/-- 'tokenhallkeep.TracksSum', WHERE WHAT IT READS IS OF BULK AT MOST 1048576: true; the input reads as it did. -/
def tracksSumUptoRow : OpenClaim := { program := "ytlknegihhcdhbaa", sum := "883ad46492e292d7d17b2518884aa92ca1ad3f4a23b1c69620e9de6dab5e11e4", func := "tokenhall/tokenhallkeep.TracksSum", spec := "tracksSum", unfollowed := true, recurses := true, plainKeys := false, apart := false, narrowed := true }
def TracksSumUptoSaid : Prop := tracksSumUptoRow.holds Try.pinned (OpenSpec.upto tracksSumSpec)

/-- 'tokenhallkeep.TracksWalk', WHERE WHAT IT READS IS OF BULK AT MOST 1048576: true; the input reads as it did. -/
def tracksWalkUptoRow : OpenClaim := { program := "ytlknegihhcdhbaa", sum := "883ad46492e292d7d17b2518884aa92ca1ad3f4a23b1c69620e9de6dab5e11e4", func := "tokenhall/tokenhallkeep.TracksWalk", spec := "tracksWalk", unfollowed := true, recurses := true, plainKeys := false, apart := false, narrowed := true }
def TracksWalkUptoSaid : Prop := tracksWalkUptoRow.holds Try.pinned (OpenSpec.upto tracksWalkSpec)

/-- 'tokenhallkeep.TracksOnto', WHERE WHAT IT READS IS OF BULK AT MOST 1048576: true; the input reads as it did. -/
def tracksOntoUptoRow : OpenClaim := { program := "ytlknegihhcdhbaa", sum := "883ad46492e292d7d17b2518884aa92ca1ad3f4a23b1c69620e9de6dab5e11e4", func := "tokenhall/tokenhallkeep.TracksOnto", spec := "tracksOnto", unfollowed := true, recurses := true, plainKeys := false, apart := false, narrowed := true }
def TracksOntoUptoSaid : Prop := tracksOntoUptoRow.holds Try.pinned (OpenSpec.upto tracksOntoSpec)

end Rows
end Go.Proofs.Ytlknegihhcdhbaa

/-
  No cell of these rows narrows 'for every input' (looked for: loops, veiled, ifaces, maps, wideKeys, modest, calm, conditions, laid).
  DERIVED. THE GIVEN ROWS OF THIS SEAT. 5 by the template 'for every input the law returns true; each argument reads behind the call as it read before'; 0 by the template 'total and deterministic' (their statements: YtkdbkoogcndlgaaTotals.lean).
  GIVEN WITH THE SEED: the statements are not yours to turn. If you find one false, say at which input.
  Laid BY PROGRAM, IN A SANDBOX (cutbox-rows.mjs): the forced cells as the released guide's own fill.sh prints them over the translation c1d74ef65451b346… (all of the seat's roots in one cut). By AI agents, Wed Nov 11 2026. No macro, syntax, notation, axiom, sorry.
-/
import Derived.Test.YtkdbkoogcndlgaaChecked
import GoSem.Claim
import GoSem.ClaimJoined
import GoSem.ClaimMapViews
import Derived.JoinedTies
import Derived.KernelRfl
namespace Go.Proofs.Ytkdbkoogcndlgaa
/- THE CELL 'sum', in the pinned program and in every row, IS THE sha256 OF THE DUMP (.gsa) THAT YtkdbkoogcndlgaaProg.lean LOADS. Nothing in Lean hashes anything: it is a label: what it is worth is what the hold of that sum in a sandbox is worth. -/
noncomputable def Try.pinned : Pinned := { name := "ytkdbkoogcndlgaa", sum := "c1d74ef65451b346c051bea9065a17012c5713894392d2b613aa12526359af78", checked := Try.checked }
namespace Rows
def none {H : Type} : Left H := { results := [], args := [] }

/-- 'tokenhalllaw.SoundJudges': WHATEVER THE INPUT: true; the input reads as it did. -/
def soundJudgesSpec : ChangeSpec := { name := "soundJudges", fn := fun _ => fun
  | [d1, d2, d3, d4] => { results := [.lit (.bool true)], args := [d1, d2, d3, d4] }
  | _ => none }
def soundJudgesRow : OpenClaim := { program := "ytkdbkoogcndlgaa", sum := "c1d74ef65451b346c051bea9065a17012c5713894392d2b613aa12526359af78", func := "tokenhall/tokenhalllaw.SoundJudges", spec := "soundJudges", unfollowed := true, recurses := true, plainKeys := false, apart := false }
def SoundJudgesSaid : Prop := soundJudgesRow.holds Try.pinned (OpenSpec.ofChange soundJudgesSpec)

/-- ITS FALSE NEIGHBOUR: 'it returns false'. Refute it at one input. -/
def soundJudgesWrong : ChangeSpec := { name := "soundJudges", fn := fun _ => fun
  | [d1, d2, d3, d4] => { results := [.lit (.bool false)], args := [d1, d2, d3, d4] }
  | _ => none }
def SoundJudgesWrongFalsely : Prop := soundJudgesRow.holds Try.pinned (OpenSpec.ofChange soundJudgesWrong)

/-- 'tokenhallkeep.SoundMeans': WHATEVER THE INPUT: true; the input reads as it did. -/
def soundMeansSpec : ChangeSpec := { name := "soundMeans", fn := fun _ => fun
  | [d1, d2, d3, d4, d5] => { results := [.lit (.bool true)], args := [d1, d2, d3, d4, d5] }
  | _ => none }
def soundMeansRow : OpenClaim := { program := "ytkdbkoogcndlgaa", sum := "c1d74ef65451b346c051bea9065a17012c5713894392d2b613aa12526359af78", func := "tokenhall/tokenhallkeep.SoundMeans", spec := "soundMeans", unfollowed := true, recurses := true, plainKeys := false, apart := false }
def SoundMeansSaid : Prop := soundMeansRow.holds Try.pinned (OpenSpec.ofChange soundMeansSpec)

/-- ITS FALSE NEIGHBOUR: 'it returns false'. Refute it at one input. -/
def soundMeansWrong : ChangeSpec := { name := "soundMeans", fn := fun _ => fun
  | [d1, d2, d3, d4, d5] => { results := [.lit (.bool false)], args := [d1, d2, d3, d4, d5] }
  | _ => none }
def SoundMeansWrongFalsely : Prop := soundMeansRow.holds Try.pinned (OpenSpec.ofChange soundMeansWrong)

/-- 'tokenhallkeep.SoundWitness': WHATEVER THE INPUT: true; the input reads as it did. -/
def soundWitnessSpec : ChangeSpec := { name := "soundWitness", fn := fun _ => fun
  | [d1, d2, d3, d4, d5] => { results := [.lit (.bool true)], args := [d1, d2, d3, d4, d5] }
  | _ => none }
def soundWitnessRow : OpenClaim := { program := "ytkdbkoogcndlgaa", sum := "c1d74ef65451b346c051bea9065a17012c5713894392d2b613aa12526359af78", func := "tokenhall/tokenhallkeep.SoundWitness", spec := "soundWitness", unfollowed := true, recurses := true, plainKeys := false, apart := false }
def SoundWitnessSaid : Prop := soundWitnessRow.holds Try.pinned (OpenSpec.ofChange soundWitnessSpec)

/-- ITS FALSE NEIGHBOUR: 'it returns false'. Refute it at one input. -/
def soundWitnessWrong : ChangeSpec := { name := "soundWitness", fn := fun _ => fun
  | [d1, d2, d3, d4, d5] => { results := [.lit (.bool false)], args := [d1, d2, d3, d4, d5] }
  | _ => none }
def SoundWitnessWrongFalsely : Prop := soundWitnessRow.holds Try.pinned (OpenSpec.ofChange soundWitnessWrong)

/-- 'tokenhallkeep.SoundClosed': WHATEVER THE INPUT: true; the input reads as it did. -/
def soundClosedSpec : ChangeSpec := { name := "soundClosed", fn := fun _ => fun
  | [d1, d2, d3, d4] => { results := [.lit (.bool true)], args := [d1, d2, d3, d4] }
  | _ => none }
def soundClosedRow : OpenClaim := { program := "ytkdbkoogcndlgaa", sum := "c1d74ef65451b346c051bea9065a17012c5713894392d2b613aa12526359af78", func := "tokenhall/tokenhallkeep.SoundClosed", spec := "soundClosed", unfollowed := true, recurses := true, plainKeys := false, apart := false }
def SoundClosedSaid : Prop := soundClosedRow.holds Try.pinned (OpenSpec.ofChange soundClosedSpec)

/-- ITS FALSE NEIGHBOUR: 'it returns false'. Refute it at one input. -/
def soundClosedWrong : ChangeSpec := { name := "soundClosed", fn := fun _ => fun
  | [d1, d2, d3, d4] => { results := [.lit (.bool false)], args := [d1, d2, d3, d4] }
  | _ => none }
def SoundClosedWrongFalsely : Prop := soundClosedRow.holds Try.pinned (OpenSpec.ofChange soundClosedWrong)

/-- 'tokenhallkeep.SoundRoom': WHATEVER THE INPUT: true; the input reads as it did. -/
def soundRoomSpec : ChangeSpec := { name := "soundRoom", fn := fun _ => fun
  | [d1, d2, d3, d4, d5] => { results := [.lit (.bool true)], args := [d1, d2, d3, d4, d5] }
  | _ => none }
def soundRoomRow : OpenClaim := { program := "ytkdbkoogcndlgaa", sum := "c1d74ef65451b346c051bea9065a17012c5713894392d2b613aa12526359af78", func := "tokenhall/tokenhallkeep.SoundRoom", spec := "soundRoom", unfollowed := true, recurses := true, plainKeys := false, apart := false }
def SoundRoomSaid : Prop := soundRoomRow.holds Try.pinned (OpenSpec.ofChange soundRoomSpec)

/-- ITS FALSE NEIGHBOUR: 'it returns false'. Refute it at one input. -/
def soundRoomWrong : ChangeSpec := { name := "soundRoom", fn := fun _ => fun
  | [d1, d2, d3, d4, d5] => { results := [.lit (.bool false)], args := [d1, d2, d3, d4, d5] }
  | _ => none }
def SoundRoomWrongFalsely : Prop := soundRoomRow.holds Try.pinned (OpenSpec.ofChange soundRoomWrong)

/- THE SECOND FORM. 'bulk': how many values and letters a reading holds, each counted each time it is reached (what is shared counts as often as it is met; a slice's spare places count too). A statement '..UptoSaid' is the law's where the arguments, and the package variables that the reading takes, are together of bulk at most 1048576: NARROWER than '..Said'. Prove '..Said' where nothing that the law and all that it calls make is longer than what came in: it says more and counts as full. Else prove '..UptoSaid'. A law counts once. -/
mutual
def uptoBulk {H : Type} : DataW H → Nat
  | .lit (.string bytes) => bytes.length + 1
  | .lit _ => 1
  | .nil => 1
  | .ptr d => uptoBulk d + 1
  | .slice elems spare => uptoBulkAll elems + uptoBulkAll spare + 1
  | .agg parts => uptoBulkAll parts + 1
  | .iface _ d => uptoBulk d + 1
  | .map entries => uptoBulkEntries entries + 1
  | .held _ => 1
def uptoBulkAll {H : Type} : List (DataW H) → Nat
  | [] => 0
  | d :: r => uptoBulk d + uptoBulkAll r
def uptoBulkEntries {H : Type} : List (Lit × DataW H) → Nat
  | [] => 0
  | x :: r => uptoBulkEntry x + uptoBulkEntries r
def uptoBulkEntry {H : Type} : Lit × DataW H → Nat
  | (.string bytes, d) => bytes.length + uptoBulk d + 1
  | (_, d) => uptoBulk d + 1
 end
def uptoSmall : (H : Type) → List (DataW H) → Bool := fun _ ds => decide (uptoBulkAll ds ≤ 1048576)
def OpenSpec.upto (s : _root_.Go.ChangeSpec) : _root_.Go.OpenSpec := { _root_.Go.OpenSpec.ofChange s with cond := some uptoSmall }

/-- 'tokenhalllaw.SoundJudges', WHERE WHAT IT READS IS OF BULK AT MOST 1048576: true; the input reads as it did. -/
def soundJudgesUptoRow : OpenClaim := { program := "ytkdbkoogcndlgaa", sum := "c1d74ef65451b346c051bea9065a17012c5713894392d2b613aa12526359af78", func := "tokenhall/tokenhalllaw.SoundJudges", spec := "soundJudges", unfollowed := true, recurses := true, plainKeys := false, apart := false, narrowed := true }
def SoundJudgesUptoSaid : Prop := soundJudgesUptoRow.holds Try.pinned (OpenSpec.upto soundJudgesSpec)

/-- 'tokenhallkeep.SoundMeans', WHERE WHAT IT READS IS OF BULK AT MOST 1048576: true; the input reads as it did. -/
def soundMeansUptoRow : OpenClaim := { program := "ytkdbkoogcndlgaa", sum := "c1d74ef65451b346c051bea9065a17012c5713894392d2b613aa12526359af78", func := "tokenhall/tokenhallkeep.SoundMeans", spec := "soundMeans", unfollowed := true, recurses := true, plainKeys := false, apart := false, narrowed := true }
def SoundMeansUptoSaid : Prop := soundMeansUptoRow.holds Try.pinned (OpenSpec.upto soundMeansSpec)

/-- 'tokenhallkeep.SoundWitness', WHERE WHAT IT READS IS OF BULK AT MOST 1048576: true; the input reads as it did. -/
def soundWitnessUptoRow : OpenClaim := { program := "ytkdbkoogcndlgaa", sum := "c1d74ef65451b346c051bea9065a17012c5713894392d2b613aa12526359af78", func := "tokenhall/tokenhallkeep.SoundWitness", spec := "soundWitness", unfollowed := true, recurses := true, plainKeys := false, apart := false, narrowed := true }
def SoundWitnessUptoSaid : Prop := soundWitnessUptoRow.holds Try.pinned (OpenSpec.upto soundWitnessSpec)

/-- 'tokenhallkeep.SoundClosed', WHERE WHAT IT READS IS OF BULK AT MOST 1048576: true; the input reads as it did. -/
def soundClosedUptoRow : OpenClaim := { program := "ytkdbkoogcndlgaa", sum := "c1d74ef65451b346c051bea9065a17012c5713894392d2b613aa12526359af78", func := "tokenhall/tokenhallkeep.SoundClosed", spec := "soundClosed", unfollowed := true, recurses := true, plainKeys := false, apart := false, narrowed := true }
def SoundClosedUptoSaid : Prop := soundClosedUptoRow.holds Try.pinned (OpenSpec.upto soundClosedSpec)

/-- 'tokenhallkeep.SoundRoom', WHERE WHAT IT READS IS OF BULK AT MOST 1048576: true; the input reads as it did. -/
def soundRoomUptoRow : OpenClaim := { program := "ytkdbkoogcndlgaa", sum := "c1d74ef65451b346c051bea9065a17012c5713894392d2b613aa12526359af78", func := "tokenhall/tokenhallkeep.SoundRoom", spec := "soundRoom", unfollowed := true, recurses := true, plainKeys := false, apart := false, narrowed := true }
def SoundRoomUptoSaid : Prop := soundRoomUptoRow.holds Try.pinned (OpenSpec.upto soundRoomSpec)

end Rows
end Go.Proofs.Ytkdbkoogcndlgaa

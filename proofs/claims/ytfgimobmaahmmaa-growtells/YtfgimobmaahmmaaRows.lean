/-
  NARROWER THAN 'FOR EVERY INPUT', by the rows' own cells (each row's printed sentence says how): GrowTells: loops · GrowSound: loops · GrowSafe: loops · GrowFree: loops.
  DERIVED. THE GIVEN ROWS OF THIS SEAT. 4 by the template 'for every input the law returns true; each argument reads behind the call as it read before'; 0 by the template 'total and deterministic' (their statements: YtfgimobmaahmmaaTotals.lean).
  GIVEN WITH THE SEED: the statements are not yours to turn. If you find one false, say at which input.
  Laid BY PROGRAM, IN A SANDBOX (cutbox-rows.mjs): the forced cells as the released guide's own fill.sh prints them over the translation b414d7e7cd81d29b… (all of the seat's roots in one cut). By AI agents, Wed Nov 11 2026. No macro, syntax, notation, axiom, sorry.
-/
import Derived.Test.YtfgimobmaahmmaaChecked
import GoSem.Claim
import GoSem.ClaimJoined
import GoSem.ClaimMapViews
import Derived.JoinedTies
import Derived.KernelRfl
namespace Go.Proofs.Ytfgimobmaahmmaa
/- THE CELL 'sum', in the pinned program and in every row, IS THE sha256 OF THE DUMP (.gsa) THAT YtfgimobmaahmmaaProg.lean LOADS. Nothing in Lean hashes anything: it is a label: what it is worth is what the hold of that sum in a sandbox is worth. -/
noncomputable def Try.pinned : Pinned := { name := "ytfgimobmaahmmaa", sum := "b414d7e7cd81d29b05ee92bc084dda5125be3d452af2b30e88d2ac16ac8c0fc1", checked := Try.checked }
namespace Rows
def none {H : Type} : Left H := { results := [], args := [] }

/-- 'tokenhalllaw.GrowTells': WHATEVER THE INPUT: true; the input reads as it did. -/
def growTellsSpec : ChangeSpec := { name := "growTells", fn := fun _ => fun
  | [d] => { results := [.lit (.bool true)], args := [d] }
  | _ => none }
def growTellsRow : OpenClaim := { program := "ytfgimobmaahmmaa", sum := "b414d7e7cd81d29b05ee92bc084dda5125be3d452af2b30e88d2ac16ac8c0fc1", func := "tokenhall/tokenhalllaw.GrowTells", spec := "growTells", unfollowed := true, recurses := true, loops := true, plainKeys := false, apart := false }
def GrowTellsSaid : Prop := growTellsRow.holds Try.pinned (OpenSpec.ofChange growTellsSpec)

/-- ITS FALSE NEIGHBOUR: 'it returns false'. Refute it at one input. -/
def growTellsWrong : ChangeSpec := { name := "growTells", fn := fun _ => fun
  | [d] => { results := [.lit (.bool false)], args := [d] }
  | _ => none }
def GrowTellsWrongFalsely : Prop := growTellsRow.holds Try.pinned (OpenSpec.ofChange growTellsWrong)

/-- 'tokenhallkeep.GrowSound': WHATEVER THE INPUT: true; the input reads as it did. -/
def growSoundSpec : ChangeSpec := { name := "growSound", fn := fun _ => fun
  | [d] => { results := [.lit (.bool true)], args := [d] }
  | _ => none }
def growSoundRow : OpenClaim := { program := "ytfgimobmaahmmaa", sum := "b414d7e7cd81d29b05ee92bc084dda5125be3d452af2b30e88d2ac16ac8c0fc1", func := "tokenhall/tokenhallkeep.GrowSound", spec := "growSound", unfollowed := true, recurses := true, loops := true, plainKeys := false, apart := false }
def GrowSoundSaid : Prop := growSoundRow.holds Try.pinned (OpenSpec.ofChange growSoundSpec)

/-- ITS FALSE NEIGHBOUR: 'it returns false'. Refute it at one input. -/
def growSoundWrong : ChangeSpec := { name := "growSound", fn := fun _ => fun
  | [d] => { results := [.lit (.bool false)], args := [d] }
  | _ => none }
def GrowSoundWrongFalsely : Prop := growSoundRow.holds Try.pinned (OpenSpec.ofChange growSoundWrong)

/-- 'tokenhallkeep.GrowSafe': WHATEVER THE INPUT: true; the input reads as it did. -/
def growSafeSpec : ChangeSpec := { name := "growSafe", fn := fun _ => fun
  | [d1, d2] => { results := [.lit (.bool true)], args := [d1, d2] }
  | _ => none }
def growSafeRow : OpenClaim := { program := "ytfgimobmaahmmaa", sum := "b414d7e7cd81d29b05ee92bc084dda5125be3d452af2b30e88d2ac16ac8c0fc1", func := "tokenhall/tokenhallkeep.GrowSafe", spec := "growSafe", unfollowed := true, recurses := true, loops := true, plainKeys := false, apart := false }
def GrowSafeSaid : Prop := growSafeRow.holds Try.pinned (OpenSpec.ofChange growSafeSpec)

/-- ITS FALSE NEIGHBOUR: 'it returns false'. Refute it at one input. -/
def growSafeWrong : ChangeSpec := { name := "growSafe", fn := fun _ => fun
  | [d1, d2] => { results := [.lit (.bool false)], args := [d1, d2] }
  | _ => none }
def GrowSafeWrongFalsely : Prop := growSafeRow.holds Try.pinned (OpenSpec.ofChange growSafeWrong)

/-- 'tokenhallkeep.GrowFree': WHATEVER THE INPUT: true; the input reads as it did. -/
def growFreeSpec : ChangeSpec := { name := "growFree", fn := fun _ => fun
  | [d] => { results := [.lit (.bool true)], args := [d] }
  | _ => none }
def growFreeRow : OpenClaim := { program := "ytfgimobmaahmmaa", sum := "b414d7e7cd81d29b05ee92bc084dda5125be3d452af2b30e88d2ac16ac8c0fc1", func := "tokenhall/tokenhallkeep.GrowFree", spec := "growFree", unfollowed := true, recurses := true, loops := true, plainKeys := false, apart := false }
def GrowFreeSaid : Prop := growFreeRow.holds Try.pinned (OpenSpec.ofChange growFreeSpec)

/-- ITS FALSE NEIGHBOUR: 'it returns false'. Refute it at one input. -/
def growFreeWrong : ChangeSpec := { name := "growFree", fn := fun _ => fun
  | [d] => { results := [.lit (.bool false)], args := [d] }
  | _ => none }
def GrowFreeWrongFalsely : Prop := growFreeRow.holds Try.pinned (OpenSpec.ofChange growFreeWrong)

/- THE SECOND FORM. 'bulk': how many values and letters a reading holds, each counted each time it is reached (what is shared counts as often as it is met; a slice's spare places count too). A statement '..UptoSaid' is the law's where the arguments, and the package variables that the reading takes, are together of bulk at most 1048576: NARROWER than '..Said'. Prove '..Said' where nothing that the law and all that it calls make is longer than what came in: it says more and counts as full. Else prove '..UptoSaid'. A law counts once. -/
mutual
def uptoBulk {H : Type} : DataW H → Nat
  | .lit (.string bytes) => bytes.length + 1
  | .lit _ => 1
  | .nil => 1
  | .ptr d => uptoBulk d + 1
  | .slice elems spare => uptoBulkAll elems + uptoBulkAll spare + 1
  | .agg parts => uptoBulkAll parts + 1
  | .iface _ d => uptoBulk d + 1
  | .map entries => uptoBulkEntries entries + 1
  | .held _ => 1
def uptoBulkAll {H : Type} : List (DataW H) → Nat
  | [] => 0
  | d :: r => uptoBulk d + uptoBulkAll r
def uptoBulkEntries {H : Type} : List (Lit × DataW H) → Nat
  | [] => 0
  | x :: r => uptoBulkEntry x + uptoBulkEntries r
def uptoBulkEntry {H : Type} : Lit × DataW H → Nat
  | (.string bytes, d) => bytes.length + uptoBulk d + 1
  | (_, d) => uptoBulk d + 1
 end
def uptoSmall : (H : Type) → List (DataW H) → Bool := fun _ ds => decide (uptoBulkAll ds ≤ 1048576)
def OpenSpec.upto (s : _root_.Go.ChangeSpec) : _root_.Go.OpenSpec := { _root_.Go.OpenSpec.ofChange s with cond := some uptoSmall }

/-- 'tokenhalllaw.GrowTells', WHERE WHAT IT READS IS OF BULK AT MOST 1048576: true; the input reads as it did. -/
def growTellsUptoRow : OpenClaim := { program := "ytfgimobmaahmmaa", sum := "b414d7e7cd81d29b05ee92bc084dda5125be3d452af2b30e88d2ac16ac8c0fc1", func := "tokenhall/tokenhalllaw.GrowTells", spec := "growTells", unfollowed := true, recurses := true, loops := true, plainKeys := false, apart := false, narrowed := true }
def GrowTellsUptoSaid : Prop := growTellsUptoRow.holds Try.pinned (OpenSpec.upto growTellsSpec)

/-- 'tokenhallkeep.GrowSound', WHERE WHAT IT READS IS OF BULK AT MOST 1048576: true; the input reads as it did. -/
def growSoundUptoRow : OpenClaim := { program := "ytfgimobmaahmmaa", sum := "b414d7e7cd81d29b05ee92bc084dda5125be3d452af2b30e88d2ac16ac8c0fc1", func := "tokenhall/tokenhallkeep.GrowSound", spec := "growSound", unfollowed := true, recurses := true, loops := true, plainKeys := false, apart := false, narrowed := true }
def GrowSoundUptoSaid : Prop := growSoundUptoRow.holds Try.pinned (OpenSpec.upto growSoundSpec)

/-- 'tokenhallkeep.GrowSafe', WHERE WHAT IT READS IS OF BULK AT MOST 1048576: true; the input reads as it did. -/
def growSafeUptoRow : OpenClaim := { program := "ytfgimobmaahmmaa", sum := "b414d7e7cd81d29b05ee92bc084dda5125be3d452af2b30e88d2ac16ac8c0fc1", func := "tokenhall/tokenhallkeep.GrowSafe", spec := "growSafe", unfollowed := true, recurses := true, loops := true, plainKeys := false, apart := false, narrowed := true }
def GrowSafeUptoSaid : Prop := growSafeUptoRow.holds Try.pinned (OpenSpec.upto growSafeSpec)

/-- 'tokenhallkeep.GrowFree', WHERE WHAT IT READS IS OF BULK AT MOST 1048576: true; the input reads as it did. -/
def growFreeUptoRow : OpenClaim := { program := "ytfgimobmaahmmaa", sum := "b414d7e7cd81d29b05ee92bc084dda5125be3d452af2b30e88d2ac16ac8c0fc1", func := "tokenhall/tokenhallkeep.GrowFree", spec := "growFree", unfollowed := true, recurses := true, loops := true, plainKeys := false, apart := false, narrowed := true }
def GrowFreeUptoSaid : Prop := growFreeUptoRow.holds Try.pinned (OpenSpec.upto growFreeSpec)

end Rows
end Go.Proofs.Ytfgimobmaahmmaa

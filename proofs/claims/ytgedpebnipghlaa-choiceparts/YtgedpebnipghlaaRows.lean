/-
  NARROWER THAN 'FOR EVERY INPUT', by the rows' own cells (each row's printed sentence says how): ChoiceBlocks: loops.
  DERIVED. THE GIVEN ROWS OF THIS SEAT. 5 by the template 'for every input the law returns true; each argument reads behind the call as it read before'; 0 by the template 'total and deterministic' (their statements: YtgedpebnipghlaaTotals.lean).
  GIVEN WITH THE SEED: the statements are not yours to turn. If you find one false, say at which input.
  Laid BY PROGRAM, IN A SANDBOX (cutbox-rows.mjs): the forced cells as the released guide's own fill.sh prints them over the translation eb661b0faabb62c8… (all of the seat's roots in one cut). By AI agents, Wed Nov 11 2026. No macro, syntax, notation, axiom, sorry.
-/
import Derived.Test.YtgedpebnipghlaaChecked
import GoSem.Claim
import GoSem.ClaimJoined
import GoSem.ClaimMapViews
import Derived.JoinedTies
import Derived.KernelRfl
namespace Go.Proofs.Ytgedpebnipghlaa
/- THE CELL 'sum', in the pinned program and in every row, IS THE sha256 OF THE DUMP (.gsa) THAT YtgedpebnipghlaaProg.lean LOADS. Nothing in Lean hashes anything: it is a label: what it is worth is what the hold of that sum in a sandbox is worth. -/
noncomputable def Try.pinned : Pinned := { name := "ytgedpebnipghlaa", sum := "eb661b0faabb62c8fe2a663e0bc328cbf8b87f0ece0ab93ffa4105075e67f36e", checked := Try.checked }
namespace Rows
def none {H : Type} : Left H := { results := [], args := [] }

/-- 'tokenhalllaw.ChoiceTells': WHATEVER THE INPUT: true; the input reads as it did. -/
def choiceTellsSpec : ChangeSpec := { name := "choiceTells", fn := fun _ => fun
  | [d] => { results := [.lit (.bool true)], args := [d] }
  | _ => none }
def choiceTellsRow : OpenClaim := { program := "ytgedpebnipghlaa", sum := "eb661b0faabb62c8fe2a663e0bc328cbf8b87f0ece0ab93ffa4105075e67f36e", func := "tokenhall/tokenhalllaw.ChoiceTells", spec := "choiceTells", unfollowed := true, recurses := true, apart := false }
def ChoiceTellsSaid : Prop := choiceTellsRow.holds Try.pinned (OpenSpec.ofChange choiceTellsSpec)

/-- ITS FALSE NEIGHBOUR: 'it returns false'. Refute it at one input. -/
def choiceTellsWrong : ChangeSpec := { name := "choiceTells", fn := fun _ => fun
  | [d] => { results := [.lit (.bool false)], args := [d] }
  | _ => none }
def ChoiceTellsWrongFalsely : Prop := choiceTellsRow.holds Try.pinned (OpenSpec.ofChange choiceTellsWrong)

/-- 'tokenhallkeep.ChoiceSame': WHATEVER THE INPUT: true; the input reads as it did. -/
def choiceSameSpec : ChangeSpec := { name := "choiceSame", fn := fun _ => fun
  | [d1, d2] => { results := [.lit (.bool true)], args := [d1, d2] }
  | _ => none }
def choiceSameRow : OpenClaim := { program := "ytgedpebnipghlaa", sum := "eb661b0faabb62c8fe2a663e0bc328cbf8b87f0ece0ab93ffa4105075e67f36e", func := "tokenhall/tokenhallkeep.ChoiceSame", spec := "choiceSame", unfollowed := true, recurses := true, apart := false }
def ChoiceSameSaid : Prop := choiceSameRow.holds Try.pinned (OpenSpec.ofChange choiceSameSpec)

/-- ITS FALSE NEIGHBOUR: 'it returns false'. Refute it at one input. -/
def choiceSameWrong : ChangeSpec := { name := "choiceSame", fn := fun _ => fun
  | [d1, d2] => { results := [.lit (.bool false)], args := [d1, d2] }
  | _ => none }
def ChoiceSameWrongFalsely : Prop := choiceSameRow.holds Try.pinned (OpenSpec.ofChange choiceSameWrong)

/-- 'tokenhallkeep.ChoiceApart': WHATEVER THE INPUT: true; the input reads as it did. -/
def choiceApartSpec : ChangeSpec := { name := "choiceApart", fn := fun _ => fun
  | [d1, d2, d3] => { results := [.lit (.bool true)], args := [d1, d2, d3] }
  | _ => none }
def choiceApartRow : OpenClaim := { program := "ytgedpebnipghlaa", sum := "eb661b0faabb62c8fe2a663e0bc328cbf8b87f0ece0ab93ffa4105075e67f36e", func := "tokenhall/tokenhallkeep.ChoiceApart", spec := "choiceApart", unfollowed := true, recurses := true, apart := false }
def ChoiceApartSaid : Prop := choiceApartRow.holds Try.pinned (OpenSpec.ofChange choiceApartSpec)

/-- ITS FALSE NEIGHBOUR: 'it returns false'. Refute it at one input. -/
def choiceApartWrong : ChangeSpec := { name := "choiceApart", fn := fun _ => fun
  | [d1, d2, d3] => { results := [.lit (.bool false)], args := [d1, d2, d3] }
  | _ => none }
def ChoiceApartWrongFalsely : Prop := choiceApartRow.holds Try.pinned (OpenSpec.ofChange choiceApartWrong)

/-- 'tokenhallkeep.ChoiceParts': WHATEVER THE INPUT: true; the input reads as it did. -/
def choicePartsSpec : ChangeSpec := { name := "choiceParts", fn := fun _ => fun
  | [d1, d2, d3] => { results := [.lit (.bool true)], args := [d1, d2, d3] }
  | _ => none }
def choicePartsRow : OpenClaim := { program := "ytgedpebnipghlaa", sum := "eb661b0faabb62c8fe2a663e0bc328cbf8b87f0ece0ab93ffa4105075e67f36e", func := "tokenhall/tokenhallkeep.ChoiceParts", spec := "choiceParts", unfollowed := true, recurses := true, apart := false }
def ChoicePartsSaid : Prop := choicePartsRow.holds Try.pinned (OpenSpec.ofChange choicePartsSpec)

/-- ITS FALSE NEIGHBOUR: 'it returns false'. Refute it at one input. -/
def choicePartsWrong : ChangeSpec := { name := "choiceParts", fn := fun _ => fun
  | [d1, d2, d3] => { results := [.lit (.bool false)], args := [d1, d2, d3] }
  | _ => none }
def ChoicePartsWrongFalsely : Prop := choicePartsRow.holds Try.pinned (OpenSpec.ofChange choicePartsWrong)

/-- 'tokenhallkeep.ChoiceBlocks': WHATEVER THE INPUT: true; the input reads as it did. -/
def choiceBlocksSpec : ChangeSpec := { name := "choiceBlocks", fn := fun _ => fun
  | [d] => { results := [.lit (.bool true)], args := [d] }
  | _ => none }
def choiceBlocksRow : OpenClaim := { program := "ytgedpebnipghlaa", sum := "eb661b0faabb62c8fe2a663e0bc328cbf8b87f0ece0ab93ffa4105075e67f36e", func := "tokenhall/tokenhallkeep.ChoiceBlocks", spec := "choiceBlocks", unfollowed := true, recurses := true, loops := true, apart := false }
def ChoiceBlocksSaid : Prop := choiceBlocksRow.holds Try.pinned (OpenSpec.ofChange choiceBlocksSpec)

/-- ITS FALSE NEIGHBOUR: 'it returns false'. Refute it at one input. -/
def choiceBlocksWrong : ChangeSpec := { name := "choiceBlocks", fn := fun _ => fun
  | [d] => { results := [.lit (.bool false)], args := [d] }
  | _ => none }
def ChoiceBlocksWrongFalsely : Prop := choiceBlocksRow.holds Try.pinned (OpenSpec.ofChange choiceBlocksWrong)

/- THE SECOND FORM. 'bulk': how many values and letters a reading holds, each counted each time it is reached (what is shared counts as often as it is met; a slice's spare places count too). A statement '..UptoSaid' is the law's where the arguments, and the package variables that the reading takes, are together of bulk at most 1048576: NARROWER than '..Said'. Prove '..Said' where nothing that the law and all that it calls make is longer than what came in: it says more and counts as full. Else prove '..UptoSaid'. A law counts once. -/
mutual
def uptoBulk {H : Type} : DataW H → Nat
  | .lit (.string bytes) => bytes.length + 1
  | .lit _ => 1
  | .nil => 1
  | .ptr d => uptoBulk d + 1
  | .slice elems spare => uptoBulkAll elems + uptoBulkAll spare + 1
  | .agg parts => uptoBulkAll parts + 1
  | .iface _ d => uptoBulk d + 1
  | .map entries => uptoBulkEntries entries + 1
  | .held _ => 1
def uptoBulkAll {H : Type} : List (DataW H) → Nat
  | [] => 0
  | d :: r => uptoBulk d + uptoBulkAll r
def uptoBulkEntries {H : Type} : List (Lit × DataW H) → Nat
  | [] => 0
  | x :: r => uptoBulkEntry x + uptoBulkEntries r
def uptoBulkEntry {H : Type} : Lit × DataW H → Nat
  | (.string bytes, d) => bytes.length + uptoBulk d + 1
  | (_, d) => uptoBulk d + 1
 end
def uptoSmall : (H : Type) → List (DataW H) → Bool := fun _ ds => decide (uptoBulkAll ds ≤ 1048576)
def OpenSpec.upto (s : _root_.Go.ChangeSpec) : _root_.Go.OpenSpec := { _root_.Go.OpenSpec.ofChange s with cond := some uptoSmall }

/-- 'tokenhalllaw.ChoiceTells', WHERE WHAT IT READS IS OF BULK AT MOST 1048576: true; the input reads as it did. -/
def choiceTellsUptoRow : OpenClaim := { program := "ytgedpebnipghlaa", sum := "eb661b0faabb62c8fe2a663e0bc328cbf8b87f0ece0ab93ffa4105075e67f36e", func := "tokenhall/tokenhalllaw.ChoiceTells", spec := "choiceTells", unfollowed := true, recurses := true, apart := false, narrowed := true }
def ChoiceTellsUptoSaid : Prop := choiceTellsUptoRow.holds Try.pinned (OpenSpec.upto choiceTellsSpec)

/-- 'tokenhallkeep.ChoiceSame', WHERE WHAT IT READS IS OF BULK AT MOST 1048576: true; the input reads as it did. -/
def choiceSameUptoRow : OpenClaim := { program := "ytgedpebnipghlaa", sum := "eb661b0faabb62c8fe2a663e0bc328cbf8b87f0ece0ab93ffa4105075e67f36e", func := "tokenhall/tokenhallkeep.ChoiceSame", spec := "choiceSame", unfollowed := true, recurses := true, apart := false, narrowed := true }
def ChoiceSameUptoSaid : Prop := choiceSameUptoRow.holds Try.pinned (OpenSpec.upto choiceSameSpec)

/-- 'tokenhallkeep.ChoiceApart', WHERE WHAT IT READS IS OF BULK AT MOST 1048576: true; the input reads as it did. -/
def choiceApartUptoRow : OpenClaim := { program := "ytgedpebnipghlaa", sum := "eb661b0faabb62c8fe2a663e0bc328cbf8b87f0ece0ab93ffa4105075e67f36e", func := "tokenhall/tokenhallkeep.ChoiceApart", spec := "choiceApart", unfollowed := true, recurses := true, apart := false, narrowed := true }
def ChoiceApartUptoSaid : Prop := choiceApartUptoRow.holds Try.pinned (OpenSpec.upto choiceApartSpec)

/-- 'tokenhallkeep.ChoiceParts', WHERE WHAT IT READS IS OF BULK AT MOST 1048576: true; the input reads as it did. -/
def choicePartsUptoRow : OpenClaim := { program := "ytgedpebnipghlaa", sum := "eb661b0faabb62c8fe2a663e0bc328cbf8b87f0ece0ab93ffa4105075e67f36e", func := "tokenhall/tokenhallkeep.ChoiceParts", spec := "choiceParts", unfollowed := true, recurses := true, apart := false, narrowed := true }
def ChoicePartsUptoSaid : Prop := choicePartsUptoRow.holds Try.pinned (OpenSpec.upto choicePartsSpec)

/-- 'tokenhallkeep.ChoiceBlocks', WHERE WHAT IT READS IS OF BULK AT MOST 1048576: true; the input reads as it did. -/
def choiceBlocksUptoRow : OpenClaim := { program := "ytgedpebnipghlaa", sum := "eb661b0faabb62c8fe2a663e0bc328cbf8b87f0ece0ab93ffa4105075e67f36e", func := "tokenhall/tokenhallkeep.ChoiceBlocks", spec := "choiceBlocks", unfollowed := true, recurses := true, loops := true, apart := false, narrowed := true }
def ChoiceBlocksUptoSaid : Prop := choiceBlocksUptoRow.holds Try.pinned (OpenSpec.upto choiceBlocksSpec)

end Rows
end Go.Proofs.Ytgedpebnipghlaa

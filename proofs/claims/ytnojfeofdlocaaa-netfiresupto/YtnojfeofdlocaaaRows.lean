/-
  No cell of these rows narrows 'for every input' (looked for: loops, veiled, ifaces, maps, wideKeys, modest, calm, conditions, laid).
  DERIVED. THE GIVEN ROWS OF THIS SEAT. 6 by the template 'for every input the law returns true; each argument reads behind the call as it read before'; 0 by the template 'total and deterministic' (their statements: YtnojfeofdlocaaaTotals.lean).
  GIVEN WITH THE SEED: the statements are not yours to turn. If you find one false, say at which input.
  Laid BY PROGRAM, IN A SANDBOX (cutbox-rows.mjs): the forced cells as the released guide's own fill.sh prints them over the translation 81d1ab49f50bb510… (all of the seat's roots in one cut). By AI agents, Wed Nov 11 2026. No macro, syntax, notation, axiom, sorry.
-/
import Derived.Test.YtnojfeofdlocaaaChecked
import GoSem.Claim
import GoSem.ClaimJoined
import GoSem.ClaimMapViews
import Derived.JoinedTies
import Derived.KernelRfl
namespace Go.Proofs.Ytnojfeofdlocaaa
/- THE CELL 'sum', in the pinned program and in every row, IS THE sha256 OF THE DUMP (.gsa) THAT YtnojfeofdlocaaaProg.lean LOADS. Nothing in Lean hashes anything: it is a label: what it is worth is what the hold of that sum in a sandbox is worth. -/
noncomputable def Try.pinned : Pinned := { name := "ytnojfeofdlocaaa", sum := "81d1ab49f50bb510394afcd96d77904f4485b8a777e16a55fcea09447b444066", checked := Try.checked }
namespace Rows
def none {H : Type} : Left H := { results := [], args := [] }

/-- 'tokenhalllaw.NetFires': WHATEVER THE INPUT: true; the input reads as it did. -/
def netFiresSpec : ChangeSpec := { name := "netFires", fn := fun _ => fun
  | [d1, d2, d3] => { results := [.lit (.bool true)], args := [d1, d2, d3] }
  | _ => none }
def netFiresRow : OpenClaim := { program := "ytnojfeofdlocaaa", sum := "81d1ab49f50bb510394afcd96d77904f4485b8a777e16a55fcea09447b444066", func := "tokenhall/tokenhalllaw.NetFires", spec := "netFires", unfollowed := true, recurses := true, apart := false }
def NetFiresSaid : Prop := netFiresRow.holds Try.pinned (OpenSpec.ofChange netFiresSpec)

/-- ITS FALSE NEIGHBOUR: 'it returns false'. Refute it at one input. -/
def netFiresWrong : ChangeSpec := { name := "netFires", fn := fun _ => fun
  | [d1, d2, d3] => { results := [.lit (.bool false)], args := [d1, d2, d3] }
  | _ => none }
def NetFiresWrongFalsely : Prop := netFiresRow.holds Try.pinned (OpenSpec.ofChange netFiresWrong)

/-- 'tokenhalllaw.NetRuns': WHATEVER THE INPUT: true; the input reads as it did. -/
def netRunsSpec : ChangeSpec := { name := "netRuns", fn := fun _ => fun
  | [d1, d2, d3] => { results := [.lit (.bool true)], args := [d1, d2, d3] }
  | _ => none }
def netRunsRow : OpenClaim := { program := "ytnojfeofdlocaaa", sum := "81d1ab49f50bb510394afcd96d77904f4485b8a777e16a55fcea09447b444066", func := "tokenhall/tokenhalllaw.NetRuns", spec := "netRuns", unfollowed := true, recurses := true, apart := false }
def NetRunsSaid : Prop := netRunsRow.holds Try.pinned (OpenSpec.ofChange netRunsSpec)

/-- ITS FALSE NEIGHBOUR: 'it returns false'. Refute it at one input. -/
def netRunsWrong : ChangeSpec := { name := "netRuns", fn := fun _ => fun
  | [d1, d2, d3] => { results := [.lit (.bool false)], args := [d1, d2, d3] }
  | _ => none }
def NetRunsWrongFalsely : Prop := netRunsRow.holds Try.pinned (OpenSpec.ofChange netRunsWrong)

/-- 'tokenhallkeep.NetMore': WHATEVER THE INPUT: true; the input reads as it did. -/
def netMoreSpec : ChangeSpec := { name := "netMore", fn := fun _ => fun
  | [d1, d2, d3, d4] => { results := [.lit (.bool true)], args := [d1, d2, d3, d4] }
  | _ => none }
def netMoreRow : OpenClaim := { program := "ytnojfeofdlocaaa", sum := "81d1ab49f50bb510394afcd96d77904f4485b8a777e16a55fcea09447b444066", func := "tokenhall/tokenhallkeep.NetMore", spec := "netMore", unfollowed := true, recurses := true, apart := false }
def NetMoreSaid : Prop := netMoreRow.holds Try.pinned (OpenSpec.ofChange netMoreSpec)

/-- ITS FALSE NEIGHBOUR: 'it returns false'. Refute it at one input. -/
def netMoreWrong : ChangeSpec := { name := "netMore", fn := fun _ => fun
  | [d1, d2, d3, d4] => { results := [.lit (.bool false)], args := [d1, d2, d3, d4] }
  | _ => none }
def NetMoreWrongFalsely : Prop := netMoreRow.holds Try.pinned (OpenSpec.ofChange netMoreWrong)

/-- 'tokenhallkeep.NetSwap': WHATEVER THE INPUT: true; the input reads as it did. -/
def netSwapSpec : ChangeSpec := { name := "netSwap", fn := fun _ => fun
  | [d1, d2, d3, d4] => { results := [.lit (.bool true)], args := [d1, d2, d3, d4] }
  | _ => none }
def netSwapRow : OpenClaim := { program := "ytnojfeofdlocaaa", sum := "81d1ab49f50bb510394afcd96d77904f4485b8a777e16a55fcea09447b444066", func := "tokenhall/tokenhallkeep.NetSwap", spec := "netSwap", unfollowed := true, recurses := true, apart := false }
def NetSwapSaid : Prop := netSwapRow.holds Try.pinned (OpenSpec.ofChange netSwapSpec)

/-- ITS FALSE NEIGHBOUR: 'it returns false'. Refute it at one input. -/
def netSwapWrong : ChangeSpec := { name := "netSwap", fn := fun _ => fun
  | [d1, d2, d3, d4] => { results := [.lit (.bool false)], args := [d1, d2, d3, d4] }
  | _ => none }
def NetSwapWrongFalsely : Prop := netSwapRow.holds Try.pinned (OpenSpec.ofChange netSwapWrong)

/-- 'tokenhallkeep.NetBack': WHATEVER THE INPUT: true; the input reads as it did. -/
def netBackSpec : ChangeSpec := { name := "netBack", fn := fun _ => fun
  | [d1, d2, d3] => { results := [.lit (.bool true)], args := [d1, d2, d3] }
  | _ => none }
def netBackRow : OpenClaim := { program := "ytnojfeofdlocaaa", sum := "81d1ab49f50bb510394afcd96d77904f4485b8a777e16a55fcea09447b444066", func := "tokenhall/tokenhallkeep.NetBack", spec := "netBack", unfollowed := true, recurses := true, apart := false }
def NetBackSaid : Prop := netBackRow.holds Try.pinned (OpenSpec.ofChange netBackSpec)

/-- ITS FALSE NEIGHBOUR: 'it returns false'. Refute it at one input. -/
def netBackWrong : ChangeSpec := { name := "netBack", fn := fun _ => fun
  | [d1, d2, d3] => { results := [.lit (.bool false)], args := [d1, d2, d3] }
  | _ => none }
def NetBackWrongFalsely : Prop := netBackRow.holds Try.pinned (OpenSpec.ofChange netBackWrong)

/-- 'tokenhallkeep.NetParts': WHATEVER THE INPUT: true; the input reads as it did. -/
def netPartsSpec : ChangeSpec := { name := "netParts", fn := fun _ => fun
  | [d1, d2, d3, d4, d5] => { results := [.lit (.bool true)], args := [d1, d2, d3, d4, d5] }
  | _ => none }
def netPartsRow : OpenClaim := { program := "ytnojfeofdlocaaa", sum := "81d1ab49f50bb510394afcd96d77904f4485b8a777e16a55fcea09447b444066", func := "tokenhall/tokenhallkeep.NetParts", spec := "netParts", unfollowed := true, recurses := true, apart := false }
def NetPartsSaid : Prop := netPartsRow.holds Try.pinned (OpenSpec.ofChange netPartsSpec)

/-- ITS FALSE NEIGHBOUR: 'it returns false'. Refute it at one input. -/
def netPartsWrong : ChangeSpec := { name := "netParts", fn := fun _ => fun
  | [d1, d2, d3, d4, d5] => { results := [.lit (.bool false)], args := [d1, d2, d3, d4, d5] }
  | _ => none }
def NetPartsWrongFalsely : Prop := netPartsRow.holds Try.pinned (OpenSpec.ofChange netPartsWrong)

/- THE SECOND FORM. 'bulk': how many values and letters a reading holds, each counted each time it is reached (what is shared counts as often as it is met; a slice's spare places count too). A statement '..UptoSaid' is the law's where the arguments, and the package variables that the reading takes, are together of bulk at most 1048576: NARROWER than '..Said'. Prove '..Said' where nothing that the law and all that it calls make is longer than what came in: it says more and counts as full. Else prove '..UptoSaid'. A law counts once. -/
mutual
def uptoBulk {H : Type} : DataW H → Nat
  | .lit (.string bytes) => bytes.length + 1
  | .lit _ => 1
  | .nil => 1
  | .ptr d => uptoBulk d + 1
  | .slice elems spare => uptoBulkAll elems + uptoBulkAll spare + 1
  | .agg parts => uptoBulkAll parts + 1
  | .iface _ d => uptoBulk d + 1
  | .map entries => uptoBulkEntries entries + 1
  | .held _ => 1
def uptoBulkAll {H : Type} : List (DataW H) → Nat
  | [] => 0
  | d :: r => uptoBulk d + uptoBulkAll r
def uptoBulkEntries {H : Type} : List (Lit × DataW H) → Nat
  | [] => 0
  | x :: r => uptoBulkEntry x + uptoBulkEntries r
def uptoBulkEntry {H : Type} : Lit × DataW H → Nat
  | (.string bytes, d) => bytes.length + uptoBulk d + 1
  | (_, d) => uptoBulk d + 1
 end
def uptoSmall : (H : Type) → List (DataW H) → Bool := fun _ ds => decide (uptoBulkAll ds ≤ 1048576)
def OpenSpec.upto (s : _root_.Go.ChangeSpec) : _root_.Go.OpenSpec := { _root_.Go.OpenSpec.ofChange s with cond := some uptoSmall }

/-- 'tokenhalllaw.NetFires', WHERE WHAT IT READS IS OF BULK AT MOST 1048576: true; the input reads as it did. -/
def netFiresUptoRow : OpenClaim := { program := "ytnojfeofdlocaaa", sum := "81d1ab49f50bb510394afcd96d77904f4485b8a777e16a55fcea09447b444066", func := "tokenhall/tokenhalllaw.NetFires", spec := "netFires", unfollowed := true, recurses := true, apart := false, narrowed := true }
def NetFiresUptoSaid : Prop := netFiresUptoRow.holds Try.pinned (OpenSpec.upto netFiresSpec)

/-- 'tokenhalllaw.NetRuns', WHERE WHAT IT READS IS OF BULK AT MOST 1048576: true; the input reads as it did. -/
def netRunsUptoRow : OpenClaim := { program := "ytnojfeofdlocaaa", sum := "81d1ab49f50bb510394afcd96d77904f4485b8a777e16a55fcea09447b444066", func := "tokenhall/tokenhalllaw.NetRuns", spec := "netRuns", unfollowed := true, recurses := true, apart := false, narrowed := true }
def NetRunsUptoSaid : Prop := netRunsUptoRow.holds Try.pinned (OpenSpec.upto netRunsSpec)

/-- 'tokenhallkeep.NetMore', WHERE WHAT IT READS IS OF BULK AT MOST 1048576: true; the input reads as it did. -/
def netMoreUptoRow : OpenClaim := { program := "ytnojfeofdlocaaa", sum := "81d1ab49f50bb510394afcd96d77904f4485b8a777e16a55fcea09447b444066", func := "tokenhall/tokenhallkeep.NetMore", spec := "netMore", unfollowed := true, recurses := true, apart := false, narrowed := true }
def NetMoreUptoSaid : Prop := netMoreUptoRow.holds Try.pinned (OpenSpec.upto netMoreSpec)

/-- 'tokenhallkeep.NetSwap', WHERE WHAT IT READS IS OF BULK AT MOST 1048576: true; the input reads as it did. -/
def netSwapUptoRow : OpenClaim := { program := "ytnojfeofdlocaaa", sum := "81d1ab49f50bb510394afcd96d77904f4485b8a777e16a55fcea09447b444066", func := "tokenhall/tokenhallkeep.NetSwap", spec := "netSwap", unfollowed := true, recurses := true, apart := false, narrowed := true }
def NetSwapUptoSaid : Prop := netSwapUptoRow.holds Try.pinned (OpenSpec.upto netSwapSpec)

/-- 'tokenhallkeep.NetBack', WHERE WHAT IT READS IS OF BULK AT MOST 1048576: true; the input reads as it did. -/
def netBackUptoRow : OpenClaim := { program := "ytnojfeofdlocaaa", sum := "81d1ab49f50bb510394afcd96d77904f4485b8a777e16a55fcea09447b444066", func := "tokenhall/tokenhallkeep.NetBack", spec := "netBack", unfollowed := true, recurses := true, apart := false, narrowed := true }
def NetBackUptoSaid : Prop := netBackUptoRow.holds Try.pinned (OpenSpec.upto netBackSpec)

/-- 'tokenhallkeep.NetParts', WHERE WHAT IT READS IS OF BULK AT MOST 1048576: true; the input reads as it did. -/
def netPartsUptoRow : OpenClaim := { program := "ytnojfeofdlocaaa", sum := "81d1ab49f50bb510394afcd96d77904f4485b8a777e16a55fcea09447b444066", func := "tokenhall/tokenhallkeep.NetParts", spec := "netParts", unfollowed := true, recurses := true, apart := false, narrowed := true }
def NetPartsUptoSaid : Prop := netPartsUptoRow.holds Try.pinned (OpenSpec.upto netPartsSpec)

end Rows
end Go.Proofs.Ytnojfeofdlocaaa

/- The library's variables lie as their texts lay them: what the row's list gives, and a world for the witness. -/
import Derived.Test.YtjfcfnaeinhmcaaDoorCards
import Derived.Test.YtjfcfnaeinhmcaaDoorTie
import Derived.Test.YtjfcfnaeinhmcaaDoorBenchStr
import Derived.OpenShut
import Derived.Deep.DeepHandedRow
import Derived.Deep.DeepLaidRun
import Derived.Lib.LaidTab
namespace Go.Proofs.YtjfcfnaeinhmcaaDoor
open Go.RowKit
set_option linter.unusedVariables false
set_option maxRecDepth 4000

theorem gMaxLen : Tryd.prog.globalNamed "internal/bytealg.MaxLen" = some 0 := by kernel_rfl
theorem gFirst : Tryd.prog.globalNamed "unicode/utf8.first" = some 1 := by kernel_rfl
theorem gRanges : Tryd.prog.globalNamed "unicode/utf8.acceptRanges" = some 2 := by kernel_rfl
theorem varM_of {W : World} (h : W.ShapedOpen Tryd.prog) : VarM W := by
  obtain ⟨m, hm⟩ := laysM145.s1_3 W h
  have hm : W.cell? ⟨0, 0, none⟩ = some (.int .i64 m) := hm
  refine ⟨?_, m, hm⟩
  apply Classical.byContradiction
  intro hn
  have e : W.heap[0]? = none := Array.getElem?_eq_none (by omega)
  simp [World.cell?, e] at hm

/-- The tables hold what their initialisers lay. -/
def flat1 : DataW Unit → List Value
  | .lit (.int k z) => [.int k z]
  | _ => []
def flat2 : DataW Unit → List Value
  | .agg l => l.flatMap fun d => match d with | .agg m => m.flatMap flat1 | d => flat1 d
  | d => flat1 d
def layCells (h : Array Obj) (g : Nat) (cs : List Value) : Array Obj := h.modify g fun o => match o with
  | .cells _ t fr => .cells cs.toArray t fr
  | o => o
def layTabs (h : Array Obj) : Array Obj := layCells (layCells h 1 (flat2 Rows.laid_unicode_utf8_first)) 2 (flat2 Rows.laid_unicode_utf8_acceptRanges)
def layWorld (w : World) : World := { w with heap := layTabs w.heap }

end Go.Proofs.YtjfcfnaeinhmcaaDoor

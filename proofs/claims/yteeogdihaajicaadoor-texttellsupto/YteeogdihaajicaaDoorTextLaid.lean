/- The library's variables lie as their texts lay them: what the rows' lists give, and a world for the witness. -/
import Derived.Test.YteeogdihaajicaaDoorCards
import Derived.Test.YteeogdihaajicaaDoorTie
import Derived.Test.YteeogdihaajicaaDoorStrBase
import Derived.Test.YteeogdihaajicaaDoorStrLay4
import Derived.OpenShut
import Derived.Deep.DeepHandedRow
import Derived.Deep.DeepLaidRun
import Derived.Lib.LaidTab
namespace Go.Proofs.YteeogdihaajicaaDoor
open Go.RowKit
set_option linter.unusedVariables false
set_option maxRecDepth 4000

theorem varM_of {W : World} (h : W.ShapedOpen Tryd.prog) : VarM W := by
  obtain ⟨m, hm⟩ := laysM145.s1_3 W h
  have hm : W.cell? ⟨0, 0, none⟩ = some (.int .i64 m) := hm
  refine ⟨?_, m, hm⟩
  apply Classical.byContradiction
  intro hn
  have e : W.heap[0]? = none := Array.getElem?_eq_none (by omega)
  simp [World.cell?, e] at hm

/-- The tables hold what their initialisers lay; the errors point to what was made for them. -/
def flat1 : DataW Unit → List Value
  | .lit (.int k z) => [.int k z]
  | _ => []
def flat2 : DataW Unit → List Value
  | .agg l => l.flatMap fun d => match d with | .agg m => m.flatMap flat1 | d => flat1 d
  | d => flat1 d
def layCells (h : Array Obj) (g : Nat) (cs : List Value) : Array Obj := h.modify g fun o => match o with
  | .cells _ t fr => .cells cs.toArray t fr
  | o => o
def layTabs (h : Array Obj) : Array Obj :=
  layCells (layCells (layCells (layCells (layCells h 1 (flat2 Rows.laid_internal_strconv_uint64pow10)) 4 (flat2 Rows.laid_unicode_utf8_first)) 5 (flat2 Rows.laid_unicode_utf8_acceptRanges)) 6 (flat2 Rows.laid_math_bits_deBruijn32tab)) 7 (flat2 Rows.laid_math_bits_deBruijn64tab)
def layErrs (h : Array Obj) : Array Obj :=
  (layCells (layCells h 2 [.iface 129 (.pointer (some ⟨h.size, 0, none⟩))]) 3 [.iface 129 (.pointer (some ⟨h.size + 1, 0, none⟩))]
    |>.push (.cells #[.string ⟨#[105, 110, 118, 97, 108, 105, 100, 32, 115, 121, 110, 116, 97, 120]⟩] 131 (0, 0))).push (.cells #[.string ⟨#[118, 97, 108, 117, 101, 32, 111, 117, 116, 32, 111, 102, 32, 114, 97, 110, 103, 101]⟩] 131 (0, 0))
def layWorld (w : World) : World := { w with heap := layErrs (layTabs w.heap) }

end Go.Proofs.YteeogdihaajicaaDoor

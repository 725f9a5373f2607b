/- The answers of the document itself for nets: which fit, who can. -/
import Derived.Test.YtjfcfnaeinhmcaaDoorNet1
import Derived.Test.YtjfcfnaeinhmcaaDoorMark4
namespace Go.Proofs.YtjfcfnaeinhmcaaDoor
open Go.RowKit
set_option linter.unusedVariables false
set_option maxRecDepth 4000

/-- A net, and a mark of it. -/
def fitsL (n : NetL) (m : List Int) : Bool := netOk n && ((m.length : Int) == n.places) && rightL m

theorem wrongL_ok {n : NetL} (h : netOk n = true) : wrongL n = 0 := by simp [wrongL, h]
theorem wrongL_not {n : NetL} (h : netOk n = false) : wrongL n = 2 := by simp [wrongL, h]

/-- Whose tokens are there, of the first k. -/
def canTo (n : NetL) (m : List Int) (k : Nat) : List Int := ((List.range k).filter fun t => coversL m (tranAt n.trans t).pre).map fun t => ((t : Nat) : Int)
theorem canTo_yes (n : NetL) (m : List Int) (k : Nat) (h : coversL m (tranAt n.trans k).pre = true) : canTo n m (k + 1) = canTo n m k ++ [(k : Int)] := by
  simp [canTo, List.range_succ, List.filter_append, h]
theorem canTo_no (n : NetL) (m : List Int) (k : Nat) (h : coversL m (tranAt n.trans k).pre = false) : canTo n m (k + 1) = canTo n m k := by
  simp [canTo, List.range_succ, List.filter_append, h]
theorem canTo_le (n : NetL) (m : List Int) (k : Nat) : (canTo n m k).length ≤ k := by
  simp only [canTo, List.length_map]
  exact Nat.le_trans (List.length_filter_le _ _) (by simp)

/-- Who can. -/
def canL (n : NetL) (m : List Int) : List Int × Int := if fitsL n m then (canTo n m n.trans.length, 0) else ([], 2)
theorem canL_yes {n : NetL} {m : List Int} (h : fitsL n m = true) : canL n m = (canTo n m n.trans.length, 0) := by simp [canL, h]
theorem canL_no {n : NetL} {m : List Int} (h : fitsL n m = false) : canL n m = ([], 2) := by simp [canL, h]

end Go.Proofs.YtjfcfnaeinhmcaaDoor

/- The answers of the document itself for nets. -/
import Derived.Test.YtjfcfnaeinhmcaaDoorNetBase
import Derived.Test.YtjfcfnaeinhmcaaDoorBoxes
import Derived.Test.YtjfcfnaeinhmcaaDoorSlices1
import Derived.Test.YtjfcfnaeinhmcaaDoorMark2
import Derived.Deep.DeepCutAuto
namespace Go.Proofs.YtjfcfnaeinhmcaaDoor
open Go.RowKit
set_option linter.unusedVariables false
set_option maxRecDepth 4000

def weightOk (x : Int) : Bool := decide (0 ≤ x) && decide (x ≤ 9)
def tranHead (p : Int) (t : TranL) : Bool := decide (0 ≤ t.label) && decide (t.label ≤ 26) && ((t.pre.length : Int) == p) && ((t.post.length : Int) == p)
def tranOk (p : Int) (t : TranL) : Bool := tranHead p t && (t.pre ++ t.post).all weightOk
def headOk (n : NetL) : Bool := decide (0 ≤ n.places) && decide (n.places ≤ 16) && decide (n.trans.length ≤ 24)
def okTo (n : NetL) (k : Nat) : Bool := headOk n && (n.trans.take k).all (tranOk n.places)
def netOk (n : NetL) : Bool := headOk n && n.trans.all (tranOk n.places)
def wrongL (n : NetL) : Int := if netOk n then 0 else 2

theorem okTo_succ (n : NetL) (k : Nat) (h : k < n.trans.length) : okTo n (k + 1) = (okTo n k && tranOk n.places (tranAt n.trans k)) := by
  unfold okTo
  rw [List.take_succ_eq_append_getElem h, List.all_append]
  simp [tranAt, List.getD, List.getElem?_eq_getElem h, Bool.and_assoc]
theorem okTo_all (n : NetL) (k : Nat) (h : n.trans.length ≤ k) : okTo n k = netOk n := by
  unfold okTo netOk; rw [List.take_of_length_le h]


/-- All of the first j are weights. -/
def weighTo (zs : List Int) (j : Nat) : Bool := (zs.take j).all weightOk
theorem weighTo_succ (zs : List Int) (j : Nat) (h : j < zs.length) : weighTo zs (j + 1) = (weighTo zs j && weightOk (nth zs j)) := by
  unfold weighTo
  rw [List.take_succ_eq_append_getElem h, List.all_append]
  simp [nth, List.getD, List.getElem?_eq_getElem h]
theorem weighTo_all (zs : List Int) (j : Nat) (h : zs.length ≤ j) : weighTo zs j = zs.all weightOk := by
  unfold weighTo; rw [List.take_of_length_le h]

end Go.Proofs.YtjfcfnaeinhmcaaDoor

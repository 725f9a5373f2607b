/- The answers of the document itself for nets: one fires. -/
import Derived.Test.YtjfcfnaeinhmcaaDoorNet2
import Derived.Deep.RegionHeld3
namespace Go.Proofs.YtjfcfnaeinhmcaaDoor
open Go.RowKit
set_option linter.unusedVariables false
set_option maxRecDepth 4000

def addL (xs ys : List Int) : List Int := zipL (fun x1 x2 => x1 + x2) xs ys
def subL (xs ys : List Int) : List Int := zipL (fun x1 x2 => x1 - x2) xs ys

/-- One fires. -/
def fireL (n : NetL) (m : List Int) (t : Int) : List Int × Int :=
  if fitsL n m then
    (if decide (0 ≤ t) && decide (t < n.trans.length) && coversL m (tranAt n.trans t.toNat).pre then
      (if rightL (addL (subL m (tranAt n.trans t.toNat).pre) (tranAt n.trans t.toNat).post) then (addL (subL m (tranAt n.trans t.toNat).pre) (tranAt n.trans t.toNat).post, 0) else ([], 4))
    else ([], 3))
  else ([], 2)

theorem fits_net {n : NetL} {m : List Int} (h : fitsL n m = true) : netOk n = true ∧ (m.length : Int) = n.places ∧ rightL m = true := by
  simp only [fitsL, Bool.and_eq_true, beq_iff_eq] at h
  exact ⟨h.1.1, h.1.2, h.2⟩
theorem net_tran {n : NetL} (h : netOk n = true) {k : Nat} (hk : k < n.trans.length) : tranOk n.places (tranAt n.trans k) = true := by
  simp only [netOk, Bool.and_eq_true] at h
  have := List.all_eq_true.1 h.2 _ (List.getElem_mem hk)
  simpa [tranAt, List.getD, List.getElem?_eq_getElem hk] using this
theorem weights_right {xs : List Int} (h : xs.all weightOk = true) : rightL xs = true := by
  rw [rightL_iff]
  intro j
  by_cases hj : j < xs.length
  · have := List.all_eq_true.1 h _ (List.getElem_mem hj)
    simp only [weightOk, Bool.and_eq_true, decide_eq_true_eq] at this
    simp only [nth, List.getD, List.getElem?_eq_getElem hj, Option.getD_some]
    omega
  · rw [nth_past xs j (by omega)]; omega
theorem tran_right {p : Int} {t : TranL} (h : tranOk p t = true) : rightL t.pre = true ∧ rightL t.post = true := by
  simp only [tranOk, Bool.and_eq_true, List.all_append] at h
  exact ⟨weights_right h.2.1, weights_right h.2.2⟩

end Go.Proofs.YtjfcfnaeinhmcaaDoor

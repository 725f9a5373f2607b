/- The answers of the document itself for nets: which fit, who can. -/
import Derived.Test.YteoofibhpifmlaaDoorNet1
import Derived.Test.YteoofibhpifmlaaDoorMarkAll
namespace Go.Proofs.YteoofibhpifmlaaDoor
open Go.RowKit
set_option linter.unusedVariables false
set_option maxRecDepth 4000

/-- A net, and a mark of it. -/
def fitsL (n : NetL) (m : List Int) : Bool := netOk n && ((m.length : Int) == n.places) && rightL m

theorem wrongL_ok {n : NetL} (h : netOk n = true) : wrongL n = 0 := by simp [wrongL, h]
theorem wrongL_not {n : NetL} (h : netOk n = false) : wrongL n = 2 := by simp [wrongL, h]

set_option maxHeartbeats 400000 in
theorem bfits_any (v u : Value) (n : NetL) (m : List Int) (w : World) (hv : Net w v n) (hu : Ints w u m) (hsm : SmallNet n) :
    Calls Tryd.prog 64 #[v, u] w fun e w' => e = .returned (.bool (fitsL n m)) ∧ Below w.heap.size w w' := by
  obtain ⟨tv, rfl, hT⟩ := hv
  have b1 := below_new w (.cells #[.int .i64 n.places, tv] 24)
  have hbx := box2_new w (.int .i64 n.places) tv 24
  have hu1 := hu.below b1
  have hv1 : Net _ _ n := ⟨tv, rfl, hT.below b1⟩
  go_enter Tryd.func64, Tryd.ntmps64
  go_wp2_with fail
  refine (bwrong_any _ n _ (by exact hv1) hsm).mono ?_
  rintro e w1 ⟨rfl, b2⟩
  have b3 := below_then b1 b2
  have hu2 := hu1.below b2
  obtain ⟨hx0, hx1, hx2⟩ := hbx.below b2
  clear b1 b2 hbx hu1 hv1
  have hu3 := hu2
  obtain ⟨a, len, cap, rfl, hlen, hmx, hsh, hr⟩ := hu2
  clear hr
  cases h1 : netOk n
  · rw [wrongL_not h1]
    have F : Hid (fitsL n m = false) := by show _ = _; simp [fitsL, h1]
    clear h1
    go_wp2
    go_ret
    exact ⟨ret_bool F.out.symm, b3⟩
  · rw [wrongL_ok h1]
    cases h2 : ((len : Int) == n.places)
    · have F : Hid (fitsL n m = false) := by show _ = _; unfold fitsL; rw [hlen, h2]; simp
      clear h1
      go_wp2
      go_ret
      exact ⟨ret_bool F.out.symm, b3⟩
    · have F : Hid (fitsL n m = rightL m) := by show _ = _; unfold fitsL; rw [h1, hlen, h2]; simp
      clear h1
      go_wp2_with fail
      refine (aright_any _ m _ hu3).mono ?_
      rintro e w' ⟨rfl, rfl⟩
      go_wp2
      go_ret
      exact ⟨ret_bool F.out.symm, b3⟩

/-- Whose tokens are there, of the first k. -/
def canTo (n : NetL) (m : List Int) (k : Nat) : List Int := ((List.range k).filter fun t => coversL m (tranAt n.trans t).pre).map fun t => ((t : Nat) : Int)
theorem canTo_yes (n : NetL) (m : List Int) (k : Nat) (h : coversL m (tranAt n.trans k).pre = true) : canTo n m (k + 1) = canTo n m k ++ [(k : Int)] := by
  simp [canTo, List.range_succ, List.filter_append, h]
theorem canTo_no (n : NetL) (m : List Int) (k : Nat) (h : coversL m (tranAt n.trans k).pre = false) : canTo n m (k + 1) = canTo n m k := by
  simp [canTo, List.range_succ, List.filter_append, h]
theorem canTo_le (n : NetL) (m : List Int) (k : Nat) : (canTo n m k).length ≤ k := by
  simp only [canTo, List.length_map]
  exact Nat.le_trans (List.length_filter_le _ _) (by simp)

/-- Who can. -/
def canL (n : NetL) (m : List Int) : List Int × Int := if fitsL n m then (canTo n m n.trans.length, 0) else ([], 2)
theorem canL_yes {n : NetL} {m : List Int} (h : fitsL n m = true) : canL n m = (canTo n m n.trans.length, 0) := by simp [canL, h]
theorem canL_no {n : NetL} {m : List Int} (h : fitsL n m = false) : canL n m = ([], 2) := by simp [canL, h]

end Go.Proofs.YteoofibhpifmlaaDoor

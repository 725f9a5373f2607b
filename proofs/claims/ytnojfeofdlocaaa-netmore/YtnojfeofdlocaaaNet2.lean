/- The answers of the document itself for nets: which fit, who can. -/
import Derived.Test.YtnojfeofdlocaaaNet1
import Derived.Test.YtnojfeofdlocaaaMark4
namespace Go.Proofs.Ytnojfeofdlocaaa
open Go.RowKit
set_option linter.unusedVariables false

/-- A net, and a mark of it. -/
def fitsL (n : NetL) (m : List Int) : Bool := netOk n && ((m.length : Int) == n.places) && rightL m

theorem wrongL_ok {n : NetL} (h : netOk n = true) : wrongL n = 0 := by simp [wrongL, h]
theorem wrongL_not {n : NetL} (h : netOk n = false) : wrongL n = 2 := by simp [wrongL, h]

set_option maxHeartbeats 400000 in
theorem bfits_any (v u : Value) (n : NetL) (m : List Int) (w : World) (hv : Net w v n) (hu : Ints w u m) (hsm : SmallNet n) :
    Calls Try.prog 32 #[v, u] w fun e w' => e = .returned (.bool (fitsL n m)) ∧ Below w.heap.size w w' := by
  obtain ⟨tv, rfl, hT⟩ := hv
  have b1 := below_new w (.cells #[.int .i64 n.places, tv] 24)
  have hbx := box2_new w (.int .i64 n.places) tv 24
  have hu1 := hu.below b1
  have hv1 : Net _ _ n := ⟨tv, rfl, hT.below b1⟩
  go_enter Try.func32, Try.ntmps32
  go_wp2_with fail
  refine (bwrong_any _ n _ (by exact hv1) hsm).mono ?_
  rintro e w1 ⟨rfl, b2⟩
  have b3 := below_then b1 b2
  have hu2 := hu1.below b2
  obtain ⟨hx0, hx1, hx2⟩ := hbx.below b2
  clear b1 b2 hbx hu1 hv1
  have hu3 := hu2
  obtain ⟨a, len, cap, rfl, hlen, hmx, hsh, hr⟩ := hu2
  clear hr
  cases h1 : netOk n
  · rw [wrongL_not h1]
    have F : Hid (fitsL n m = false) := by show _ = _; simp [fitsL, h1]
    clear h1
    go_wp2
    go_ret
    exact ⟨ret_bool F.out.symm, b3⟩
  · rw [wrongL_ok h1]
    cases h2 : ((len : Int) == n.places)
    · have F : Hid (fitsL n m = false) := by show _ = _; unfold fitsL; rw [hlen, h2]; simp
      clear h1
      go_wp2
      go_ret
      exact ⟨ret_bool F.out.symm, b3⟩
    · have F : Hid (fitsL n m = rightL m) := by show _ = _; unfold fitsL; rw [h1, hlen, h2]; simp
      clear h1
      go_wp2_with fail
      refine (aright_any _ m _ hu3).mono ?_
      rintro e w' ⟨rfl, rfl⟩
      go_wp2
      go_ret
      exact ⟨ret_bool F.out.symm, b3⟩

/-- Whose tokens are there, of the first k. -/
def canTo (n : NetL) (m : List Int) (k : Nat) : List Int := ((List.range k).filter fun t => coversL m (tranAt n.trans t).pre).map fun t => ((t : Nat) : Int)
theorem canTo_yes (n : NetL) (m : List Int) (k : Nat) (h : coversL m (tranAt n.trans k).pre = true) : canTo n m (k + 1) = canTo n m k ++ [(k : Int)] := by
  simp [canTo, List.range_succ, List.filter_append, h]
theorem canTo_no (n : NetL) (m : List Int) (k : Nat) (h : coversL m (tranAt n.trans k).pre = false) : canTo n m (k + 1) = canTo n m k := by
  simp [canTo, List.range_succ, List.filter_append, h]
theorem canTo_le (n : NetL) (m : List Int) (k : Nat) : (canTo n m k).length ≤ k := by
  simp only [canTo, List.length_map]
  exact Nat.le_trans (List.length_filter_le _ _) (by simp)

/-- Who can. -/
def canL (n : NetL) (m : List Int) : List Int × Int := if fitsL n m then (canTo n m n.trans.length, 0) else ([], 2)
theorem canL_yes {n : NetL} {m : List Int} (h : fitsL n m = true) : canL n m = (canTo n m n.trans.length, 0) := by simp [canL, h]
theorem canL_no {n : NetL} {m : List Int} (h : fitsL n m = false) : canL n m = ([], 2) := by simp [canL, h]

set_option maxHeartbeats 1000000 in
theorem benabled_any (v u : Value) (n : NetL) (m : List Int) (w : World) (hv : Net w v n) (hu : Ints w u m) (hsm : SmallNet n) :
    Calls Try.prog 10 #[v, u] w fun e w' => Gives w (canL n m) e w' := by
  obtain ⟨tv, rfl, hT⟩ := hv
  have b1 := below_new w (.cells #[.int .i64 n.places, tv] 24)
  have hbx := box2_new w (.int .i64 n.places) tv 24
  have hu1 := hu.below b1
  have hv1 : Net _ _ n := ⟨tv, rfl, hT.below b1⟩
  go_enter Try.func10, Try.ntmps10
  go_wp2_with fail
  refine (bfits_any _ _ n m _ (by exact hv1) (by exact hu1) hsm).mono ?_
  rintro e w1 ⟨rfl, b2⟩
  have b3 := below_then b1 b2
  have hu2 := hu1.below b2
  have hT2 := (hT.below b1).below b2
  have hbx2 := hbx.below b2
  clear b1 b2 hbx hu1 hv1 hT
  cases hf : fitsL n m
  · go_wp2
    go_ret2
    exact gives_of (canL_no hf) (Ints.nil _) b3
  · have HF : Hid _ := canL_yes hf
    clear hf
    obtain ⟨hx0, hx1, hx2⟩ := hbx2
    have hT3 := hT2
    obtain ⟨a, len, cap, rfl, hlen, hmx, hsh, hr⟩ := hT2
    clear hr
    go_wp2_with fail
    go_loopg [6, 16] len (fun g o i wr => ∃ k : Nat, k + g = len ∧ i = .int .i64 k ∧ Own w1.heap.size w1 wr o (canTo n m k))
    case atStart => exact ⟨0, by omega, rfl, Own.nil _⟩
    case round =>
      clear hx0 hx1 hx2
      obtain ⟨k, hkg, rfl, hG⟩ := hrel
      by_cases hkn : k < len
      · obtain ⟨b, off, c1, c2, rfl, hblt, h0, h1, h2, i1, i2⟩ := (hT3.below hG.2.1).at hkn
        have hle := canTo_le n m k
        have hu3 := hu2.below hG.2.1
        have Hy : Hid _ := canTo_yes n m k
        have Hn : Hid _ := canTo_no n m k
        have j1 := i1
        have j2 := i2
        obtain ⟨a1, l1, p1, rfl, _, _, _, _⟩ := j1
        obtain ⟨a2, l2, p2, rfl, _, _, _, _⟩ := j2
        have hbn := below_new wr (.cells #[.int .i64 (tranAt n.trans k).label, .slice a1 l1 p1, .slice a2 l2 p2] 43)
        generalize tranAt n.trans k = t at *
        have hG1 := hG.trans hbn
        go_wp2_with fail
        refine (acovers_b _ _ m t.pre _ (by exact hu3.below hbn) (by exact i1.below hbn)).mono ?_
        rintro e w2 ⟨rfl, hb2⟩
        have hG2 := hG1.trans hb2
        clear hG hG1 hbn hb2 h0 h1 h2 i1 i2 hu3
        cases hc : coversL m t.pre
        · have R := hG2
          rw [← Hn.out hc] at R
          clear hG2
          go_wp2
          go_roundg (gk - 1)
          case measure => omega
          case rel => exact ⟨k + 1, by omega, by go_num, R⟩
        · go_wp2_with (at_builtin; refine wp_append_int rfl _ _ rfl w1.heap.size w1 _ _ _ (k : Int) hG2 rfl rfl (by omega) ?_; intro v' w3 hG3)
          have R : Own w1.heap.size w1 w3 v' (canTo n m (k + 1)) := by rw [Hy.out hc]; exact hG3
          clear hG2 hG3
          go_wp2
          go_roundg (gk - 1)
          case measure => omega
          case rel => exact ⟨k + 1, by omega, by go_num, R⟩
      · have hk : k = n.trans.length := by omega
        have hle := canTo_le n m k
        have R := hG.ints (by omega)
        have R2 := below_then b3 hG.2.1
        have E : Hid (canL n m = (canTo n m k, 0)) := by rw [hk]; exact HF.out
        clear hG hk
        go_wp2
        go_ret2
        exact gives_of E.out R R2

end Go.Proofs.Ytnojfeofdlocaaa

/- The small trial of package cover that the laws make first: it answers true; and which mark covers another one. -/
import Derived.Test.YtbpkebkblkjdhaaCoverDev
import Derived.Test.YtbpkebkblkjdhaaSlices1
namespace Go.Proofs.Ytbpkebkblkjdhaa
open Go.RowKit
set_option linter.unusedVariables false

def net5 : NetL := ⟨2, [⟨0, [1, 0], [1, 1]⟩]⟩
def tree5 : List KnotL := [⟨-1, -1, [1, 0]⟩, ⟨0, 0, [1, -1]⟩, ⟨1, 0, [1, -1]⟩]
theorem net5_tree : treeL net5 [1, 0] 9 = (tree5, 0) := by rfl
theorem net5_limit1 : limitL net5 [1, 0] 1 9 = (-1, 0) := by rfl
theorem net5_limit0 : limitL net5 [1, 0] 0 9 = (1, 0) := by rfl

/-- At each place as many, or Many. -/
def covTo (u x : List Int) (k : Nat) : Bool := (x.length == u.length) && (List.range k).all fun p => (nth u p == -1) || !decide (nth u p < nth x p)
def covL (u x : List Int) : Bool := covTo u x x.length
theorem covTo_succ (u x : List Int) (k : Nat) : covTo u x (k + 1) = (covTo u x k && ((nth u k == -1) || !decide (nth u k < nth x k))) := by
  simp [covTo, List.range_succ, Bool.and_assoc]
theorem covL_iff (u x : List Int) : covL u x = true ↔ CovM u x := by
  unfold covL covTo CovM
  rw [Bool.and_eq_true, List.all_eq_true, beq_iff_eq]
  constructor
  · rintro ⟨h1, h2⟩
    refine ⟨h1.symm, fun p hp => ?_⟩
    have := h2 p (by simpa using hp)
    simp only [Bool.or_eq_true, beq_iff_eq, Bool.not_eq_true', decide_eq_false_iff_not] at this
    rcases this with q | q
    · exact .inl q
    · exact .inr (by omega)
  · rintro ⟨h1, h2⟩
    refine ⟨h1.symm, fun p hp => ?_⟩
    rw [Bool.or_eq_true, beq_iff_eq, Bool.not_eq_true', decide_eq_false_iff_not]
    rcases h2 p (by simpa using hp) with q | q
    · exact .inl q
    · exact .inr (by omega)
theorem covL_no {u x : List Int} {p : Nat} (hp : p < x.length) (h1 : nth u p ≠ -1) (h2 : nth u p < nth x p) : covL u x = false := by
  cases e : covL u x
  · rfl
  · rw [covL_iff] at e
    rcases e.2 p hp with q | q <;> omega

set_option maxHeartbeats 1000000 in
theorem covers_law (v u : Value) (xs ys : List Int) (w : World) (hv : Ints w v xs) (hu : Ints w u ys) :
    Calls Try.prog 17 #[v, u] w fun e w' => e = .returned (.bool (covL xs ys)) ∧ ∃ m, w' = w.drewN m := by
  obtain ⟨a, la, ca, rfl, hla, hma, hsa, hra⟩ := hv
  obtain ⟨b, lb, cb, rfl, hlb, hmb, hsb, hrb⟩ := hu
  cases hl : ((lb : Int) == (la : Int))
  · have hl' : ((lb : Int) != (la : Int)) = true := by rw [bne, hl]; rfl
    have F : Hid (covL xs ys = false) := by
      show _ = _
      have hne : lb ≠ la := by intro e; rw [e] at hl; simp at hl
      unfold covL covTo
      rw [hla, hlb, (by simpa using hne : (lb == la) = false)]; rfl
    clear hl
    go_enter Try.func17, Try.ntmps17
    go_wp2
    go_ret
    exact ⟨ret_bool F.out.symm, 0, rfl⟩
  · have hl' : ((lb : Int) != (la : Int)) = false := by rw [bne, hl]; rfl
    have hll : lb = la := by have := beq_iff_eq.1 hl; omega
    subst hll
    have H0 : Hid (covTo xs ys 0 = true) := by show _ = _; unfold covTo; rw [hla, hlb]; simp
    have Hst : Hid _ := covTo_succ xs ys
    have Hno : Hid (∀ p, p < lb → nth xs p ≠ -1 → nth xs p < nth ys p → covL xs ys = false) := fun p hp => covL_no (by omega)
    have HA : Hid (covTo xs ys lb = covL xs ys) := by show _ = _; rw [covL, hlb]
    clear hl hl'
    go_enter Try.func17, Try.ntmps17
    go_wp2_with fail
    go_loopw [13] (fun i wr => ∃ k : Nat, k ≤ lb ∧ i = .int .i64 k ∧ Hid (covTo xs ys k = true) ∧ ∃ m, wr = w.drewN m) (fun i _ => lb - (intOf i).toNat)
    case atStart => exact ⟨0, Nat.zero_le _, rfl, H0, 0, rfl⟩
    case round =>
      obtain ⟨k, hk, rfl, hB, m, rfl⟩ := hrel
      by_cases hkn : k < lb
      · obtain ⟨b1, o1, rfl, hb1, hc1⟩ := hra k (by omega)
        obtain ⟨b2, o2, rfl, hb2, hc2⟩ := hrb k (by omega)
        have hc1' : (w.drewN m).cell? ⟨b1, o1 + k, none⟩ = some (.int .i64 (nth xs k)) := by simpa using hc1
        have hc2' : (w.drewN m).cell? ⟨b2, o2 + k, none⟩ = some (.int .i64 (nth ys k)) := by simpa using hc2
        have Hs : Hid _ := Hst.out k
        have Hn : Hid _ := Hno.out k hkn
        clear hra hrb Hst Hno hc1 hc2
        obtain ⟨wd, Hwd⟩ : ∃ wd, Hid (w.drewN m = wd) := ⟨_, rfl⟩
        rw [Hwd.out] at hc1' hc2' ⊢
        by_cases q1 : nth xs k = -1
        · have e1 : (nth xs k != -1) = false := by simp [q1]
          have E : Hid (covTo xs ys (k + 1) = true) := by show _ = _; rw [Hs.out, hB.out, q1]; rfl
          clear q1 Hs Hn
          go_wp2_with fail
          go_quiet (fail)
          have Hd : Hid (wd.drewN nq = w.drewN (m + nq)) := by show _ = _; rw [← Hwd.out]; exact World.drewN_drewN _ _ _
          rw [Hd.out]
          clear hc1' hc2' Hwd
          go_wp2
          go_roundw
          case rel => exact ⟨k + 1, by omega, by go_num, E, _, rfl⟩
          case measure => simp [intOf]; omega
        · have e1 : (nth xs k != -1) = true := by simpa using q1
          by_cases q2 : nth xs k < nth ys k
          · have E : Hid _ := Hn.out q1 q2
            clear q1 Hs Hn
            go_wp2_with fail
            go_quiet (fail)
            have Hd : Hid (wd.drewN nq = w.drewN (m + nq)) := by show _ = _; rw [← Hwd.out]; exact World.drewN_drewN _ _ _
            rw [Hd.out]
            clear hc1' hc2' Hwd
            go_wp2
            go_ret
            exact ⟨ret_bool E.out.symm, _, rfl⟩
          · have E : Hid (covTo xs ys (k + 1) = true) := by show _ = _; rw [Hs.out, hB.out, decide_eq_false q2]; simp
            clear q1 Hs Hn
            go_wp2_with fail
            go_quiet (fail)
            have Hd : Hid (wd.drewN nq = w.drewN (m + nq)) := by show _ = _; rw [← Hwd.out]; exact World.drewN_drewN _ _ _
            rw [Hd.out]
            clear hc1' hc2' Hwd
            go_wp2
            go_roundw
            case rel => exact ⟨k + 1, by omega, by go_num, E, _, rfl⟩
            case measure => simp [intOf]; omega
      · obtain rfl : k = lb := by omega
        have E : Hid (covL xs ys = true) := by show _ = _; rw [← HA.out]; exact hB.out
        go_wp2
        go_ret
        exact ⟨ret_bool E.out.symm, _, rfl⟩

end Go.Proofs.Ytbpkebkblkjdhaa

/- The answers of the document itself for nets: one behind the other. -/
import Derived.Test.YtnojfeofdlocaaaNet3
namespace Go.Proofs.Ytnojfeofdlocaaa
open Go.RowKit
set_option linter.unusedVariables false

/-- One behind the other. -/
def runL (n : NetL) : List Int → List Int → List Int × Int
  | m, [] => if fitsL n m then (m, 0) else ([], 2)
  | m, t :: ts => if fitsL n m then (if (fireL n m t).2 == 0 then runL n (fireL n m t).1 ts else ([], (fireL n m t).2)) else ([], 2)

set_option maxHeartbeats 1000000 in
theorem brun_any (n : NetL) (hsm : SmallNet n) (seq : List Int) : ∀ (v u s : Value) (m : List Int) (w : World), Net w v n → Ints w u m → Ints w s seq →
    Calls Try.prog 17 #[v, u, s] w fun e w' => Gives w (runL n m seq) e w' := by
  induction seq with
  | nil =>
    intro v u s m w hv hu hs
    obtain ⟨tv, rfl, hT⟩ := hv
    have b1 := below_new w (.cells #[.int .i64 n.places, tv] 24)
    have hu1 := hu.below b1
    have hv1 : Net _ _ n := ⟨tv, rfl, hT.below b1⟩
    obtain ⟨a, len, cap, rfl, hlen, hmx, hsh, hr⟩ := hs
    simp only [List.length_nil] at hlen
    subst hlen
    clear hr hT hu
    go_enter Try.func17, Try.ntmps17
    go_wp2_with fail
    refine (bfits_any _ _ n m _ (by exact hv1) (by exact hu1) hsm).mono ?_
    rintro e w1 ⟨rfl, b2⟩
    have b3 := below_then b1 b2
    have hu2 := hu1.below b2
    clear b1 b2 hu1 hv1
    cases hf : fitsL n m
    · have E : Hid (runL n m [] = ([], 2)) := by show _ = _; simp [runL, hf]
      clear hf
      go_wp2
      go_ret2
      exact gives_of E.out (Ints.nil _) b3
    · have E : Hid (runL n m [] = (m, 0)) := by show _ = _; simp [runL, hf]
      clear hf
      go_wp2
      go_ret2
      exact gives_of E.out hu2 b3
  | cons t ts ih =>
    intro v u s m w hv hu hs
    have IH : Hid _ := ih
    clear ih
    obtain ⟨tv, rfl, hT⟩ := hv
    have b1 := below_new w (.cells #[.int .i64 n.places, tv] 24)
    have hbx := box2_new w (.int .i64 n.places) tv 24
    have hu1 := hu.below b1
    have hv1 : Net _ _ n := ⟨tv, rfl, hT.below b1⟩
    have hs1 := hs.below b1
    obtain ⟨a, len, cap, rfl, hlen, hmx, hsh, hr⟩ := hs
    simp only [List.length_cons] at hlen
    have hl0 : ((len : Int) == 0) = false := by simp; omega
    clear hr hT hu
    go_enter Try.func17, Try.ntmps17
    go_wp2_with fail
    refine (bfits_any _ _ n m _ (by exact hv1) (by exact hu1) hsm).mono ?_
    rintro e w1 ⟨rfl, b2⟩
    have b3 := below_then b1 b2
    have hu2 := hu1.below b2
    have hv2 := hv1.below b2
    have hs2 := hs1.below b2
    have hbx2 := hbx.below b2
    clear b1 b2 hu1 hv1 hs1 hbx
    obtain ⟨hx0, hx1, hx2⟩ := hbx2
    cases hf : fitsL n m
    · have E : Hid (runL n m (t :: ts) = ([], 2)) := by show _ = _; simp [runL, hf]
      go_wp2_with fail
      refine (bfits_any _ _ n m _ (by exact hv2) (by exact hu2) hsm).mono ?_
      rintro e w2 ⟨rfl, b4⟩
      rw [hf]
      clear hf
      go_wp2
      go_ret2
      exact gives_of E.out (Ints.nil _) (below_then b3 b4)
    · have E : Hid (runL n m (t :: ts) = (if (fireL n m t).2 == 0 then runL n (fireL n m t).1 ts else ([], (fireL n m t).2))) := by show _ = _; simp [runL, hf]
      clear hf
      obtain ⟨a', len', cap', e, hl', _, hsh', hr⟩ := hs2
      injection e with e1 e2 e3
      subst e1 e2 e3
      obtain ⟨b, off, rfl, hblt, hc0⟩ := hr 0 (by simp)
      have hc0' : w1.cell? ⟨b, off, none⟩ = some (.int .i64 t) := by simpa [nth] using hc0
      have hlp : (0 : Int) < (len : Int) := by omega
      have hlp2 : 0 < len := by omega
      have hlp3 : ¬ len = 0 := by omega
      go_wp2
      go_region_held3 (fun w' => w'.cell? ⟨w.heap.size, 0, none⟩ = some (.int .i64 n.places) ∧ w'.cell? ⟨w.heap.size, 1, none⟩ = some tv ∧ w'.cell? ⟨b, off, none⟩ = some (.int .i64 t))
        (go_keep)
        (first | (go_at_call 12; refine (bfire_any _ _ n m t _ ?_ ?_ hsm).mono ?_; exact hv2.below (below_drewN (Below.refl _ _) 1); exact hu2.drewN 1; rintro e w4 ⟨r, rfl, hR, hbR⟩; have k1 := (hbR.cell (p := ⟨w.heap.size, 0, none⟩) hx0).trans hx1; have k2 := (hbR.cell (p := ⟨w.heap.size, 1, none⟩) hx0).trans hx2; have k3 := (hbR.cell (p := ⟨b, off, none⟩) hblt).trans hc0'))
      have hv4 := (hv2.below (below_drewN (Below.refl _ _) 1)).below hbR
      have hr4 : Row w4 (some ⟨b, off, none⟩) (t :: ts) := (hr.drewN 1).below hbR
      have b4 : Below w.heap.size w w4 := below_then b3 ((below_drewN (Below.refl _ _) 1).trans hbR)
      have hy0 : w.heap.size < w4.heap.size := Nat.lt_of_lt_of_le hx0 hbR.size
      clear k3 hbR hx0 hx1 hx2 hc0 hc0' hr hv2 hu2 b3
      generalize fireL n m t = q at *
      obtain ⟨zs, c⟩ := q
      simp only at hR ⊢
      cases hq : (c == 0)
      · have hq2 : (c != 0) = true := by simpa using hq
        have E2 : Hid (runL n m (t :: ts) = ([], c)) := by show _ = _; rw [E.out]; simp only [hq]; rfl
        clear E hq
        go_wp2
        go_ret2
        exact gives_of E2.out (Ints.nil _) b4
      · have hq2 : (c != 0) = false := by simpa using hq
        have E2 : Hid (runL n m (t :: ts) = runL n zs ts) := by show _ = _; rw [E.out]; simp only [hq]; rfl
        clear E hq
        have hcap : 0 < cap := by have := hsh'.1; omega
        have hcap2 : (len : Int) ≤ (cap : Int) := by have := hsh'.1; omega
        have hlp4 : (1 : Int) ≤ (len : Int) := by omega
        have HI := ints_tail (hr4.drewN 1) hlen hmx hsh'
        clear hr4
        by_cases hc1 : cap = 1
        case' pos =>
          rw [if_pos hc1] at HI
          subst hc1
        case' neg => rw [if_neg hc1] at HI
        all_goals
          go_wp2
          go_region_held3 (fun w' => w'.cell? ⟨w.heap.size, 0, none⟩ = some (.int .i64 n.places) ∧ w'.cell? ⟨w.heap.size, 1, none⟩ = some tv)
            (go_keep)
            (first | (go_at_call 17; refine (IH.out _ _ _ zs _ ?_ ?_ ?_).mono ?_; exact hv4.below (below_drewN (Below.refl _ _) 1); exact hR.drewN 1; exact HI; rintro e w5 ⟨r5, rfl, hR5, hbR5⟩; have k4 := (hbR5.cell (p := ⟨w.heap.size, 0, none⟩) hy0).trans k1; have k5 := (hbR5.cell (p := ⟨w.heap.size, 1, none⟩) hy0).trans k2))
          have b5 : Below w.heap.size w w5 := below_then b4 ((below_drewN (Below.refl _ _) 1).trans hbR5)
          clear k1 k2 k4 k5 hbR5
          go_wp2
          go_ret2
          exact ⟨_, by rw [E2.out]; rfl, by rw [E2.out]; exact hR5, b5⟩

end Go.Proofs.Ytnojfeofdlocaaa

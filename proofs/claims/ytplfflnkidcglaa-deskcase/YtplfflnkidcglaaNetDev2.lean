/- Package net, as it landed: who can, one fires, one behind the other. -/
import Derived.Test.YtplfflnkidcglaaNetDev1
import Derived.Test.YtplfflnkidcglaaGr04
import Derived.Test.YtplfflnkidcglaaGr07
namespace Go.Proofs.Ytplfflnkidcglaa
open Go.RowKit
set_option linter.unusedVariables false
set_option maxRecDepth 4000

theorem covers_b (v u : Value) (xs ys : List Int) (w : World) (hv : Ints w v xs) (hu : Ints w u ys) :
    Calls Try.prog 74 #[v, u] w fun e w' => e = .returned (.bool (coversL xs ys)) ∧ Below w.heap.size w w' :=
  (covers_any v u xs ys w hv hu).mono fun _ _ h => ⟨h.1, by rw [h.2]; exact Below.refl _ _⟩

set_option maxHeartbeats 1000000 in
theorem fired_any (v u : Value) (n : NetL) (m : List Int) (t : Int) (w : World) (hv : Net w v n) (hu : Ints w u m) (hf : fitsL n m = true) :
    Calls Try.prog 72 #[v, u, .int .i64 t] w fun e w' => Gives w (fireL n m t) e w' := by
  obtain ⟨tv, rfl, hT⟩ := hv
  have b1 := below_new w (.cells #[.int .i64 n.places, tv] 24)
  have hbx := box2_new w (.int .i64 n.places) tv 24
  replace hu := hu.below b1
  replace hT := hT.below b1
  obtain ⟨hno, _, hrm⟩ := fits_net hf
  obtain ⟨w0, Hw0⟩ : ∃ w0, Hid (w.alloc (.cells #[.int .i64 n.places, tv] 24) = w0) := ⟨_, rfl⟩
  rw [Hw0.out] at b1 hbx hT hu
  obtain ⟨a, len, cap, rfl, hlen, hmx, hsh, hr⟩ := id hT
  clear hr
  obtain ⟨x0, x1, x2⟩ := id hbx
  go_enter Try.func72, Try.ntmps72
  go_upto_region 1 with fail
  rw [Hw0.out]
  clear Hw0
  by_cases ht0 : t < 0
  · have E : Hid (fireL n m t = ([], 3)) := by show _ = _; rw [fireL, hf, decide_eq_false (show ¬ 0 ≤ t by omega)]; rfl
    clear hf hno hrm
    go_wp2
    go_ret2
    exact gives_of E.out (Ints.nil _) b1
  by_cases ht1 : (len : Int) ≤ t
  · have E : Hid (fireL n m t = ([], 3)) := by show _ = _; rw [fireL, hf, decide_eq_false (show ¬ t < n.trans.length by omega)]; simp
    clear hf hno hrm
    go_wp2
    go_ret2
    exact gives_of E.out (Ints.nil _) b1
  obtain ⟨k, rfl⟩ := Int.eq_ofNat_of_zero_le (show 0 ≤ t by omega)
  have hkn : k < len := by omega
  have E0 : fireL n m k = (if coversL m (tranAt n.trans k).pre then
    (if rightL (addL (subL m (tranAt n.trans k).pre) (tranAt n.trans k).post) then (addL (subL m (tranAt n.trans k).pre) (tranAt n.trans k).post, 0) else ([], 4)) else ([], 3)) := by
    rw [fireL, hf, decide_eq_true (show (0 : Int) ≤ k by omega), decide_eq_true (show (k : Int) < n.trans.length by omega), Int.toNat_natCast]; simp
  have E1 : Hid _ := E0
  obtain ⟨b, off, c1, c2, rfl, hblt, h0, h1, h2, i1, i2⟩ := hT.at hkn
  obtain ⟨hr1, hr2⟩ := tran_right (net_tran hno (show k < n.trans.length by omega))
  have hge : ¬ ((len : Int) ≤ (k : Int)) := by omega
  clear E0 hf hno ht0 ht1
  generalize tranAt n.trans k = t at *
  go_wp2_with fail
  refine (minus_any _ _ m t.pre _ (by exact hu) (by exact i1)).mono ?_
  rintro e w2 ⟨r, rfl, hR, hb2⟩
  have b4 := below_then b1 hb2
  have i2' := i2.below hb2
  have hx1' := (hb2.cell (p := ⟨w.heap.size, 1, none⟩) x0).trans x2
  have h2' := (hb2.cell (p := ⟨b, _, none⟩) hblt).trans h2
  clear hb2 hu i1 i2 h0 h1 h2 x0 x1 x2 hT b1
  cases hc : coversL m t.pre
  · have E : Hid (fireL n m k = ([], 3)) := by show _ = _; rw [E1.out, hc]; rfl
    have e1 := minusL_none hrm hr1 hc
    rw [e1]
    clear E1 hc e1 hR
    go_wp2
    go_ret2
    exact gives_of E.out (Ints.nil _) b4
  · have hrs : rightL (subL m t.pre) = true := by rw [subL, right_minus hrm hr1]; exact hc
    have e1 : minusL m t.pre = (subL m t.pre, 0) := minusL_ok hrm hr1 hc
    rw [e1] at hR ⊢
    have E2 : Hid (fireL n m k = plusL (subL m t.pre) t.post) := by
      show _ = _; rw [E1.out, hc]; unfold plusL; rw [hrs, hr2]; rfl
    clear E1 hc e1
    go_wp2_with fail
    refine (plus_any _ _ _ t.post _ (by exact hR) (by exact i2')).mono ?_
    rintro e w3 ⟨r3, rfl, hR3, b3⟩
    replace b4 := below_then b4 b3
    go_wp2
    go_ret2
    exact ⟨_, by rw [E2.out]; rfl, by rw [E2.out]; exact hR3, b4⟩

set_option maxHeartbeats 400000 in
theorem net_fire (v u : Value) (n : NetL) (m : List Int) (t : Int) (w : World) (hv : Net w v n) (hu : Ints w u m) :
    Calls Try.prog 64 #[v, u, .int .i64 t] w fun e w' => Gives w (fireL n m t) e w' := by
  obtain ⟨tv, rfl, hT⟩ := hv
  have b1 := below_new w (.cells #[.int .i64 n.places, tv] 24)
  have hbx := box2_new w (.int .i64 n.places) tv 24
  replace hu := hu.below b1
  have hv : Net _ _ n := ⟨tv, rfl, hT.below b1⟩
  clear hT
  go_enter Try.func64, Try.ntmps64
  go_wp2_with fail
  refine (marks_any _ _ n m _ (by exact hv) (by exact hu)).mono ?_
  rintro e w1 ⟨rfl, b2⟩
  replace hu := hu.below b2
  replace hv := hv.below b2
  replace b1 := below_then b1 b2
  obtain ⟨x0, x1, x2⟩ := hbx.below b2
  clear b2 hbx
  cases hf : fitsL n m
  · have E : Hid (fireL n m t = ([], 2)) := by show _ = _; simp [fireL, hf]
    clear hf
    go_wp2
    go_ret2
    exact gives_of E.out (Ints.nil _) b1
  · go_wp2_with fail
    refine (fired_any _ _ n m t _ (by exact hv) (by exact hu) hf).mono ?_
    rintro e w2 ⟨r, rfl, hR, b3⟩
    go_wp2
    go_ret2
    exact ⟨_, rfl, hR, below_then b1 b3⟩

end Go.Proofs.Ytplfflnkidcglaa

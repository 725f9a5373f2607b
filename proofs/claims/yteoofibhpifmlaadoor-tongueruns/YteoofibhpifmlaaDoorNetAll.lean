import Derived.Test.YteoofibhpifmlaaDoorNet2
import Derived.Deep.RegionHeld3
/- The answers of the document itself for nets: one fires. -/
namespace Go.Proofs.YteoofibhpifmlaaDoor
open Go.RowKit
set_option linter.unusedVariables false
set_option maxRecDepth 4000

def addL (xs ys : List Int) : List Int := zipL (fun x1 x2 => x1 + x2) xs ys
def subL (xs ys : List Int) : List Int := zipL (fun x1 x2 => x1 - x2) xs ys

/-- One fires. -/
def fireL (n : NetL) (m : List Int) (t : Int) : List Int × Int :=
  if fitsL n m then
    (if decide (0 ≤ t) && decide (t < n.trans.length) && coversL m (tranAt n.trans t.toNat).pre then
      (if rightL (addL (subL m (tranAt n.trans t.toNat).pre) (tranAt n.trans t.toNat).post) then (addL (subL m (tranAt n.trans t.toNat).pre) (tranAt n.trans t.toNat).post, 0) else ([], 4))
    else ([], 3))
  else ([], 2)

theorem fits_net {n : NetL} {m : List Int} (h : fitsL n m = true) : netOk n = true ∧ (m.length : Int) = n.places ∧ rightL m = true := by
  simp only [fitsL, Bool.and_eq_true, beq_iff_eq] at h
  exact ⟨h.1.1, h.1.2, h.2⟩
theorem net_tran {n : NetL} (h : netOk n = true) {k : Nat} (hk : k < n.trans.length) : tranOk n.places (tranAt n.trans k) = true := by
  simp only [netOk, Bool.and_eq_true] at h
  have := List.all_eq_true.1 h.2 _ (List.getElem_mem hk)
  simpa [tranAt, List.getD, List.getElem?_eq_getElem hk] using this
theorem weights_right {xs : List Int} (h : xs.all weightOk = true) : rightL xs = true := by
  rw [rightL_iff]
  intro j
  by_cases hj : j < xs.length
  · have := List.all_eq_true.1 h _ (List.getElem_mem hj)
    simp only [weightOk, Bool.and_eq_true, decide_eq_true_eq] at this
    simp only [nth, List.getD, List.getElem?_eq_getElem hj, Option.getD_some]
    omega
  · rw [nth_past xs j (by omega)]; omega
theorem tran_right {p : Int} {t : TranL} (h : tranOk p t = true) : rightL t.pre = true ∧ rightL t.post = true := by
  simp only [tranOk, Bool.and_eq_true, List.all_append] at h
  exact ⟨weights_right h.2.1, weights_right h.2.2⟩

set_option maxHeartbeats 1000000 in
theorem bfire_any (v u : Value) (n : NetL) (m : List Int) (t : Int) (w : World) (hv : Net w v n) (hu : Ints w u m) (hsm : SmallNet n) :
    Calls Tryd.prog 65 #[v, u, .int .i64 t] w fun e w' => Gives w (fireL n m t) e w' := by
  obtain ⟨tv, rfl, hT⟩ := hv
  have b1 := below_new w (.cells #[.int .i64 n.places, tv] 24)
  have hbx := box2_new w (.int .i64 n.places) tv 24
  have hu1 := hu.below b1
  have hv1 : Net _ _ n := ⟨tv, rfl, hT.below b1⟩
  go_enter Tryd.func65, Tryd.ntmps65
  go_wp2_with fail
  refine (bfits_any _ _ n m _ (by exact hv1) (by exact hu1) hsm).mono ?_
  rintro e w1 ⟨rfl, b2⟩
  have b3 := below_then b1 b2
  have hu2 := hu1.below b2
  have hT2 := (hT.below b1).below b2
  have hbx2 := hbx.below b2
  clear b1 b2 hbx hu1 hv1 hT
  cases hf : fitsL n m
  · have E : fireL n m t = ([], 2) := by simp [fireL, hf]
    go_wp2
    go_ret2
    exact gives_of E (Ints.nil _) b3
  · obtain ⟨hno, _, hrm⟩ := fits_net hf
    obtain ⟨hx0, hx1, hx2⟩ := hbx2
    have hT3 := hT2
    obtain ⟨a, len, cap, rfl, hlen, hmx, hsh, hr⟩ := hT2
    clear hr
    by_cases ht0 : t < 0
    · have E : Hid (fireL n m t = ([], 3)) := by show _ = _; rw [fireL, hf, decide_eq_false (show ¬ 0 ≤ t by omega)]; rfl
      clear hf hno hrm
      go_wp2
      go_ret2
      exact gives_of E.out (Ints.nil _) b3
    by_cases ht1 : (len : Int) ≤ t
    · have E : Hid (fireL n m t = ([], 3)) := by show _ = _; rw [fireL, hf, decide_eq_false (show ¬ t < n.trans.length by omega)]; simp
      clear hf hno hrm
      go_wp2
      go_ret2
      exact gives_of E.out (Ints.nil _) b3
    obtain ⟨k, rfl⟩ := Int.eq_ofNat_of_zero_le (show 0 ≤ t by omega)
    have hkn : k < len := by omega
    have E0 : fireL n m k = (if coversL m (tranAt n.trans k).pre then
      (if rightL (addL (subL m (tranAt n.trans k).pre) (tranAt n.trans k).post) then (addL (subL m (tranAt n.trans k).pre) (tranAt n.trans k).post, 0) else ([], 4)) else ([], 3)) := by
      rw [fireL, hf, decide_eq_true (show (0 : Int) ≤ k by omega), decide_eq_true (show (k : Int) < n.trans.length by omega), Int.toNat_natCast]; simp
    have E1 : Hid _ := E0
    obtain ⟨b, off, c1, c2, rfl, hblt, h0, h1, h2, i1, i2⟩ := hT3.at hkn
    obtain ⟨hr1, hr2⟩ := tran_right (net_tran hno (show k < n.trans.length by omega))
    have hge : ¬ ((len : Int) ≤ (k : Int)) := by omega
    clear E0 hf hno ht0 ht1
    generalize tranAt n.trans k = t at *
    go_wp2_with fail
    refine (acovers_b _ _ m t.pre _ hu2 i1).mono ?_
    rintro e w2 ⟨rfl, hb2⟩
    have b4 := below_then b3 hb2
    have hu3 := hu2.below hb2
    have i1' := i1.below hb2
    have i2' := i2.below hb2
    have hx1' := (hb2.cell (p := ⟨w.heap.size, 1, none⟩) hx0).trans hx2
    have h1' := (hb2.cell (p := ⟨b, _, none⟩) hblt).trans h1
    have h2' := (hb2.cell (p := ⟨b, _, none⟩) hblt).trans h2
    have hy0 := Nat.lt_of_lt_of_le hx0 hb2.size
    have hy1 := Nat.lt_of_lt_of_le hblt hb2.size
    clear hb2 hu2 i1 i2 h0 h1 h2 hx0 hx1 hx2 hT3 b3
    cases hc : coversL m t.pre
    · have E : Hid (fireL n m k = ([], 3)) := by show _ = _; rw [E1.out, hc]; rfl
      clear E1 hc
      go_wp2
      go_ret2
      exact gives_of E.out (Ints.nil _) b4
    · have hrs : rightL (subL m t.pre) = true := by rw [subL, right_minus hrm hr1]; exact hc
      go_wp2
      go_region_held3 (fun w' => w'.cell? ⟨w.heap.size, 1, none⟩ = some (.slice (some ⟨b, off, none⟩) len cap) ∧ w'.cell? ⟨b, off + k * 3 + 1, none⟩ = some c1 ∧ w'.cell? ⟨b, off + k * 3 + 2, none⟩ = some c2)
        (go_keep)
        (first | (go_at_call_of 92 c1; refine (amix_any (-1) (.inr rfl) _ _ m t.pre _ ?_ ?_ hrm hr1).mono ?_; exact hu3.drewN 1; exact i1'.drewN 1; rintro e w4 ⟨r, rfl, hR, hbR⟩; have k1 := (hbR.cell (p := ⟨w.heap.size, 1, none⟩) hy0).trans hx1'; have k2 := (hbR.cell (p := ⟨b, _, none⟩) hy1).trans h1'; have k3 := (hbR.cell (p := ⟨b, _, none⟩) hy1).trans h2') | (go_at_call_of 92 c2; refine (amix_any 1 (.inl rfl) _ _ (subL m t.pre) t.post _ ?_ ?_ hrs hr2).mono ?_; (rw [mix_less] at hR; exact hR); exact (i2'.drewN 1).below hbR; rintro e w5 ⟨r2, rfl, hR2, hbR2⟩; have k1 := (hbR2.cell (p := ⟨w.heap.size, 1, none⟩) (Nat.lt_of_lt_of_le hy0 hbR.size)).trans k1; have k2 := (hbR2.cell (p := ⟨b, _, none⟩) (Nat.lt_of_lt_of_le hy1 hbR.size)).trans k2; have k3 := (hbR2.cell (p := ⟨b, _, none⟩) (Nat.lt_of_lt_of_le hy1 hbR.size)).trans k3))
      rw [mix_one] at hR2
      have b5 : Below w.heap.size w w5 := below_then b4 ((below_drewN (Below.refl _ _) 1).trans ((hbR.trans (hbR2.mono hbR.size))))
      clear k1 k2 k3 hbR hbR2 hR i1' i2' hx1' h1' h2' hy0 hy1
      go_wp2_with fail
      refine (aright_any _ _ _ hR2).mono ?_
      rintro e w' ⟨rfl, rfl⟩
      have E2 : Hid (fireL n m k = (if rightL (zipL (fun x1 x2 => x1 + x2) (subL m t.pre) t.post) then (addL (subL m t.pre) t.post, 0) else ([], 4))) := by
        show _ = _; rw [E1.out, hc]; rfl
      clear E1 hc
      cases hz : rightL (zipL (fun x1 x2 => x1 + x2) (subL m t.pre) t.post)
      · have E : Hid (fireL n m k = ([], 4)) := by show _ = _; rw [E2.out, hz]; rfl
        clear E2 hz
        go_wp2
        go_ret2
        exact gives_of E.out (Ints.nil _) b5
      · have E : Hid (fireL n m k = (addL (subL m t.pre) t.post, 0)) := by show _ = _; rw [E2.out, hz]; rfl
        clear E2 hz
        go_wp2
        go_ret2
        exact gives_of E.out hR2 b5

end Go.Proofs.YteoofibhpifmlaaDoor

/- The answers of the document itself for nets: one behind the other. -/
namespace Go.Proofs.YteoofibhpifmlaaDoor
open Go.RowKit
set_option linter.unusedVariables false
set_option maxRecDepth 4000

/-- One behind the other. -/
def runL (n : NetL) : List Int → List Int → List Int × Int
  | m, [] => if fitsL n m then (m, 0) else ([], 2)
  | m, t :: ts => if fitsL n m then (if (fireL n m t).2 == 0 then runL n (fireL n m t).1 ts else ([], (fireL n m t).2)) else ([], 2)

end Go.Proofs.YteoofibhpifmlaaDoor

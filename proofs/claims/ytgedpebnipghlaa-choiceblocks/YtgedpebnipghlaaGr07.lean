import Derived.Test.YtgedpebnipghlaaGr00
import Derived.Lib.SliceRun
import Derived.Test.YtgedpebnipghlaaGr05
import Derived.Test.YtgedpebnipghlaaGr06
/- More of package slices over slices of ints: a copy, whether a number is there. -/
namespace Go.Proofs.Ytgedpebnipghlaa
open Go.RowKit
set_option linter.unusedVariables false
set_option maxRecDepth 4000

/-- Whether a number is there. -/
def hasL (xs : List Int) (x : Int) : Bool := xs.contains x
def anyL (xs : List Int) (p : Int → Bool) : Bool := xs.any p

/-- It is at none of the first k places. -/
def idxTo (xs : List Int) (x : Int) (k : Nat) : Prop := ∀ j, j < k → nth xs j ≠ x

theorem contains_of_nth {xs : List Int} {x : Int} {k : Nat} (hk : k < xs.length) (h : nth xs k = x) : hasL xs x = true := by
  unfold hasL
  rw [List.contains_iff_mem, ← h]
  simp [nth, List.getD, List.getElem?_eq_getElem hk]
theorem not_contains {xs : List Int} {x : Int} (h : idxTo xs x xs.length) : hasL xs x = false := by
  unfold hasL
  rw [Bool.eq_false_iff]
  intro hc
  rw [List.contains_iff_mem] at hc
  obtain ⟨j, hj, e⟩ := List.mem_iff_getElem.1 hc
  exact h j hj (by simp [nth, List.getD, List.getElem?_eq_getElem hj, e])
theorem idxTo_succ {xs : List Int} {x : Int} {k : Nat} (h : idxTo xs x k) (hn : nth xs k ≠ x) : idxTo xs x (k + 1) := by
  intro j hj
  by_cases hjk : j < k
  · exact h j hjk
  · obtain rfl : j = k := by omega
    exact hn

set_option maxHeartbeats 400000 in
theorem index_any (v : Value) (xs : List Int) (x : Int) (w : World) (h : Ints w v xs) :
    Calls Try.prog 33 #[v, .int .i64 x] w fun e w' => ∃ i : Int, e = .returned (.int .i64 i) ∧ w' = w ∧ (decide (0 ≤ i) = hasL xs x) := by
  obtain ⟨a, len, cap, rfl, hlen, hmx, hsh, hr⟩ := h
  go_enter Try.func33, Try.ntmps33
  go_wp2
  go_loop [8] (fun i => ∃ k : Nat, k ≤ len ∧ i = .int .i64 k ∧ idxTo xs x k) (fun i => len - (intOf i).toNat)
  case atStart => exact ⟨0, Nat.zero_le _, rfl, fun j hj => absurd hj (Nat.not_lt_zero _)⟩
  case round =>
    obtain ⟨k, hk, rfl, hidx⟩ := hrel
    by_cases hkn : k < len
    · obtain ⟨b, off, rfl, hb, hc⟩ := hr k (by omega)
      by_cases hx : nth xs k = x
      · have e1 : (x == nth xs k) = true := by simp [hx]
        have F : Hid (hasL xs x = true) := contains_of_nth (by omega) hx
        clear hr hx
        go_wp2
        go_ret
        exact ⟨_, rfl, rfl, by rw [F.out]; simp⟩
      · have e1 : (x == nth xs k) = false := by rw [beq_eq_false_iff_ne]; exact fun h => hx h.symm
        have F : Hid (idxTo xs x (k + 1)) := idxTo_succ hidx hx
        clear hr hx
        go_wp2
        go_round
        case rel => exact ⟨k + 1, by omega, by go_num, F.out⟩
        case measure => simp [intOf]; omega
    · have F : Hid (hasL xs x = false) := not_contains (by rw [hlen]; have hkl : k = len := (by omega); rw [← hkl]; exact hidx)
      go_wp2
      go_ret
      exact ⟨_, rfl, rfl, by rw [F.out]; rfl⟩

set_option maxHeartbeats 400000 in
theorem contains_any (v : Value) (xs : List Int) (x : Int) (w : World) (h : Ints w v xs) :
    Calls Try.prog 15 #[v, .int .i64 x] w fun e w' => e = .returned (.bool (hasL xs x)) ∧ w' = w := by
  go_enter Try.func15, Try.ntmps15
  go_wp2_with fail
  refine (index_any _ xs x _ h).mono ?_
  rintro e w' ⟨i, rfl, rfl, hi⟩
  have F : Hid _ := hi
  clear hi
  by_cases h0 : 0 ≤ i
  · go_wp2
    go_ret
    exact ⟨ret_bool (by rw [← F.out, decide_eq_true h0]), rfl⟩
  · go_wp2
    go_ret
    exact ⟨ret_bool (by rw [← F.out, decide_eq_false (by omega)]), rfl⟩

/-- Function g of an int answers whether p. -/
def Asks1 (g : Nat) (p : Int → Bool) : Prop := ∀ x w, Calls Try.prog g #[.int .i64 x] w fun e w' => e = .returned (.bool (p x)) ∧ w' = w

def noneTo (xs : List Int) (p : Int → Bool) (k : Nat) : Prop := ∀ j, j < k → p (nth xs j) = false
theorem any_of_nth {xs : List Int} {p : Int → Bool} {k : Nat} (hk : k < xs.length) (h : p (nth xs k) = true) : anyL xs p = true := by
  unfold anyL
  rw [List.any_eq_true]
  exact ⟨nth xs k, by simp [nth, List.getD, List.getElem?_eq_getElem hk], h⟩
theorem not_any {xs : List Int} {p : Int → Bool} (h : noneTo xs p xs.length) : anyL xs p = false := by
  unfold anyL
  rw [List.any_eq_false]
  intro x hx
  obtain ⟨j, hj, e⟩ := List.mem_iff_getElem.1 hx
  have := h j hj
  simp only [nth, List.getD, List.getElem?_eq_getElem hj, e, Option.getD_some] at this
  simp [this]
theorem noneTo_succ {xs : List Int} {p : Int → Bool} {k : Nat} (h : noneTo xs p k) (hn : p (nth xs k) = false) : noneTo xs p (k + 1) := by
  intro j hj
  by_cases hjk : j < k
  · exact h j hjk
  · obtain rfl : j = k := by omega
    exact hn

end Go.Proofs.Ytgedpebnipghlaa

/- Package net, as it landed: who can, one fires, one behind the other. -/
namespace Go.Proofs.Ytgedpebnipghlaa
open Go.RowKit
set_option linter.unusedVariables false
set_option maxRecDepth 4000

theorem covers_b (v u : Value) (xs ys : List Int) (w : World) (hv : Ints w v xs) (hu : Ints w u ys) :
    Calls Try.prog 32 #[v, u] w fun e w' => e = .returned (.bool (coversL xs ys)) ∧ Below w.heap.size w w' :=
  (covers_any v u xs ys w hv hu).mono fun _ _ h => ⟨h.1, by rw [h.2]; exact Below.refl _ _⟩

set_option maxHeartbeats 1000000 in
theorem net_enabled (v u : Value) (n : NetL) (m : List Int) (w : World) (hv : Net w v n) (hu : Ints w u m) :
    Calls Try.prog 14 #[v, u] w fun e w' => Gives w (canL n m) e w' := by
  obtain ⟨tv, rfl, hT⟩ := hv
  have b1 := below_new w (.cells #[.int .i64 n.places, tv] 24)
  have hbx := box2_new w (.int .i64 n.places) tv 24
  have hu1 := hu.below b1
  have hv1 : Net _ _ n := ⟨tv, rfl, hT.below b1⟩
  go_enter Try.func14, Try.ntmps14
  go_wp2_with fail
  refine (marks_any _ _ n m _ (by exact hv1) (by exact hu1)).mono ?_
  rintro e w1 ⟨rfl, b2⟩
  have b3 := below_then b1 b2
  have hu2 := hu1.below b2
  have hT2 := (hT.below b1).below b2
  have hbx2 := hbx.below b2
  clear b1 b2 hbx hu1 hv1 hT
  cases hf : fitsL n m
  · go_wp2
    go_ret2
    exact gives_of (canL_no hf) (Ints.nil _) b3
  · have HF : Hid _ := canL_yes hf
    clear hf
    obtain ⟨hx0, hx1, hx2⟩ := hbx2
    have hT3 := hT2
    obtain ⟨a, len, cap, rfl, hlen, hmx, hsh, hr⟩ := hT2
    clear hr
    go_wp2_with fail
    go_loopg [6, 16] len (fun g o i wr => ∃ k : Nat, k + g = len ∧ i = .int .i64 k ∧ Own w1.heap.size w1 wr o (canTo n m k))
    case atStart => exact ⟨0, by omega, rfl, Own.nil _⟩
    case round =>
      clear hx0 hx1 hx2
      obtain ⟨k, hkg, rfl, hG⟩ := hrel
      by_cases hkn : k < len
      · obtain ⟨b, off, c1, c2, rfl, hblt, h0, h1, h2, i1, i2⟩ := (hT3.below hG.2.1).at hkn
        have hle := canTo_le n m k
        have hu3 := hu2.below hG.2.1
        have Hy : Hid _ := canTo_yes n m k
        have Hn : Hid _ := canTo_no n m k
        have j1 := i1
        have j2 := i2
        obtain ⟨a1, l1, p1, rfl, _, _, _, _⟩ := j1
        obtain ⟨a2, l2, p2, rfl, _, _, _, _⟩ := j2
        have hbn := below_new wr (.cells #[.int .i64 (tranAt n.trans k).label, .slice a1 l1 p1, .slice a2 l2 p2] 44)
        generalize tranAt n.trans k = t at *
        have hG1 := hG.trans hbn
        go_wp2_with fail
        refine (covers_b _ _ m t.pre _ (by exact hu3.below hbn) (by exact i1.below hbn)).mono ?_
        rintro e w2 ⟨rfl, hb2⟩
        have hG2 := hG1.trans hb2
        clear hG hG1 hbn hb2 h0 h1 h2 i1 i2 hu3
        cases hc : coversL m t.pre
        · have R := hG2
          rw [← Hn.out hc] at R
          clear hG2
          go_wp2
          go_roundg (gk - 1)
          case measure => omega
          case rel => exact ⟨k + 1, by omega, by go_num, R⟩
        · go_wp2_with (at_builtin; refine wp_append_int rfl _ _ rfl w1.heap.size w1 _ _ _ (k : Int) hG2 rfl rfl (by omega) ?_; intro v' w3 hG3)
          have R : Own w1.heap.size w1 w3 v' (canTo n m (k + 1)) := by rw [Hy.out hc]; exact hG3
          clear hG2 hG3
          go_wp2
          go_roundg (gk - 1)
          case measure => omega
          case rel => exact ⟨k + 1, by omega, by go_num, R⟩
      · have hk : k = n.trans.length := by omega
        have hle := canTo_le n m k
        have R := hG.ints (by omega)
        have R2 := below_then b3 hG.2.1
        have E : Hid (canL n m = (canTo n m k, 0)) := by rw [hk]; exact HF.out
        clear hG hk
        go_wp2
        go_ret2
        exact gives_of E.out R R2

set_option maxHeartbeats 1000000 in
theorem fired_any (v u : Value) (n : NetL) (m : List Int) (t : Int) (w : World) (hv : Net w v n) (hu : Ints w u m) (hf : fitsL n m = true) :
    Calls Try.prog 34 #[v, u, .int .i64 t] w fun e w' => Gives w (fireL n m t) e w' := by
  obtain ⟨tv, rfl, hT⟩ := hv
  have b1 := below_new w (.cells #[.int .i64 n.places, tv] 24)
  have hbx := box2_new w (.int .i64 n.places) tv 24
  replace hu := hu.below b1
  replace hT := hT.below b1
  obtain ⟨hno, _, hrm⟩ := fits_net hf
  obtain ⟨w0, Hw0⟩ : ∃ w0, Hid (w.alloc (.cells #[.int .i64 n.places, tv] 24) = w0) := ⟨_, rfl⟩
  rw [Hw0.out] at b1 hbx hT hu
  obtain ⟨a, len, cap, rfl, hlen, hmx, hsh, hr⟩ := id hT
  clear hr
  obtain ⟨x0, x1, x2⟩ := id hbx
  go_enter Try.func34, Try.ntmps34
  go_upto_region 1 with fail
  rw [Hw0.out]
  clear Hw0
  by_cases ht0 : t < 0
  · have E : Hid (fireL n m t = ([], 3)) := by show _ = _; rw [fireL, hf, decide_eq_false (show ¬ 0 ≤ t by omega)]; rfl
    clear hf hno hrm
    go_wp2
    go_ret2
    exact gives_of E.out (Ints.nil _) b1
  by_cases ht1 : (len : Int) ≤ t
  · have E : Hid (fireL n m t = ([], 3)) := by show _ = _; rw [fireL, hf, decide_eq_false (show ¬ t < n.trans.length by omega)]; simp
    clear hf hno hrm
    go_wp2
    go_ret2
    exact gives_of E.out (Ints.nil _) b1
  obtain ⟨k, rfl⟩ := Int.eq_ofNat_of_zero_le (show 0 ≤ t by omega)
  have hkn : k < len := by omega
  have E0 : fireL n m k = (if coversL m (tranAt n.trans k).pre then
    (if rightL (addL (subL m (tranAt n.trans k).pre) (tranAt n.trans k).post) then (addL (subL m (tranAt n.trans k).pre) (tranAt n.trans k).post, 0) else ([], 4)) else ([], 3)) := by
    rw [fireL, hf, decide_eq_true (show (0 : Int) ≤ k by omega), decide_eq_true (show (k : Int) < n.trans.length by omega), Int.toNat_natCast]; simp
  have E1 : Hid _ := E0
  obtain ⟨b, off, c1, c2, rfl, hblt, h0, h1, h2, i1, i2⟩ := hT.at hkn
  obtain ⟨hr1, hr2⟩ := tran_right (net_tran hno (show k < n.trans.length by omega))
  have hge : ¬ ((len : Int) ≤ (k : Int)) := by omega
  clear E0 hf hno ht0 ht1
  generalize tranAt n.trans k = t at *
  go_wp2_with fail
  refine (minus_any _ _ m t.pre _ (by exact hu) (by exact i1)).mono ?_
  rintro e w2 ⟨r, rfl, hR, hb2⟩
  have b4 := below_then b1 hb2
  have i2' := i2.below hb2
  have hx1' := (hb2.cell (p := ⟨w.heap.size, 1, none⟩) x0).trans x2
  have h2' := (hb2.cell (p := ⟨b, _, none⟩) hblt).trans h2
  clear hb2 hu i1 i2 h0 h1 h2 x0 x1 x2 hT b1
  cases hc : coversL m t.pre
  · have E : Hid (fireL n m k = ([], 3)) := by show _ = _; rw [E1.out, hc]; rfl
    have e1 := minusL_none hrm hr1 hc
    rw [e1]
    clear E1 hc e1 hR
    go_wp2
    go_ret2
    exact gives_of E.out (Ints.nil _) b4
  · have hrs : rightL (subL m t.pre) = true := by rw [subL, right_minus hrm hr1]; exact hc
    have e1 : minusL m t.pre = (subL m t.pre, 0) := minusL_ok hrm hr1 hc
    rw [e1] at hR ⊢
    have E2 : Hid (fireL n m k = plusL (subL m t.pre) t.post) := by
      show _ = _; rw [E1.out, hc]; unfold plusL; rw [hrs, hr2]; rfl
    clear E1 hc e1
    go_wp2_with fail
    refine (plus_any _ _ _ t.post _ (by exact hR) (by exact i2')).mono ?_
    rintro e w3 ⟨r3, rfl, hR3, b3⟩
    replace b4 := below_then b4 b3
    go_wp2
    go_ret2
    exact ⟨_, by rw [E2.out]; rfl, by rw [E2.out]; exact hR3, b4⟩

set_option maxHeartbeats 400000 in
theorem net_fire (v u : Value) (n : NetL) (m : List Int) (t : Int) (w : World) (hv : Net w v n) (hu : Ints w u m) :
    Calls Try.prog 16 #[v, u, .int .i64 t] w fun e w' => Gives w (fireL n m t) e w' := by
  obtain ⟨tv, rfl, hT⟩ := hv
  have b1 := below_new w (.cells #[.int .i64 n.places, tv] 24)
  have hbx := box2_new w (.int .i64 n.places) tv 24
  replace hu := hu.below b1
  have hv : Net _ _ n := ⟨tv, rfl, hT.below b1⟩
  clear hT
  go_enter Try.func16, Try.ntmps16
  go_wp2_with fail
  refine (marks_any _ _ n m _ (by exact hv) (by exact hu)).mono ?_
  rintro e w1 ⟨rfl, b2⟩
  replace hu := hu.below b2
  replace hv := hv.below b2
  replace b1 := below_then b1 b2
  obtain ⟨x0, x1, x2⟩ := hbx.below b2
  clear b2 hbx
  cases hf : fitsL n m
  · have E : Hid (fireL n m t = ([], 2)) := by show _ = _; simp [fireL, hf]
    clear hf
    go_wp2
    go_ret2
    exact gives_of E.out (Ints.nil _) b1
  · go_wp2_with fail
    refine (fired_any _ _ n m t _ (by exact hv) (by exact hu) hf).mono ?_
    rintro e w2 ⟨r, rfl, hR, b3⟩
    go_wp2
    go_ret2
    exact ⟨_, rfl, hR, below_then b1 b3⟩

end Go.Proofs.Ytgedpebnipghlaa

/- Van der Aalst: a net is sound just if, closed, it has a bound and all its transitions are live. -/
namespace Go.Proofs.Ytgedpebnipghlaa
set_option linter.unusedVariables false
set_option maxRecDepth 4000

theorem stepC {n : NetL} {i o : Int} {x y : List Int} {t : Nat} (h : StepZ (closeL n i o) x t y) : StepZ n x t y ∨ (t = n.trans.length ∧ (∀ p, nth (startL n.places o) p ≤ nth x p) ∧ y = addL (subL x (startL n.places o)) (startL n.places i)) := by
  obtain ⟨ht, hc, e⟩ := h
  rw [close_count] at ht
  by_cases q : t < n.trans.length
  · rw [close_at n i o q] at hc e
    exact .inl ⟨q, hc, e⟩
  · have : t = n.trans.length := by omega
    subst this
    rw [close_last] at hc e
    exact .inr ⟨rfl, hc, e⟩
theorem stepC_of {n : NetL} {i o : Int} {x y : List Int} {t : Nat} (h : StepZ n x t y) : StepZ (closeL n i o) x t y := by
  obtain ⟨ht, hc, e⟩ := h
  exact ⟨by rw [close_count]; omega, by rw [close_at n i o ht]; exact hc, by rw [close_at n i o ht]; exact e⟩
theorem stepC_last {n : NetL} {i o : Int} {x : List Int} (h : ∀ p, nth (startL n.places o) p ≤ nth x p) : StepZ (closeL n i o) x n.trans.length (addL (subL x (startL n.places o)) (startL n.places i)) :=
  ⟨by rw [close_count]; omega, by rw [close_last]; exact h, by rw [close_last]⟩
theorem round_same2 (P i o : Int) : addL (subL (startL P o) (startL P o)) (startL P i) = startL P i := by
  refine eq_of_at ?_ fun j => ?_
  · rw [add_length, sub_length]
    simp only [start_length]
    omega
  · rw [add_at, sub_at]; omega
theorem stepC_end (n : NetL) (i o : Int) : StepZ (closeL n i o) (startL n.places o) n.trans.length (startL n.places i) := by
  have h := stepC_last (n := n) (i := i) (o := o) (x := startL n.places o) fun _ => Int.le_refl _
  rwa [round_same2] at h
theorem reachC {n : NetL} {i o : Int} {a b : List Int} (h : ReachZ n a b) : ReachZ (closeL n i o) a b := by
  induction h using ReachZ.ind with
  | here => exact .here
  | step _ hs ih => exact ih.step (stepC_of hs)

/-- Where nothing has anything beside the end, what covers it is it. -/
theorem only_end {E x : List Int} (h : ¬ ExtraM E x) (hc : ∀ p, nth E p ≤ nth x p) : x = E := by
  by_cases e : x = E
  · exact e
  · exact absurd ⟨(coversL_iff _ _).2 hc, e⟩ h
theorem reachC_in {n : NetL} {i o : Int} {x : List Int} (hx : ∀ x, ReachZ n (startL n.places i) x → ¬ ExtraM (startL n.places o) x) (h : ReachZ (closeL n i o) (startL n.places i) x) : ReachZ n (startL n.places i) x := by
  induction h using ReachZ.ind with
  | here => exact .here
  | step _ hs ih =>
    rcases stepC hs with q | ⟨_, hc, rfl⟩
    · exact ih.step q
    · rw [only_end (hx _ ih) hc, round_same2]
      exact .here
theorem reachC_end {n : NetL} {i o : Int} {x y : List Int} (hx : ∀ x, ReachZ n (startL n.places i) x → ¬ ExtraM (startL n.places o) x) (h0 : ReachZ n (startL n.places i) x) (h : ReachZ (closeL n i o) x y) : ReachZ n x y ∨ ReachZ n x (startL n.places o) := by
  induction h using ReachZ.ind with
  | here => exact .inl .here
  | step _ hs ih =>
    rcases ih with ih | ih
    · rcases stepC hs with q | ⟨_, hc, rfl⟩
      · exact .inl (ih.step q)
      · right
        rw [← only_end (hx _ (h0.trans ih)) hc]
        exact ih
    · exact .inr ih

theorem Whole.reach_comes {n : NetL} {m y : List Int} {s : SpaceL} (h : Whole n m s) {f : Nat} (hf : f < s.marks.length) (hr : ReachZ n (markAt s.marks f) y) : ∃ g : Nat, g < s.marks.length ∧ markAt s.marks g = y ∧ Comes (toZ s) f g := by
  induction hr using ReachZ.ind with
  | here => exact ⟨f, hf, rfl, Comes.here _⟩
  | @step x y t _ hs ih =>
    obtain ⟨g, hg, rfl, hc⟩ := ih
    obtain ⟨ht, hcv, rfl⟩ := hs
    rcases h.fire hg t with q | ⟨j, g2, e, ha, hg2, e2⟩
    · exact absurd q (fire_code (h.fits hg) ht hcv)
    · obtain ⟨j', e3, _, _, _, _, e4⟩ := fire_ok e2
      have : j' = t := by omega
      subst this
      have hz : ((g : Int), (j : Int), (g2 : Int)) ∈ (toZ s).arcs := mem_arcZ.2 ⟨_, ha, rfl⟩
      exact ⟨g2, hg2, e4, Comes.go (a := ((g : Int), (j : Int), (g2 : Int))) hc hz⟩
theorem Whole.comes_reach {n : NetL} {m : List Int} {s : SpaceL} (h : Whole n m s) {f : Nat} (hf : f < s.marks.length) {y : Int} (hc : Comes (toZ s) f y) : ∃ g : Nat, y = g ∧ g < s.marks.length ∧ ReachZ n (markAt s.marks f) (markAt s.marks g) := by
  obtain ⟨j, e, hj, seq, hs⟩ := h.comes_run hf hc
  exact ⟨j, e, hj, run_reachZ seq hs⟩
/-- Who can fire has an arc. -/
theorem Whole.has_arc {n : NetL} {m : List Int} {s : SpaceL} (h : Whole n m s) {f t : Nat} (hf : f < s.marks.length) (ht : t < n.trans.length) (hc : ∀ p, nth (tranAt n.trans t).pre p ≤ nth (markAt s.marks f) p) : ∃ a ∈ (toZ s).arcs, a.2.1 = t ∧ a.1 = f := by
  rcases h.fire hf t with q | ⟨j, g2, e, ha, hg2, e2⟩
  · exact absurd q (fire_code (h.fits hf) ht hc)
  · exact ⟨((f : Int), (j : Int), (g2 : Int)), mem_arcZ.2 ⟨_, ha, rfl⟩, e.symm, rfl⟩
theorem Whole.arc_can {n : NetL} {m : List Int} {s : SpaceL} (h : Whole n m s) {a : Int × Int × Int} (ha : a ∈ (toZ s).arcs) : ∃ f t : Nat, a.1 = f ∧ a.2.1 = t ∧ f < s.marks.length ∧ t < n.trans.length ∧ ∀ p, nth (tranAt n.trans t).pre p ≤ nth (markAt s.marks f) p := by
  obtain ⟨b, hb, rfl⟩ := mem_arcZ.1 ha
  obtain ⟨h1, h2, h3, h4⟩ := h.sound b hb
  obtain ⟨k, e, _, _, hc, _⟩ := fire_ok h4
  have : k = b.tran := by omega
  subst this
  exact ⟨b.frm, b.tran, rfl, rfl, h1, h3, (coversL_iff _ _).1 hc⟩

theorem range_all {N : Nat} {xs : List Int} (hu : xs.Pairwise (· < ·)) (hin : ∀ t ∈ xs, 0 ≤ t ∧ t < N) : xs.length = N ↔ ∀ t : Nat, t < N → (t : Int) ∈ xs := by
  have e : xs = (rangeL N).filter fun t => xs.contains t := by
    refine up_unique hu ((range_sorted N).sublist List.filter_sublist) fun t => ?_
    rw [List.mem_filter, mem_range, List.contains_iff_mem]
    exact ⟨fun h => ⟨hin t h, h⟩, fun h => h.2⟩
  have hl : (rangeL N).length = N := by simp [rangeL]
  constructor
  · intro h t ht
    have : (rangeL N).filter (fun t => xs.contains t) = rangeL N := List.filter_sublist.eq_of_length (by rw [← e, hl]; exact h)
    have hm : (t : Int) ∈ rangeL N := mem_range.2 (by omega)
    rw [← this, List.mem_filter, List.contains_iff_mem] at hm
    exact hm.2
  · intro h
    have : (rangeL N).filter (fun t => xs.contains t) = rangeL N := by
      rw [List.filter_eq_self]
      intro t ht
      rw [List.contains_iff_mem]
      obtain ⟨h1, h2⟩ := mem_range.1 ht
      obtain ⟨k, rfl⟩ := Int.eq_ofNat_of_zero_le h1
      exact h k (by omega)
    rw [e, this, hl]

section
variable {n : NetL} {i o most : Int} {s : SpaceL} {v : VerdL}

theorem mark_len (h : Whole n (startL n.places i) s) {j : Nat} (hj : j < s.marks.length) : ((markAt s.marks j).length : Int) = n.places := (fits_net (h.fits hj)).2.1

/-- What is sound has, closed, as many marks. -/
theorem close_graph (hS : ShapeOk n i o) (hl : n.trans.length < 24) (hg : graphL n (startL n.places i) most = (s, 0)) (hv : SaysV n (startL n.places o) s v) (hk : v.kind = 1) : ∃ u, graphL (closeL n i o) (startL n.places i) 300 = (u, 0) := by
  obtain ⟨h1, h2, h3⟩ := hv.kind.1 hk
  have hW := graphL_whole hg
  obtain ⟨m1, m2, _, _, hF⟩ := graphL_ok hg
  have hx : ∀ x, ReachZ n (startL n.places i) x → ¬ ExtraM (startL n.places o) x := fun x hr => by
    obtain ⟨g, hgl, rfl⟩ := hW.has hr
    exact h1 g hgl
  have hfit : fitsL (closeL n i o) (startL n.places i) = true := by rw [close_fits hS.ok hl]; exact start_fits hS.ok i
  have := graph_within (n := closeL n i o) (m := startL n.places i) (most := 300) (L := s.marks) (by omega) (by omega) hfit (by have := hF.most_le; omega) (fun x hr => by
    obtain ⟨g, hgl, rfl⟩ := hW.has (reachC_in hx hr)
    exact markAt_mem hgl) (fun x hr => (fits_net (hW.right_of (reachC_in hx hr))).2.2)
  exact this

/-- Van der Aalst. -/
theorem close_live {u : SpaceL} {xs : List Int} (hS : ShapeOk n i o) (hl : n.trans.length < 24) (hg : graphL n (startL n.places i) most = (s, 0)) (hv : SaysV n (startL n.places o) s v) (hu : graphL (closeL n i o) (startL n.places i) 300 = (u, 0))
    (hL : IsLive (toZ u) ((n.trans.length + 1 : Nat) : Int) xs) : v.kind = 1 ↔ xs.length = n.trans.length + 1 := by
  have hW := graphL_whole hg
  have hC := graphL_whole hu
  have hok := close_ok hS.ok hl i o
  have hin : ∀ t ∈ xs, 0 ≤ t ∧ t < ((n.trans.length + 1 : Nat) : Int) := fun t ht => by
    obtain ⟨_, q1, q2, _⟩ := (hL.mem t).1 ht
    omega
  rw [range_all hL.up hin, hv.kind]
  constructor
  · rintro ⟨h1, h2, h3⟩ t ht
    have hx : ∀ x, ReachZ n (startL n.places i) x → ¬ ExtraM (startL n.places o) x := fun x hr => by
      obtain ⟨g, hgl, rfl⟩ := hW.has hr
      exact h1 g hgl
    refine (hL.mem t).2 ⟨hC.right, by omega, by omega, fun k hk0 hk => ?_⟩
    obtain ⟨k, rfl⟩ := Int.eq_ofNat_of_zero_le hk0
    have hk : k < u.marks.length := by
      have : (k : Int) < (u.marks.length : Int) := hk
      omega
    have r0 : ReachZ n (startL n.places i) (markAt u.marks k) := reachC_in hx (hC.iff.2 ⟨k, hk, rfl⟩)
    obtain ⟨g, hgl, eg⟩ := hW.has r0
    have r1 : ReachZ (closeL n i o) (markAt u.marks k) (startL n.places o) := by
      have := h2 g hgl
      rw [eg] at this
      exact reachC this
    by_cases hT : t = n.trans.length
    · obtain ⟨e, he, ee, hc⟩ := hC.reach_comes hk r1
      obtain ⟨a, ha, a1, a2⟩ := hC.has_arc (t := n.trans.length) he (by rw [close_count]; omega) (fun p => by rw [close_last, ee]; exact Int.le_refl _)
      exact ⟨a, ha, by rw [a1, hT], by rw [a2]; exact hc⟩
    · have hnd : ¬ (t : Int) ∈ deadL (toZ s) n.trans.length := by rw [h3]; simp
      have : ∃ a ∈ (toZ s).arcs, a.2.1 = (t : Int) := by
        refine Classical.byContradiction fun q => hnd (mem_dead.2 ⟨by omega, by omega, fun a ha e => q ⟨a, ha, e⟩⟩)
      obtain ⟨a, ha, ea⟩ := this
      obtain ⟨f, t', e1, e2, hf, ht', hcv⟩ := hW.arc_can ha
      have : t' = t := by omega
      subst this
      have r2 : ReachZ (closeL n i o) (markAt u.marks k) (markAt s.marks f) := (r1.step (stepC_end n i o)).trans (reachC (hW.iff.2 ⟨f, hf, rfl⟩))
      obtain ⟨e, he, ee, hc⟩ := hC.reach_comes hk r2
      obtain ⟨b, hb, b1, b2⟩ := hC.has_arc (t := t') he (by rw [close_count]; omega) (fun p => by rw [close_at n i o ht', ee]; exact hcv p)
      exact ⟨b, hb, b1, by rw [b2]; exact hc⟩
  · intro hall
    have live : ∀ t : Nat, t < n.trans.length + 1 → ∀ k : Nat, k < u.marks.length → ∃ (f : Nat), f < u.marks.length ∧ ReachZ (closeL n i o) (markAt u.marks k) (markAt u.marks f) ∧ ∀ p, nth (tranAt (closeL n i o).trans t).pre p ≤ nth (markAt u.marks f) p := by
      intro t ht k hk
      obtain ⟨_, _, _, q⟩ := (hL.mem t).1 (hall t ht)
      obtain ⟨a, ha, e1, hc⟩ := q k (by omega) (by show (k : Int) < (u.marks.length : Int); omega)
      obtain ⟨f, t', e2, e3, hf, ht', hcv⟩ := hC.arc_can ha
      have : t' = t := by omega
      subst this
      obtain ⟨g, eg, hgl, hr⟩ := hC.comes_reach hk hc
      have : g = f := by omega
      subst this
      exact ⟨g, hgl, hr, hcv⟩
    have h1 : ∀ x, ReachZ n (startL n.places i) x → ¬ ExtraM (startL n.places o) x := by
      intro x hr hx
      obtain ⟨hcv, hne⟩ := hx
      have hcv := (coversL_iff _ _).1 hcv
      have hxl : (x.length : Int) = n.places := hr.length hS.ok (start_len hS.ok i)
      have hel := start_len hS.ok o
      have hsl := start_len hS.ok i
      have r : ReachZ (closeL n i o) (startL n.places i) (addL (startL n.places i) (subL x (startL n.places o))) := by
        have := (reachC (i := i) (o := o) hr).step (stepC_last hcv)
        have e : addL (subL x (startL n.places o)) (startL n.places i) = addL (startL n.places i) (subL x (startL n.places o)) := by
          refine eq_of_at (by rw [add_length, add_length]; omega) fun p => ?_
          rw [add_at, add_at]; omega
        rwa [e] at this
      refine no_pump hC (by show ((subL x (startL n.places o)).length : Int) = n.places; rw [sub_length]; omega) (fun p => by rw [sub_at]; have := hcv p; omega) ?_ r
      refine Classical.byContradiction fun q => hne (eq_of_at (by omega) fun p => ?_)
      have : nth (subL x (startL n.places o)) p = 0 := Classical.byContradiction fun z => q ⟨p, z⟩
      rw [sub_at] at this
      omega
    have inN : ∀ f, f < u.marks.length → ReachZ n (startL n.places i) (markAt u.marks f) := fun f hf => reachC_in h1 (hC.iff.2 ⟨f, hf, rfl⟩)
    refine ⟨fun j hj => h1 _ (hW.iff.2 ⟨j, hj, rfl⟩), fun j hj => ?_, ?_⟩
    · have r0 : ReachZ n (startL n.places i) (markAt s.marks j) := hW.iff.2 ⟨j, hj, rfl⟩
      obtain ⟨k, hk, ek⟩ := hC.has (reachC r0)
      obtain ⟨f, hf, hr, hcv⟩ := live n.trans.length (by omega) k hk
      rw [close_last] at hcv
      have e := only_end (h1 _ (inN f hf)) hcv
      rw [ek, e] at hr
      rcases reachC_end h1 r0 hr with q | q
      · exact q
      · exact q
    · rw [List.eq_nil_iff_forall_not_mem]
      intro t ht
      obtain ⟨q1, q2, q3⟩ := mem_dead.1 ht
      obtain ⟨t, rfl⟩ := Int.eq_ofNat_of_zero_le q1
      have htT : t < n.trans.length := by omega
      obtain ⟨f, hf, hr, hcv⟩ := live t (by omega) 0 hC.here.1
      rw [close_at n i o htT] at hcv
      obtain ⟨g, hgl, eg⟩ := hW.has (inN f hf)
      rw [← eg] at hcv
      obtain ⟨a, ha, a1, _⟩ := hW.has_arc hgl htT hcv
      exact q3 a ha a1

end

end Go.Proofs.Ytgedpebnipghlaa

/- Which verdict it is, plainly. -/
namespace Go.Proofs.Ytgedpebnipghlaa
set_option linter.unusedVariables false
set_option maxRecDepth 4000

theorem shape_two {n : NetL} {i o : Int} (h : ShapeOk n i o) : 2 ≤ n.places := by
  have h1 := h.i0
  have h2 := h.o0
  have h3 := h.i1
  have h4 := h.o1
  have h5 := h.ne
  omega
theorem says_extra {n : NetL} {E : List Int} {s : SpaceL} {k : Nat} (hk : k < s.marks.length) (h : ExtraM E (markAt s.marks k)) (h0 : ∀ j, j < k → ¬ ExtraM E (markAt s.marks j)) : SaysV n E s ⟨2, markAt s.marks k, 0⟩ := by
  refine ⟨fun j hj hx hj0 => ?_, fun q => absurd h (q k hk), fun q => absurd h (q k hk), fun q => absurd h (q k hk)⟩
  rcases Nat.lt_trichotomy j k with e | e | e
  · exact absurd hx (h0 j e)
  · rw [e]
  · exact absurd h (hj0 k e)
theorem says_stuck {n : NetL} {E : List Int} {s : SpaceL} {k : Nat} (hx : ∀ j, j < s.marks.length → ¬ ExtraM E (markAt s.marks j)) (hk : k < s.marks.length) (h : ¬ ReachZ n (markAt s.marks k) E) (h0 : ∀ j, j < k → ReachZ n (markAt s.marks j) E) : SaysV n E s ⟨3, markAt s.marks k, 0⟩ := by
  refine ⟨fun j hj q _ => absurd q (hx j hj), fun _ j hj hr hj0 => ?_, fun _ q => absurd (q k hk) h, fun _ q => absurd (q k hk) h⟩
  rcases Nat.lt_trichotomy j k with e | e | e
  · exact absurd (h0 j e) hr
  · rw [e]
  · exact absurd (hj0 k e) h
theorem says_dead {n : NetL} {E : List Int} {s : SpaceL} {t : Int} {ts : List Int} (hx : ∀ j, j < s.marks.length → ¬ ExtraM E (markAt s.marks j)) (hr : ∀ j, j < s.marks.length → ReachZ n (markAt s.marks j) E) (hd : deadL (toZ s) n.trans.length = t :: ts) : SaysV n E s ⟨4, [], t⟩ := by
  refine ⟨fun j hj q _ => absurd q (hx j hj), fun _ j hj q _ => absurd (hr j hj) q, fun _ _ t' ts' e => ?_, fun _ _ e => ?_⟩
  · rw [hd] at e; injection e with e1 _; rw [e1]
  · rw [hd] at e; cases e
theorem says_sound {n : NetL} {E : List Int} {s : SpaceL} (hx : ∀ j, j < s.marks.length → ¬ ExtraM E (markAt s.marks j)) (hr : ∀ j, j < s.marks.length → ReachZ n (markAt s.marks j) E) (hd : deadL (toZ s) n.trans.length = []) : SaysV n E s ⟨1, [], 0⟩ := by
  refine ⟨fun j hj q _ => absurd q (hx j hj), fun _ j hj q _ => absurd (hr j hj) q, fun _ _ t' ts' e => ?_, fun _ _ _ => rfl⟩
  rw [hd] at e; cases e
theorem verd_right {n : NetL} {i o most : Int} {s : SpaceL} {x : VerdL} (hS : ShapeOk n i o) (hg : graphL n (startL n.places i) most = (s, 0)) (h : SaysV n (startL n.places o) s x) : Verd n i o most x 0 := by
  refine ⟨fun q => absurd hS q, fun _ q => ?_, fun _ u hu => ?_⟩
  · rw [hg] at q; exact absurd rfl q
  · rw [hg] at hu; injection hu with e _; subst e; exact ⟨rfl, h⟩
theorem verd_full {n : NetL} {i o most : Int} (hS : ShapeOk n i o) (hg : (graphL n (startL n.places i) most).2 ≠ 0) : Verd n i o most ⟨0, [], 0⟩ (graphL n (startL n.places i) most).2 := by
  refine ⟨fun q => absurd hS q, fun _ _ => ⟨rfl, rfl⟩, fun _ u hu => ?_⟩
  rw [hu] at hg; exact absurd rfl hg

end Go.Proofs.Ytgedpebnipghlaa

/- What is sound comes to its end; what is not is shown so; more room changes nothing. -/
namespace Go.Proofs.Ytgedpebnipghlaa
set_option linter.unusedVariables false
set_option maxRecDepth 4000

section
variable {n : NetL} {i o most : Int} {s : SpaceL} {v : VerdL}

/-- From whatever mark there is room enough. -/
theorem again_most {m : List Int} (hg : graphL n m most = (s, 0)) {x : List Int} (hr : ReachZ n m x) : ∃ u, graphL n x most = (u, 0) := by
  have hW := graphL_whole hg
  obtain ⟨m1, m2, _, _, hF⟩ := graphL_ok hg
  obtain ⟨k, rfl⟩ := Int.eq_ofNat_of_zero_le (show 0 ≤ most by omega)
  exact graph_within (L := s.marks) (by omega) (by omega) (hW.right_of hr) (by have := hF.most_le; rwa [Int.toNat_natCast] at this) (fun y hy => by
    obtain ⟨g, hgl, rfl⟩ := hW.has (hr.trans hy)
    exact markAt_mem hgl) (fun y hy => (fits_net (hW.right_of (hr.trans hy))).2.2)

theorem path_to {m x : List Int} (hg : graphL n m most = (s, 0)) (hr : ReachZ n m x) : ∃ p, reachL n m x most = (p, 0) ∧ runL n m p = (x, 0) := by
  obtain ⟨g, hgl, rfl⟩ := (graphL_whole hg).has hr
  obtain ⟨p, h1, h2, _⟩ := reach_true hg hgl
  exact ⟨p, h1, h2⟩
theorem path_none {m x : List Int} (hg : graphL n m most = (s, 0)) (hr : ¬ ReachZ n m x) : (reachL n m x most).2 = 3 := by
  have hW := graphL_whole hg
  unfold reachL
  rw [hg]
  simp only [BEq.rfl, if_true]
  cases hf : findM s.marks x with
  | none => rfl
  | some g =>
    obtain ⟨h1, h2⟩ := findM_some hf
    exact absurd (hW.iff.2 ⟨g, h1, h2⟩) hr

/-- What is sound always comes to its end. -/
theorem sound_means (hg : graphL n (startL n.places i) most = (s, 0)) (hv : SaysV n (startL n.places o) s v) (hk : v.kind = 1) (seq : List Int) :
    (runL n (startL n.places i) seq).2 = 3 ∨ ∃ x, runL n (startL n.places i) seq = (x, 0) ∧ (∃ p, reachL n x (startL n.places o) most = (p, 0) ∧ runL n x p = (startL n.places o, 0)) ∧ (coversL x (startL n.places o) = true → x = startL n.places o) := by
  obtain ⟨h1, h2, h3⟩ := hv.kind.1 hk
  have hW := graphL_whole hg
  have he := hW.here
  rcases hW.run seq (f := 0) he.1 with q | ⟨g, hgl, e⟩
  · rw [he.2] at q; exact .inl q
  · rw [he.2] at e
    refine .inr ⟨_, e, ?_, fun hc => ?_⟩
    · obtain ⟨u, hu⟩ := again_most hg (hW.iff.2 ⟨g, hgl, rfl⟩)
      exact path_to hu (h2 g hgl)
    · refine Classical.byContradiction fun q => h1 g hgl ⟨hc, q⟩

/-- What is not is shown so. -/
theorem sound_witness (hS : ShapeOk n i o) (hg : graphL n (startL n.places i) most = (s, 0)) (hv : SaysV n (startL n.places o) s v) :
    v.kind = 1 ∨ (v.kind = 2 ∧ (reachL n (startL n.places i) v.at_ most).2 = 0 ∧ coversL v.at_ (startL n.places o) = true ∧ v.at_ ≠ startL n.places o) ∨
    (v.kind = 3 ∧ (reachL n (startL n.places i) v.at_ most).2 = 0 ∧ (reachL n v.at_ (startL n.places o) most).2 = 3) ∨
    (v.kind = 4 ∧ 0 ≤ v.tran ∧ v.tran < n.trans.length ∧ ∀ seq, (runL n (startL n.places i) seq).2 = 0 → v.tran ∉ seq) := by
  have hW := graphL_whole hg
  rcases hv.cases with ⟨k, a1, a2, a3, rfl⟩ | ⟨a1, k, a2, a3, a4, rfl⟩ | ⟨a1, a2, t, ts, a3, rfl⟩ | ⟨a1, a2, a3, rfl⟩
  · obtain ⟨p, h1, _⟩ := path_to hg (hW.iff.2 ⟨k, a1, rfl⟩)
    exact .inr (.inl ⟨rfl, by rw [h1], a2.1, a2.2⟩)
  · obtain ⟨p, h1, _⟩ := path_to hg (hW.iff.2 ⟨k, a2, rfl⟩)
    obtain ⟨u, hu⟩ := again_most hg (hW.iff.2 ⟨k, a2, rfl⟩)
    exact .inr (.inr (.inl ⟨rfl, by rw [h1], path_none hu a3⟩))
  · have ht : t ∈ deadL (toZ s) n.trans.length := by rw [a3]; simp
    obtain ⟨q1, q2, q3⟩ := mem_dead.1 ht
    refine .inr (.inr (.inr ⟨rfl, q1, by show t < _; omega, fun seq hs hin => ?_⟩))
    have he := hW.here
    cases hr : runL n (startL n.places i) seq with
    | mk x cd =>
      rw [hr] at hs
      simp only at hs
      subst hs
      obtain ⟨_, h2⟩ := hW.run_comes seq (i := 0) (k := 0) (z := x) he.1 (Comes.here _) (by rw [he.2]; exact hr)
      obtain ⟨a, ha, e, _⟩ := h2 t hin
      exact q3 (arcZ a) (mem_arcZ.2 ⟨a, ha, rfl⟩) e
  · exact .inl rfl

/-- More room changes no verdict. -/
theorem sound_room {more f : Int} {u : VerdL} (h : Verd n i o most v 0) (k : Verd n i o more u f) (h1 : most ≤ more) (h2 : more ≤ 300) : f = 0 ∧ u = v := by
  obtain ⟨hS, s, hg, hs⟩ := h.zero
  obtain ⟨m1, _, _, _, hF⟩ := graphL_ok hg
  have hr := graph_room hg (more := more) (by omega) h2
  have hml := hF.most_le
  have : graphL n (startL n.places i) more = (s, 0) := by
    rw [hr, if_pos (by omega)]
  obtain ⟨k1, k2⟩ := k.right hS s this
  exact ⟨k1, k2.unique hs⟩

end

end Go.Proofs.Ytgedpebnipghlaa

/- Stops of ways, plainly: where a way goes on, and what is met on ways from a stop. -/
namespace Go.Proofs.Ytgedpebnipghlaa
set_option linter.unusedVariables false
set_option maxRecDepth 4000

/-- A transition (true), or a place. -/
abbrev Stop := Bool × Nat

/-- A stop of a net. -/
def FitS (n : NetL) (s : Stop) : Prop := if s.1 then s.2 < n.trans.length else (s.2 : Int) < n.places

/-- Those below k that q tells of. -/
def somes (b : Bool) (q : Nat → Bool) (k : Nat) : List Stop := ((List.range k).filter q).map fun j => (b, j)
theorem somes_yes (b : Bool) (q : Nat → Bool) (k : Nat) (h : q k = true) : somes b q (k + 1) = somes b q k ++ [(b, k)] := by
  simp [somes, List.range_succ, List.filter_append, h]
theorem somes_no (b : Bool) (q : Nat → Bool) (k : Nat) (h : q k = false) : somes b q (k + 1) = somes b q k := by
  simp [somes, List.range_succ, List.filter_append, h]
theorem somes_le (b : Bool) (q : Nat → Bool) (k : Nat) : (somes b q k).length ≤ k := by
  simp only [somes, List.length_map]
  exact Nat.le_trans (List.length_filter_le _ _) (by simp)
theorem mem_somes {b : Bool} {q : Nat → Bool} {k : Nat} {s : Stop} : s ∈ somes b q k ↔ s.1 = b ∧ s.2 < k ∧ q s.2 = true := by
  obtain ⟨c, j⟩ := s
  simp only [somes, List.mem_map, List.mem_filter, List.mem_range, Prod.mk.injEq]
  constructor
  · rintro ⟨x, ⟨h1, h2⟩, h3, h4⟩
    subst h4
    exact ⟨h3.symm, h1, h2⟩
  · rintro ⟨h1, h2, h3⟩
    exact ⟨j, ⟨h2, h3⟩, h1.symm, rfl⟩

def putsAt (n : NetL) (k p : Nat) : Bool := decide (0 < nth (tranAt n.trans k).post p)
def takesAt (n : NetL) (p k : Nat) : Bool := decide (0 < nth (tranAt n.trans k).pre p)

/-- Where a way can go on from a stop. -/
def behindL (n : NetL) (s : Stop) : List Stop :=
  if s.1 then somes false (putsAt n s.2) (tranAt n.trans s.2).post.length else somes true (takesAt n s.2) n.trans.length

theorem behind_fits {n : NetL} (hn : netOk n = true) {s t : Stop} (hs : FitS n s) (h : t ∈ behindL n s) : FitS n t := by
  obtain ⟨b, k⟩ := s
  cases b with
  | true =>
    have hk : k < n.trans.length := hs
    have h := mem_somes.1 (show t ∈ somes false _ _ from h)
    obtain ⟨c, j⟩ := t
    obtain ⟨rfl, h2, _⟩ := h
    have hl := (tran_length hn hk).2
    show (j : Int) < n.places
    have h2 : j < (tranAt n.trans k).post.length := h2
    omega
  | false =>
    have h := mem_somes.1 (show t ∈ somes true _ _ from h)
    obtain ⟨c, j⟩ := t
    obtain ⟨rfl, h2, _⟩ := h
    exact h2

theorem behind_le {n : NetL} (hn : netOk n = true) {s : Stop} (hs : FitS n s) : (behindL n s).length ≤ 24 := by
  obtain ⟨b, k⟩ := s
  obtain ⟨h0, h1, h2⟩ := head_of hn
  cases b with
  | true =>
    have hk : k < n.trans.length := hs
    have hl := (tran_length hn hk).2
    have := somes_le false (putsAt n k) (tranAt n.trans k).post.length
    show (somes false (putsAt n k) (tranAt n.trans k).post.length).length ≤ 24
    omega
  | false =>
    have := somes_le true (takesAt n k) n.trans.length
    show (somes true (takesAt n k) n.trans.length).length ≤ 24
    omega

/-- What is on ways from a stop. -/
def OnWay (n : NetL) (s t : Stop) : Prop := ∀ Q : Stop → Prop, Q s → (∀ a b, Q a → b ∈ behindL n a → Q b) → Q t
theorem OnWay.here (n : NetL) (s : Stop) : OnWay n s s := fun Q h _ => h
theorem OnWay.step {n : NetL} {s a b : Stop} (h : OnWay n s a) (hb : b ∈ behindL n a) : OnWay n s b := fun Q q1 q2 => q2 a b (h Q q1 q2) hb
theorem OnWay.first {n : NetL} {s a b : Stop} (hb : a ∈ behindL n s) (h : OnWay n a b) : OnWay n s b := h (fun x => OnWay n s x) ((OnWay.here n s).step hb) fun _ _ q e => q.step e
theorem OnWay.fits {n : NetL} (hn : netOk n = true) {s t : Stop} (hs : FitS n s) (h : OnWay n s t) : FitS n t := h (FitS n) hs fun _ _ q e => behind_fits hn q e

/-- What has been met has become more: what is new is on ways from stops of S, and all behind it has been met. -/
structure Went (n : NetL) (S : Stop → Prop) (vs vs' : List Stop) : Prop where
  sub : ∀ x ∈ vs, x ∈ vs'
  new : ∀ x ∈ vs', x ∈ vs ∨ S x
  shut : ∀ x ∈ vs', x ∉ vs → ∀ y ∈ behindL n x, y ∈ vs'

theorem Went.refl (n : NetL) (S : Stop → Prop) (vs : List Stop) : Went n S vs vs := ⟨fun _ h => h, fun _ h => .inl h, fun x h k => absurd h k⟩

theorem Went.trans {n : NetL} {S T : Stop → Prop} {vs us ws : List Stop} (h : Went n S vs us) (g : Went n T us ws) (hT : ∀ x, T x → S x) : Went n S vs ws where
  sub := fun x hx => g.sub x (h.sub x hx)
  new := fun x hx => by
    rcases g.new x hx with k | k
    · exact h.new x k
    · exact .inr (hT x k)
  shut := fun x hx hn y hy => by
    by_cases k : x ∈ us
    · exact g.sub y (h.shut x k hn y hy)
    · exact g.shut x hx k y hy

/-- One stop, and what is behind it. -/
theorem Went.stop {n : NetL} {s : Stop} {vs us : List Stop} (h : Went n (OnWay n s) (vs ++ [s]) us) (hall : ∀ y ∈ behindL n s, y ∈ us) : Went n (OnWay n s) vs us where
  sub := fun x hx => h.sub x (by simp [hx])
  new := fun x hx => by
    rcases h.new x hx with k | k
    · rcases List.mem_append.1 k with k | k
      · exact .inl k
      · have : x = s := by simpa using k
        subst this
        exact .inr (OnWay.here _ _)
    · exact .inr k
  shut := fun x hx hn y hy => by
    by_cases e : x = s
    · subst e; exact hall y hy
    · exact h.shut x hx (by simp [hn, e]) y hy

/-- From nothing: all that is on ways from a stop. -/
theorem Went.all {n : NetL} {s : Stop} {us : List Stop} (h : Went n (OnWay n s) [] us) (hs : s ∈ us) (x : Stop) : x ∈ us ↔ OnWay n s x := by
  constructor
  · intro hx
    rcases h.new x hx with k | k
    · cases k
    · exact k
  · exact fun hx => hx (fun y => y ∈ us) hs fun a b ha hb => h.shut a ha (by simp) b hb

/-- All stops of a net. -/
def allS (n : NetL) : List Stop := ((List.range n.places.toNat).map fun j => (false, j)) ++ (List.range n.trans.length).map fun j => (true, j)
theorem mem_allS {n : NetL} {s : Stop} : s ∈ allS n ↔ FitS n s := by
  obtain ⟨b, k⟩ := s
  cases b <;> simp [allS, FitS]
theorem allS_length {n : NetL} (h : 0 ≤ n.places) : ((allS n).length : Int) = n.places + n.trans.length := by
  simp only [allS, List.length_append, List.length_map, List.length_range]
  omega

theorem nodup_le : ∀ {l1 l2 : List Stop}, l1.Nodup → (∀ x ∈ l1, x ∈ l2) → l1.length ≤ l2.length := by
  intro l1
  induction l1 with
  | nil => intro l2 _ _; simp
  | cons a r ih =>
    intro l2 hn hs
    obtain ⟨h1, h2⟩ := List.nodup_cons.1 hn
    have ha : a ∈ l2 := hs a (by simp)
    have := ih (l2 := l2.erase a) h2 fun x hx => by
      have hne : x ≠ a := fun e => h1 (e ▸ hx)
      exact (List.mem_erase_of_ne hne).2 (hs x (by simp [hx]))
    rw [List.length_erase_of_mem ha] at this
    have := List.length_pos_of_mem ha
    simp only [List.length_cons]
    omega

theorem nodup_full {l1 l2 : List Stop} (hn : l1.Nodup) (hs : ∀ x ∈ l1, x ∈ l2) (hl : l1.length = l2.length) : ∀ x ∈ l2, x ∈ l1 := by
  intro x hx
  apply Classical.byContradiction
  intro hno
  have := nodup_le (l1 := x :: l1) (l2 := l2) (List.nodup_cons.2 ⟨hno, hn⟩) fun y hy => by
    rcases List.mem_cons.1 hy with rfl | hy
    · exact hx
    · exact hs y hy
  simp only [List.length_cons] at this
  omega

theorem allS_nodup (n : NetL) : (allS n).Nodup := by
  unfold allS
  have inj : ∀ b : Bool, ∀ l : List Nat, l.Nodup → (l.map fun j => (b, j)).Nodup := by
    intro b l h
    rw [List.nodup_iff_pairwise_ne] at h
    simp only [List.nodup_iff_pairwise_ne, List.pairwise_map, ne_eq, Prod.mk.injEq, true_and]
    exact h
  rw [List.nodup_append]
  refine ⟨inj _ _ List.nodup_range, inj _ _ List.nodup_range, ?_⟩
  intro a ha b hb e
  subst e
  simp only [List.mem_map] at ha hb
  obtain ⟨_, _, rfl⟩ := ha
  obtain ⟨_, _, e⟩ := hb
  injection e with e _
  cases e

/-- As many were met as there are: all were. -/
theorem met_all {n : NetL} (hn : netOk n = true) {s : Stop} (hs : FitS n s) {us : List Stop} (hd : us.Nodup) (hm : ∀ x, x ∈ us ↔ OnWay n s x) :
    ((us.length : Int) = n.places + n.trans.length) ↔ ∀ x, FitS n x → OnWay n s x := by
  have hl := allS_length (head_of hn).1
  constructor
  · intro e x hx
    refine (hm x).1 (nodup_full hd (fun y hy => mem_allS.2 ((hm y).1 hy |>.fits hn hs)) (by omega) x (mem_allS.2 hx))
  · intro h
    have h1 := nodup_le hd fun y hy => mem_allS.2 (((hm y).1 hy).fits hn hs)
    have h2 := nodup_le (allS_nodup n) fun y hy => (hm y).2 (h y (mem_allS.1 hy))
    omega

theorem nth_in {xs : List Int} {p : Nat} (h : nth xs p ≠ 0) : p < xs.length := by
  rcases Nat.lt_or_ge p xs.length with h1 | h1
  · exact h1
  · exact absurd (nth_past _ _ h1) h

/-- Ways by stops are ways by places. -/
theorem onWay_place {n : NetL} (hn : netOk n = true) {f p : Nat} : OnWay n (false, f) (false, p) ↔ WayP n f p := by
  constructor
  · intro h
    have := h (fun s => if s.1 then WayT n f s.2 ∧ s.2 < n.trans.length else WayP n f s.2) (WayP.here n f) fun a b ha hb => by
      obtain ⟨ba, ka⟩ := a
      obtain ⟨bb, kb⟩ := b
      cases ba with
      | true =>
        obtain ⟨e, h2, h3⟩ := mem_somes.1 (show (bb, kb) ∈ somes false _ _ from hb)
        simp only at e
        subst e
        obtain ⟨⟨q, hq, hq2⟩, hk⟩ := ha
        have h3 : 0 < nth (tranAt n.trans ka).post kb := of_decide_eq_true h3
        exact hq.step hk hq2 (Int.ne_of_gt h3)
      | false =>
        obtain ⟨e, h2, h3⟩ := mem_somes.1 (show (bb, kb) ∈ somes true _ _ from hb)
        simp only at e
        subst e
        have h3 : 0 < nth (tranAt n.trans kb).pre ka := of_decide_eq_true h3
        exact ⟨⟨ka, ha, Int.ne_of_gt h3⟩, h2⟩
    exact this
  · intro h
    refine h (fun p => OnWay n (false, f) (false, p)) (OnWay.here _ _) fun k a b hk ha h1 h2 => ?_
    have r := tran_right (net_tran hn hk)
    have p1 := (okTok_nth r.1 a).1
    have p2 := (okTok_nth r.2 b).1
    have e1 : 0 < nth (tranAt n.trans k).pre a := by omega
    have e2 : 0 < nth (tranAt n.trans k).post b := by omega
    exact (ha.step (b := (true, k)) (mem_somes.2 ⟨rfl, hk, decide_eq_true e1⟩)).step (mem_somes.2 ⟨rfl, nth_in h2, decide_eq_true e2⟩)

theorem onWay_tran {n : NetL} (hn : netOk n = true) {f k : Nat} (hk : k < n.trans.length) : OnWay n (false, f) (true, k) ↔ WayT n f k := by
  constructor
  · intro h
    have := h (fun s => if s.1 then WayT n f s.2 ∧ s.2 < n.trans.length else OnWay n (false, f) (false, s.2)) (OnWay.here _ _) fun a b ha hb => by
      obtain ⟨ba, ka⟩ := a
      obtain ⟨bb, kb⟩ := b
      cases ba with
      | true =>
        obtain ⟨e, h2, h3⟩ := mem_somes.1 (show (bb, kb) ∈ somes false _ _ from hb)
        simp only at e
        subst e
        obtain ⟨⟨q, hq, hq2⟩, hk2⟩ := ha
        have h3 : 0 < nth (tranAt n.trans ka).post kb := of_decide_eq_true h3
        exact (onWay_place hn).2 (hq.step hk2 hq2 (Int.ne_of_gt h3))
      | false =>
        obtain ⟨e, h2, h3⟩ := mem_somes.1 (show (bb, kb) ∈ somes true _ _ from hb)
        simp only at e
        subst e
        have h3 : 0 < nth (tranAt n.trans kb).pre ka := of_decide_eq_true h3
        exact ⟨⟨ka, (onWay_place hn).1 ha, Int.ne_of_gt h3⟩, h2⟩
    exact this.1
  · rintro ⟨p, hp, h1⟩
    have r := tran_right (net_tran hn hk)
    have p1 := (okTok_nth r.1 p).1
    have e1 : 0 < nth (tranAt n.trans k).pre p := by omega
    exact ((onWay_place hn).2 hp).step (mem_somes.2 ⟨rfl, hk, decide_eq_true e1⟩)

theorem onWay_all {n : NetL} (hn : netOk n = true) {f : Nat} : (∀ x, FitS n x → OnWay n (false, f) x) ↔ (∀ p : Nat, (p : Int) < n.places → WayP n f p) ∧ ∀ k, k < n.trans.length → WayT n f k := by
  constructor
  · intro h
    exact ⟨fun p hp => (onWay_place hn).1 (h (false, p) hp), fun k hk => (onWay_tran hn hk).1 (h (true, k) hk)⟩
  · rintro ⟨h1, h2⟩ ⟨b, k⟩ hx
    cases b with
    | true => exact (onWay_tran hn hx).2 (h2 k hx)
    | false => exact (onWay_place hn).2 (h1 k hx)

end Go.Proofs.Ytgedpebnipghlaa

/- Which places and transitions are behind a place, reckoned round by round. -/
namespace Go.Proofs.Ytgedpebnipghlaa
set_option linter.unusedVariables false
set_option maxRecDepth 4000

/-- What is known so far: of places, of transitions. -/
structure WayS where
  ps : Nat → Bool
  ts : Nat → Bool

/-- Does one of the first j places lead to a transition? -/
def leadTo (ps : Nat → Bool) (w : List Int) (b : Bool) : Nat → Bool
  | 0 => b
  | j + 1 => leadTo ps w b j || (ps j && decide (0 < nth w j))
/-- The first j places that a transition leads to. -/
def feedTo (ps : Nat → Bool) (w : List Int) (b : Bool) (j : Nat) : Nat → Bool := fun q => ps q || (decide (q < j) && (b && decide (0 < nth w q)))
def setAt (ts : Nat → Bool) (k : Nat) (b : Bool) : Nat → Bool := fun j => if j = k then b else ts j

def tranWay (n : NetL) (s : WayS) (k : Nat) : WayS :=
  ⟨feedTo s.ps (tranAt n.trans k).post (leadTo s.ps (tranAt n.trans k).pre (s.ts k) n.places.toNat) n.places.toNat, setAt s.ts k (leadTo s.ps (tranAt n.trans k).pre (s.ts k) n.places.toNat)⟩
def roundWay (n : NetL) (s : WayS) : Nat → WayS
  | 0 => s
  | k + 1 => tranWay n (roundWay n s k) k
def startWay (f : Nat) : WayS := ⟨fun q => decide (q = f), fun _ => false⟩
def waysTo (n : NetL) (f : Nat) : Nat → WayS
  | 0 => startWay f
  | r + 1 => roundWay n (waysTo n f r) n.trans.length
def waysL (n : NetL) (f : Nat) : WayS := waysTo n f (n.places.toNat + n.trans.length)

theorem lead_mono {ps : Nat → Bool} {w : List Int} {b : Bool} (h : b = true) (j : Nat) : leadTo ps w b j = true := by
  induction j with
  | zero => exact h
  | succ j ih => unfold leadTo; rw [ih]; rfl
theorem lead_iff {ps : Nat → Bool} {w : List Int} {b : Bool} (j : Nat) : leadTo ps w b j = true ↔ b = true ∨ ∃ q, q < j ∧ ps q = true ∧ 0 < nth w q := by
  induction j with
  | zero => simp [leadTo]
  | succ j ih =>
    unfold leadTo
    rw [Bool.or_eq_true, ih, Bool.and_eq_true, decide_eq_true_eq]
    constructor
    · rintro ((h | ⟨q, h1, h2⟩) | ⟨h1, h2⟩)
      · exact .inl h
      · exact .inr ⟨q, by omega, h2⟩
      · exact .inr ⟨j, by omega, h1, h2⟩
    · rintro (h | ⟨q, h1, h2⟩)
      · exact .inl (.inl h)
      · by_cases e : q = j
        · subst e; exact .inr h2
        · exact .inl (.inr ⟨q, by omega, h2⟩)
theorem feed_iff {ps : Nat → Bool} {w : List Int} {b : Bool} {j q : Nat} : feedTo ps w b j q = true ↔ ps q = true ∨ (q < j ∧ b = true ∧ 0 < nth w q) := by
  unfold feedTo
  rw [Bool.or_eq_true, Bool.and_eq_true, Bool.and_eq_true, decide_eq_true_eq, decide_eq_true_eq]

/-- Nothing that was known is lost. -/
structure WayLe (s u : WayS) : Prop where
  ps : ∀ q, s.ps q = true → u.ps q = true
  ts : ∀ k, s.ts k = true → u.ts k = true
theorem WayLe.refl (s : WayS) : WayLe s s := ⟨fun _ h => h, fun _ h => h⟩
theorem WayLe.trans {s u v : WayS} (h : WayLe s u) (k : WayLe u v) : WayLe s v := ⟨fun q h1 => k.ps q (h.ps q h1), fun q h1 => k.ts q (h.ts q h1)⟩
theorem WayLe.eq {s u : WayS} (h : WayLe s u) (k : WayLe u s) : s = u := by
  cases s with
  | mk p t =>
    cases u with
    | mk p2 t2 =>
      have e1 : p = p2 := by funext q; rw [Bool.eq_iff_iff]; exact ⟨h.ps q, k.ps q⟩
      have e2 : t = t2 := by funext q; rw [Bool.eq_iff_iff]; exact ⟨h.ts q, k.ts q⟩
      rw [e1, e2]
theorem tran_le (n : NetL) (s : WayS) (k : Nat) : WayLe s (tranWay n s k) := by
  refine ⟨fun q h => feed_iff.2 (.inl h), fun j h => ?_⟩
  show setAt s.ts k _ j = true
  unfold setAt
  split
  · rename_i e; subst e; exact lead_mono h _
  · exact h
theorem round_le (n : NetL) (s : WayS) : ∀ k, WayLe s (roundWay n s k)
  | 0 => WayLe.refl s
  | k + 1 => (round_le n s k).trans (tran_le n _ k)

/-- What is known is so. -/
structure WaySound (n : NetL) (f : Nat) (s : WayS) : Prop where
  ps : ∀ q, s.ps q = true → WayP n f q
  ts : ∀ k, k < n.trans.length → s.ts k = true → WayT n f k
theorem sound_start (n : NetL) (f : Nat) : WaySound n f (startWay f) := by
  refine ⟨fun q h => ?_, fun k _ h => by cases h⟩
  have : q = f := of_decide_eq_true h
  subst this; exact WayP.here n q
theorem sound_tran {n : NetL} {f : Nat} {s : WayS} (h : WaySound n f s) {k : Nat} (hk : k < n.trans.length) : WaySound n f (tranWay n s k) := by
  have hb : leadTo s.ps (tranAt n.trans k).pre (s.ts k) n.places.toNat = true → WayT n f k := fun q => by
    rcases (lead_iff _).1 q with q | ⟨a, h1, h2, h3⟩
    · exact h.ts k hk q
    · exact ⟨a, h.ps a h2, by omega⟩
  refine ⟨fun q hq => ?_, fun j hj hq => ?_⟩
  · rcases feed_iff.1 hq with q1 | ⟨h1, h2, h3⟩
    · exact h.ps q q1
    · obtain ⟨a, h4, h5⟩ := hb h2
      exact h4.step hk h5 (by omega)
  · have hq : setAt s.ts k _ j = true := hq
    unfold setAt at hq
    split at hq
    · rename_i e; subst e; exact hb hq
    · exact h.ts j hj hq
theorem sound_round {n : NetL} {f : Nat} {s : WayS} (h : WaySound n f s) : ∀ k, k ≤ n.trans.length → WaySound n f (roundWay n s k)
  | 0, _ => h
  | k + 1, hk => sound_tran (sound_round h k (by omega)) (by omega)
theorem sound_ways (n : NetL) (f : Nat) : ∀ r, WaySound n f (waysTo n f r)
  | 0 => sound_start n f
  | r + 1 => sound_round (sound_ways n f r) _ (Nat.le_refl _)

/-- How much is not known yet. -/
def gapOf (g : Nat → Bool) (k : Nat) : Nat := ((List.range k).filter fun j => !g j).length
theorem gap_zero (g : Nat → Bool) : gapOf g 0 = 0 := rfl
theorem gap_succ (g : Nat → Bool) (k : Nat) : gapOf g (k + 1) = gapOf g k + (if g k = true then 0 else 1) := by
  unfold gapOf
  rw [List.range_succ, List.filter_append, List.length_append]
  congr 1
  cases h : g k <;> simp [h]
theorem gap_le (g : Nat → Bool) (k : Nat) : gapOf g k ≤ k := by
  induction k with
  | zero => exact Nat.le_refl _
  | succ k ih => rw [gap_succ]; split <;> omega
theorem gap_some {g : Nat → Bool} {k j : Nat} (hj : j < k) (h : g j = true) : gapOf g k + 1 ≤ k := by
  induction k with
  | zero => omega
  | succ k ih =>
    rw [gap_succ]
    by_cases e : j = k
    · subst e; rw [if_pos h]; have := gap_le g j; omega
    · have := ih (by omega)
      split <;> omega
theorem gap_mono {g h : Nat → Bool} (hm : ∀ j, g j = true → h j = true) (k : Nat) : gapOf h k ≤ gapOf g k := by
  induction k with
  | zero => exact Nat.le_refl _
  | succ k ih =>
    rw [gap_succ, gap_succ]
    have := hm k
    by_cases e : g k = true
    · rw [if_pos e, if_pos (this e)]; exact ih
    · rw [if_neg e]; split <;> omega
theorem gap_same {g h : Nat → Bool} (hm : ∀ j, g j = true → h j = true) (k : Nat) (he : gapOf g k ≤ gapOf h k) : ∀ j, j < k → h j = true → g j = true := by
  induction k with
  | zero => intro j hj; omega
  | succ k ih =>
    rw [gap_succ, gap_succ] at he
    have hk := gap_mono hm k
    intro j hj hh
    by_cases e : j = k
    · subst e
      by_cases q : g j = true
      · exact q
      · rw [if_neg q, if_pos hh] at he; omega
    · refine ih ?_ j (by omega) hh
      by_cases q : g k = true
      · rw [if_pos q, if_pos (hm k q)] at he; omega
      · rw [if_neg q] at he; split at he <;> omega

theorem tran_out (n : NetL) (s : WayS) (k : Nat) : (∀ q, n.places.toNat ≤ q → (tranWay n s k).ps q = s.ps q) ∧ (∀ j, j ≠ k → (tranWay n s k).ts j = s.ts j) := by
  refine ⟨fun q hq => ?_, fun j hj => ?_⟩
  · show feedTo _ _ _ _ q = _
    unfold feedTo
    rw [decide_eq_false (by omega)]
    simp
  · show setAt _ _ _ j = _
    unfold setAt
    rw [if_neg hj]
theorem round_out (n : NetL) (s : WayS) : ∀ k, (∀ q, n.places.toNat ≤ q → (roundWay n s k).ps q = s.ps q) ∧ (∀ j, k ≤ j → (roundWay n s k).ts j = s.ts j)
  | 0 => ⟨fun _ _ => rfl, fun _ _ => rfl⟩
  | k + 1 => by
    obtain ⟨h1, h2⟩ := round_out n s k
    obtain ⟨h3, h4⟩ := tran_out n (roundWay n s k) k
    exact ⟨fun q hq => (h3 q hq).trans (h1 q hq), fun j hj => (h4 j (by omega)).trans (h2 j (by omega))⟩

def gapW (n : NetL) (s : WayS) : Nat := gapOf s.ps n.places.toNat + gapOf s.ts n.trans.length
/-- A round that tells nothing new changes nothing. -/
theorem round_same {n : NetL} {s : WayS} (h : gapW n s ≤ gapW n (roundWay n s n.trans.length)) : roundWay n s n.trans.length = s := by
  have hle := round_le n s n.trans.length
  have m1 := gap_mono hle.ps n.places.toNat
  have m2 := gap_mono hle.ts n.trans.length
  unfold gapW at h
  obtain ⟨o1, o2⟩ := round_out n s n.trans.length
  refine (hle.eq ⟨fun q hq => ?_, fun k hk => ?_⟩).symm
  · by_cases e : q < n.places.toNat
    · exact gap_same hle.ps n.places.toNat (by omega) q e hq
    · rw [← o1 q (by omega)]; exact hq
  · by_cases e : k < n.trans.length
    · exact gap_same hle.ts n.trans.length (by omega) k e hk
    · rw [← o2 k (by omega)]; exact hk
theorem round_end (n : NetL) (f : Nat) (hf : f < n.places.toNat) : ∀ r, roundWay n (waysTo n f r) n.trans.length = waysTo n f r ∨ gapW n (waysTo n f r) + r + 1 ≤ n.places.toNat + n.trans.length
  | 0 => by
    right
    have h1 := gap_some (g := (startWay f).ps) (k := n.places.toNat) (j := f) hf (decide_eq_true rfl)
    have h2 := gap_le (startWay f).ts n.trans.length
    show gapOf _ _ + gapOf _ _ + 0 + 1 ≤ _
    show gapOf (startWay f).ps n.places.toNat + gapOf (startWay f).ts n.trans.length + 0 + 1 ≤ _
    omega
  | r + 1 => by
    rcases round_end n f hf r with h | h
    · left
      show roundWay n (roundWay n (waysTo n f r) n.trans.length) n.trans.length = roundWay n (waysTo n f r) n.trans.length
      rw [h, h]
    · by_cases e : gapW n (waysTo n f r) ≤ gapW n (roundWay n (waysTo n f r) n.trans.length)
      · left
        have h1 := round_same e
        show roundWay n (roundWay n (waysTo n f r) n.trans.length) n.trans.length = roundWay n (waysTo n f r) n.trans.length
        rw [h1, h1]
      · right
        show gapW n (roundWay n (waysTo n f r) n.trans.length) + (r + 1) + 1 ≤ _
        omega
theorem ways_stable (n : NetL) (f : Nat) (hf : f < n.places.toNat) : roundWay n (waysL n f) n.trans.length = waysL n f := by
  rcases round_end n f hf (n.places.toNat + n.trans.length) with h | h
  · exact h
  · omega
/-- Where a round changes nothing, no transition does. -/
theorem stable_tran {n : NetL} {s : WayS} (h : roundWay n s n.trans.length = s) {k : Nat} (hk : k < n.trans.length) : tranWay n s k = s := by
  have up : ∀ j d, WayLe (roundWay n s j) (roundWay n s (j + d)) := by
    intro j d
    induction d with
    | zero => exact WayLe.refl _
    | succ d ih => exact ih.trans (tran_le n _ _)
  have at_ : ∀ j, j ≤ n.trans.length → roundWay n s j = s := by
    intro j hj
    have h1 := up j (n.trans.length - j)
    rw [show j + (n.trans.length - j) = n.trans.length by omega, h] at h1
    exact (h1.eq (round_le n s j))
  have h1 := at_ (k + 1) (by omega)
  have h2 := at_ k (by omega)
  have h3 : roundWay n s (k + 1) = tranWay n (roundWay n s k) k := rfl
  rw [h2] at h3
  rw [← h3, h1]
theorem ways_le (n : NetL) (f : Nat) : ∀ r, WayLe (startWay f) (waysTo n f r)
  | 0 => WayLe.refl _
  | r + 1 => (ways_le n f r).trans (round_le n _ _)

/-- All that is behind a place is known in the end. -/
theorem ways_iff {n : NetL} (hn : netOk n = true) {f : Nat} (hf : (f : Int) < n.places) : (∀ q, (waysL n f).ps q = true ↔ WayP n f q) ∧ (∀ k, k < n.trans.length → ((waysL n f).ts k = true ↔ WayT n f k)) := by
  have hs := ways_stable n f (by omega)
  have hsd := sound_ways n f (n.places.toNat + n.trans.length)
  have lead : ∀ k a, k < n.trans.length → (waysL n f).ps a = true → nth (tranAt n.trans k).pre a ≠ 0 → (waysL n f).ts k = true := by
    intro k a hk ha h0
    have e := congrArg WayS.ts (stable_tran hs hk)
    have e2 := congrFun e k
    have e3 : (tranWay n (waysL n f) k).ts k = leadTo (waysL n f).ps (tranAt n.trans k).pre ((waysL n f).ts k) n.places.toNat := by
      show setAt _ _ _ k = _
      unfold setAt
      rw [if_pos rfl]
    rw [← e2, e3, lead_iff]
    have hl := (tran_length hn hk).1
    have hb := (okTok_nth (tran_right (net_tran hn hk)).1 a).1
    refine .inr ⟨a, ?_, ha, by omega⟩
    rcases Nat.lt_or_ge a (tranAt n.trans k).pre.length with q | q
    · omega
    · exact absurd (nth_past _ _ q) h0
  have feed : ∀ k b, k < n.trans.length → (waysL n f).ts k = true → nth (tranAt n.trans k).post b ≠ 0 → (waysL n f).ps b = true := by
    intro k b hk ht h0
    have e := congrArg WayS.ps (stable_tran hs hk)
    have e2 := congrFun e b
    rw [← e2]
    have hl := (tran_length hn hk).2
    have hb := (okTok_nth (tran_right (net_tran hn hk)).2 b).1
    refine feed_iff.2 (.inr ⟨?_, lead_mono ht _, by omega⟩)
    rcases Nat.lt_or_ge b (tranAt n.trans k).post.length with q | q
    · omega
    · exact absurd (nth_past _ _ q) h0
  have full : ∀ q, WayP n f q → (waysL n f).ps q = true := fun q hq =>
    hq (fun q => (waysL n f).ps q = true) ((ways_le n f _).ps f (decide_eq_true rfl)) fun k a b hk ha h1 h2 => feed k b hk (lead k a hk ha h1) h2
  refine ⟨fun q => ⟨hsd.ps q, full q⟩, fun k hk => ⟨hsd.ts k hk, ?_⟩⟩
  rintro ⟨a, h1, h2⟩
  exact lead k a hk (full a h1) h2

end Go.Proofs.Ytgedpebnipghlaa

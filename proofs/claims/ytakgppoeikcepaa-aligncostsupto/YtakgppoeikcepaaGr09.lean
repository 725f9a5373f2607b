import Derived.Test.YtakgppoeikcepaaGr00
import Derived.Lib.SliceRun
import Derived.Test.YtakgppoeikcepaaGr05
import Derived.Test.YtakgppoeikcepaaGr04
/- More of package slices over slices of ints: a copy, whether a number is there. -/
namespace Go.Proofs.Ytakgppoeikcepaa
open Go.RowKit
set_option linter.unusedVariables false
set_option maxRecDepth 4000

set_option maxHeartbeats 400000 in
theorem clone_any (v : Value) (xs : List Int) (w : World) (h : Ints w v xs) :
    Calls Try.prog 13 #[v] w fun e w' => ∃ r, e = .returned r ∧ Own w.heap.size w w' r xs := by
  have h' := h
  obtain ⟨a, len, cap, rfl, hlen, hmx, hsh, hr⟩ := h
  cases a with
  | none =>
    have hc0 : cap = 0 := hsh.2.2 rfl
    have hl0 : len = 0 := by have := hsh.1; omega
    subst hc0 hl0
    have hy : xs = [] := List.length_eq_zero_iff.1 hlen
    subst hy
    clear hr h' hsh
    have q22 : ∀ (w : World) (a : Option Addr) (n c n' c' : Nat), (binOp .eql 25 (.slice a n c) (.slice none n' c')).run Try.prog w = .ok (.bool a.isNone) w := fun w a n c n' c' => Lib.run_eql_slice_nil w _ _ a n c n' c' Try.underlying25
    go_enter Try.func13, Try.ntmps13
    go_wp2
    go_ret
    exact ⟨_, rfl, Own.nil _⟩
  | some ad =>
    have hn := below_new w (.cells #[] 3)
    have hG : Own w.heap.size w (w.alloc (.cells #[] 3)) (.slice (some ⟨w.heap.size, 0, none⟩) 0 0) [] :=
      ⟨World.ownsRow_made w #[] 0 (Nat.le_refl _) (by unfold maxLen; omega) rfl, hn, by simp⟩
    have h2 := h'.below hn
    have HL : Hid (([] : List Int).length + xs.length ≤ 17592186044416) := by show _ ≤ _; simp; omega
    clear hr h' hsh hlen
    have q22 : ∀ (w : World) (a : Option Addr) (n c n' c' : Nat), (binOp .eql 25 (.slice a n c) (.slice none n' c')).run Try.prog w = .ok (.bool a.isNone) w := fun w a n c n' c' => Lib.run_eql_slice_nil w _ _ a n c n' c' Try.underlying25
    go_enter Try.func13, Try.ntmps13
    go_wp2_with (at_builtin; refine wp_append_ints rfl _ _ rfl w.heap.size w _ _ _ [] xs hG (by rfl) (by rfl) h2 HL.out ?_; intro v' w2 hG2)
    have R : Own w.heap.size w w2 v' xs := by simpa using hG2
    clear hG hG2 h2
    go_wp2
    go_ret
    exact ⟨_, rfl, R⟩

/-- Whether a number is there. -/
def hasL (xs : List Int) (x : Int) : Bool := xs.contains x
def anyL (xs : List Int) (p : Int → Bool) : Bool := xs.any p

/-- It is at none of the first k places. -/
def idxTo (xs : List Int) (x : Int) (k : Nat) : Prop := ∀ j, j < k → nth xs j ≠ x

theorem contains_of_nth {xs : List Int} {x : Int} {k : Nat} (hk : k < xs.length) (h : nth xs k = x) : hasL xs x = true := by
  unfold hasL
  rw [List.contains_iff_mem, ← h]
  simp [nth, List.getD, List.getElem?_eq_getElem hk]
theorem not_contains {xs : List Int} {x : Int} (h : idxTo xs x xs.length) : hasL xs x = false := by
  unfold hasL
  rw [Bool.eq_false_iff]
  intro hc
  rw [List.contains_iff_mem] at hc
  obtain ⟨j, hj, e⟩ := List.mem_iff_getElem.1 hc
  exact h j hj (by simp [nth, List.getD, List.getElem?_eq_getElem hj, e])
theorem idxTo_succ {xs : List Int} {x : Int} {k : Nat} (h : idxTo xs x k) (hn : nth xs k ≠ x) : idxTo xs x (k + 1) := by
  intro j hj
  by_cases hjk : j < k
  · exact h j hjk
  · obtain rfl : j = k := by omega
    exact hn

/-- Function g of an int answers whether p. -/
def Asks1 (g : Nat) (p : Int → Bool) : Prop := ∀ x w, Calls Try.prog g #[.int .i64 x] w fun e w' => e = .returned (.bool (p x)) ∧ w' = w

def noneTo (xs : List Int) (p : Int → Bool) (k : Nat) : Prop := ∀ j, j < k → p (nth xs j) = false
theorem any_of_nth {xs : List Int} {p : Int → Bool} {k : Nat} (hk : k < xs.length) (h : p (nth xs k) = true) : anyL xs p = true := by
  unfold anyL
  rw [List.any_eq_true]
  exact ⟨nth xs k, by simp [nth, List.getD, List.getElem?_eq_getElem hk], h⟩
theorem not_any {xs : List Int} {p : Int → Bool} (h : noneTo xs p xs.length) : anyL xs p = false := by
  unfold anyL
  rw [List.any_eq_false]
  intro x hx
  obtain ⟨j, hj, e⟩ := List.mem_iff_getElem.1 hx
  have := h j hj
  simp only [nth, List.getD, List.getElem?_eq_getElem hj, e, Option.getD_some] at this
  simp [this]
theorem noneTo_succ {xs : List Int} {p : Int → Bool} {k : Nat} (h : noneTo xs p k) (hn : p (nth xs k) = false) : noneTo xs p (k + 1) := by
  intro j hj
  by_cases hjk : j < k
  · exact h j hjk
  · obtain rfl : j = k := by omega
    exact hn

end Go.Proofs.Ytakgppoeikcepaa

/- Package net, as it landed: who can, one fires, one behind the other. -/
namespace Go.Proofs.Ytakgppoeikcepaa
open Go.RowKit
set_option linter.unusedVariables false
set_option maxRecDepth 4000

theorem covers_b (v u : Value) (xs ys : List Int) (w : World) (hv : Ints w v xs) (hu : Ints w u ys) :
    Calls Try.prog 61 #[v, u] w fun e w' => e = .returned (.bool (coversL xs ys)) ∧ Below w.heap.size w w' :=
  (covers_any v u xs ys w hv hu).mono fun _ _ h => ⟨h.1, by rw [h.2]; exact Below.refl _ _⟩

set_option maxHeartbeats 1000000 in
theorem net_enabled (v u : Value) (n : NetL) (m : List Int) (w : World) (hv : Net w v n) (hu : Ints w u m) :
    Calls Try.prog 74 #[v, u] w fun e w' => Gives w (canL n m) e w' := by
  obtain ⟨tv, rfl, hT⟩ := hv
  have b1 := below_new w (.cells #[.int .i64 n.places, tv] 24)
  have hbx := box2_new w (.int .i64 n.places) tv 24
  have hu1 := hu.below b1
  have hv1 : Net _ _ n := ⟨tv, rfl, hT.below b1⟩
  go_enter Try.func74, Try.ntmps74
  go_wp2_with fail
  refine (marks_any _ _ n m _ (by exact hv1) (by exact hu1)).mono ?_
  rintro e w1 ⟨rfl, b2⟩
  have b3 := below_then b1 b2
  have hu2 := hu1.below b2
  have hT2 := (hT.below b1).below b2
  have hbx2 := hbx.below b2
  clear b1 b2 hbx hu1 hv1 hT
  cases hf : fitsL n m
  · go_wp2
    go_ret2
    exact gives_of (canL_no hf) (Ints.nil _) b3
  · have HF : Hid _ := canL_yes hf
    clear hf
    obtain ⟨hx0, hx1, hx2⟩ := hbx2
    have hT3 := hT2
    obtain ⟨a, len, cap, rfl, hlen, hmx, hsh, hr⟩ := hT2
    clear hr
    go_wp2_with fail
    go_loopg [6, 16] len (fun g o i wr => ∃ k : Nat, k + g = len ∧ i = .int .i64 k ∧ Own w1.heap.size w1 wr o (canTo n m k))
    case atStart => exact ⟨0, by omega, rfl, Own.nil _⟩
    case round =>
      clear hx0 hx1 hx2
      obtain ⟨k, hkg, rfl, hG⟩ := hrel
      by_cases hkn : k < len
      · obtain ⟨b, off, c1, c2, rfl, hblt, h0, h1, h2, i1, i2⟩ := (hT3.below hG.2.1).at hkn
        have hle := canTo_le n m k
        have hu3 := hu2.below hG.2.1
        have Hy : Hid _ := canTo_yes n m k
        have Hn : Hid _ := canTo_no n m k
        have j1 := i1
        have j2 := i2
        obtain ⟨a1, l1, p1, rfl, _, _, _, _⟩ := j1
        obtain ⟨a2, l2, p2, rfl, _, _, _, _⟩ := j2
        have hbn := below_new wr (.cells #[.int .i64 (tranAt n.trans k).label, .slice a1 l1 p1, .slice a2 l2 p2] 37)
        generalize tranAt n.trans k = t at *
        have hG1 := hG.trans hbn
        go_wp2_with fail
        refine (covers_b _ _ m t.pre _ (by exact hu3.below hbn) (by exact i1.below hbn)).mono ?_
        rintro e w2 ⟨rfl, hb2⟩
        have hG2 := hG1.trans hb2
        clear hG hG1 hbn hb2 h0 h1 h2 i1 i2 hu3
        cases hc : coversL m t.pre
        · have R := hG2
          rw [← Hn.out hc] at R
          clear hG2
          go_wp2
          go_roundg (gk - 1)
          case measure => omega
          case rel => exact ⟨k + 1, by omega, by go_num, R⟩
        · go_wp2_with (at_builtin; refine wp_append_int rfl _ _ rfl w1.heap.size w1 _ _ _ (k : Int) hG2 rfl rfl (by omega) ?_; intro v' w3 hG3)
          have R : Own w1.heap.size w1 w3 v' (canTo n m (k + 1)) := by rw [Hy.out hc]; exact hG3
          clear hG2 hG3
          go_wp2
          go_roundg (gk - 1)
          case measure => omega
          case rel => exact ⟨k + 1, by omega, by go_num, R⟩
      · have hk : k = n.trans.length := by omega
        have hle := canTo_le n m k
        have R := hG.ints (by omega)
        have R2 := below_then b3 hG.2.1
        have E : Hid (canL n m = (canTo n m k, 0)) := by rw [hk]; exact HF.out
        clear hG hk
        go_wp2
        go_ret2
        exact gives_of E.out R R2

set_option maxHeartbeats 1000000 in
theorem fired_any (v u : Value) (n : NetL) (m : List Int) (t : Int) (w : World) (hv : Net w v n) (hu : Ints w u m) (hf : fitsL n m = true) :
    Calls Try.prog 24 #[v, u, .int .i64 t] w fun e w' => Gives w (fireL n m t) e w' := by
  obtain ⟨tv, rfl, hT⟩ := hv
  have b1 := below_new w (.cells #[.int .i64 n.places, tv] 24)
  have hbx := box2_new w (.int .i64 n.places) tv 24
  replace hu := hu.below b1
  replace hT := hT.below b1
  obtain ⟨hno, _, hrm⟩ := fits_net hf
  obtain ⟨w0, Hw0⟩ : ∃ w0, Hid (w.alloc (.cells #[.int .i64 n.places, tv] 24) = w0) := ⟨_, rfl⟩
  rw [Hw0.out] at b1 hbx hT hu
  obtain ⟨a, len, cap, rfl, hlen, hmx, hsh, hr⟩ := id hT
  clear hr
  obtain ⟨x0, x1, x2⟩ := id hbx
  go_enter Try.func24, Try.ntmps24
  go_upto_region 1 with fail
  rw [Hw0.out]
  clear Hw0
  by_cases ht0 : t < 0
  · have E : Hid (fireL n m t = ([], 3)) := by show _ = _; rw [fireL, hf, decide_eq_false (show ¬ 0 ≤ t by omega)]; rfl
    clear hf hno hrm
    go_wp2
    go_ret2
    exact gives_of E.out (Ints.nil _) b1
  by_cases ht1 : (len : Int) ≤ t
  · have E : Hid (fireL n m t = ([], 3)) := by show _ = _; rw [fireL, hf, decide_eq_false (show ¬ t < n.trans.length by omega)]; simp
    clear hf hno hrm
    go_wp2
    go_ret2
    exact gives_of E.out (Ints.nil _) b1
  obtain ⟨k, rfl⟩ := Int.eq_ofNat_of_zero_le (show 0 ≤ t by omega)
  have hkn : k < len := by omega
  have E0 : fireL n m k = (if coversL m (tranAt n.trans k).pre then
    (if rightL (addL (subL m (tranAt n.trans k).pre) (tranAt n.trans k).post) then (addL (subL m (tranAt n.trans k).pre) (tranAt n.trans k).post, 0) else ([], 4)) else ([], 3)) := by
    rw [fireL, hf, decide_eq_true (show (0 : Int) ≤ k by omega), decide_eq_true (show (k : Int) < n.trans.length by omega), Int.toNat_natCast]; simp
  have E1 : Hid _ := E0
  obtain ⟨b, off, c1, c2, rfl, hblt, h0, h1, h2, i1, i2⟩ := hT.at hkn
  obtain ⟨hr1, hr2⟩ := tran_right (net_tran hno (show k < n.trans.length by omega))
  have hge : ¬ ((len : Int) ≤ (k : Int)) := by omega
  clear E0 hf hno ht0 ht1
  generalize tranAt n.trans k = t at *
  go_wp2_with fail
  refine (minus_any _ _ m t.pre _ (by exact hu) (by exact i1)).mono ?_
  rintro e w2 ⟨r, rfl, hR, hb2⟩
  have b4 := below_then b1 hb2
  have i2' := i2.below hb2
  have hx1' := (hb2.cell (p := ⟨w.heap.size, 1, none⟩) x0).trans x2
  have h2' := (hb2.cell (p := ⟨b, _, none⟩) hblt).trans h2
  clear hb2 hu i1 i2 h0 h1 h2 x0 x1 x2 hT b1
  cases hc : coversL m t.pre
  · have E : Hid (fireL n m k = ([], 3)) := by show _ = _; rw [E1.out, hc]; rfl
    have e1 := minusL_none hrm hr1 hc
    rw [e1]
    clear E1 hc e1 hR
    go_wp2
    go_ret2
    exact gives_of E.out (Ints.nil _) b4
  · have hrs : rightL (subL m t.pre) = true := by rw [subL, right_minus hrm hr1]; exact hc
    have e1 : minusL m t.pre = (subL m t.pre, 0) := minusL_ok hrm hr1 hc
    rw [e1] at hR ⊢
    have E2 : Hid (fireL n m k = plusL (subL m t.pre) t.post) := by
      show _ = _; rw [E1.out, hc]; unfold plusL; rw [hrs, hr2]; rfl
    clear E1 hc e1
    go_wp2_with fail
    refine (plus_any _ _ _ t.post _ (by exact hR) (by exact i2')).mono ?_
    rintro e w3 ⟨r3, rfl, hR3, b3⟩
    replace b4 := below_then b4 b3
    go_wp2
    go_ret2
    exact ⟨_, by rw [E2.out]; rfl, by rw [E2.out]; exact hR3, b4⟩

set_option maxHeartbeats 400000 in
theorem net_fire (v u : Value) (n : NetL) (m : List Int) (t : Int) (w : World) (hv : Net w v n) (hu : Ints w u m) :
    Calls Try.prog 75 #[v, u, .int .i64 t] w fun e w' => Gives w (fireL n m t) e w' := by
  obtain ⟨tv, rfl, hT⟩ := hv
  have b1 := below_new w (.cells #[.int .i64 n.places, tv] 24)
  have hbx := box2_new w (.int .i64 n.places) tv 24
  replace hu := hu.below b1
  have hv : Net _ _ n := ⟨tv, rfl, hT.below b1⟩
  clear hT
  go_enter Try.func75, Try.ntmps75
  go_wp2_with fail
  refine (marks_any _ _ n m _ (by exact hv) (by exact hu)).mono ?_
  rintro e w1 ⟨rfl, b2⟩
  replace hu := hu.below b2
  replace hv := hv.below b2
  replace b1 := below_then b1 b2
  obtain ⟨x0, x1, x2⟩ := hbx.below b2
  clear b2 hbx
  cases hf : fitsL n m
  · have E : Hid (fireL n m t = ([], 2)) := by show _ = _; simp [fireL, hf]
    clear hf
    go_wp2
    go_ret2
    exact gives_of E.out (Ints.nil _) b1
  · go_wp2_with fail
    refine (fired_any _ _ n m t _ (by exact hv) (by exact hu) hf).mono ?_
    rintro e w2 ⟨r, rfl, hR, b3⟩
    go_wp2
    go_ret2
    exact ⟨_, rfl, hR, below_then b1 b3⟩

set_option maxHeartbeats 1000000 in
theorem net_run (n : NetL) (seq : List Int) (v u s : Value) (m : List Int) (w : World) (hv : Net w v n) (hu : Ints w u m) (hs : Ints w s seq) :
    Calls Try.prog 9 #[v, u, s] w fun e w' => Gives w (runL n m seq) e w' := by
  obtain ⟨tv, rfl, hT⟩ := hv
  have b1 := below_new w (.cells #[.int .i64 n.places, tv] 24)
  have hbx := box2_new w (.int .i64 n.places) tv 24
  replace hu := hu.below b1
  replace hs := hs.below b1
  have hv : Net _ (.agg #[.int .i64 n.places, tv]) n := ⟨tv, rfl, hT.below b1⟩
  clear hT
  go_enter Try.func9, Try.ntmps9
  go_wp2_with fail
  refine (marks_any _ _ n m _ (by exact hv) (by exact hu)).mono ?_
  rintro e w1 ⟨rfl, b2⟩
  replace hu := hu.below b2
  replace hv := hv.below b2
  replace hs := hs.below b2
  replace hbx := hbx.below b2
  replace b1 := below_then b1 b2
  clear b2
  cases hf : fitsL n m
  · have E : Hid (runL n m seq = ([], 2)) := by show _ = _; cases seq <;> simp [runL, hf]
    clear hf
    go_wp2
    go_ret2
    exact gives_of E.out (Ints.nil _) b1
  · go_wp2_with fail
    refine (clone_any _ m _ hu).mono ?_
    rintro e w2 ⟨r, rfl, hO⟩
    have hlm : m.length ≤ 17592186044416 := by obtain ⟨_, _, _, _, h1, h2, _⟩ := hu; omega
    have b2 := hO.2.1
    have hr := hO.ints hlm
    replace hv := hv.below b2
    replace hs := hs.below b2
    replace hbx := hbx.below b2
    replace b1 := below_then b1 b2
    clear b2 hO hu hlm
    obtain ⟨a, len, cap, rfl, hlen, hmx, hsh, hrow⟩ := hs
    go_wp2_with fail
    go_loopg [8, 21] len (fun g o i wr => ∃ (k : Nat) (x : List Int), k + g = len ∧ i = .int .i64 k ∧ Ints wr o x ∧ Hid (fitsL n x = true) ∧ Hid (runL n m seq = runL n x (seq.drop k)) ∧ Below w2.heap.size w2 wr)
    case atStart => exact ⟨0, m, by omega, rfl, hr, hf, rfl, Below.refl _ _⟩
    case round =>
      clear hr hf
      obtain ⟨k, x, hkg, rfl, hx, hfx, hrun, hb⟩ := hrel
      replace b1 := below_then b1 hb
      by_cases hkn : k < len
      · obtain ⟨bq, oq, rfl, hblt, hc⟩ := (hrow.below hb) k (by omega)
        obtain ⟨x0, x1, x2⟩ := hbx.below hb
        have hv2 := hv.below hb
        have Hd : Hid (runL n m seq = (if (fireL n x (nth seq k)).2 == 0 then runL n (fireL n x (nth seq k)).1 (seq.drop (k + 1)) else ([], (fireL n x (nth seq k)).2))) := by
          show _ = _
          have hks : k < seq.length := by omega
          have e : nth seq k = seq[k] := by simp [nth, List.getD, List.getElem?_eq_getElem hks]
          rw [hrun.out, List.drop_eq_getElem_cons hks, runL_cons, hfx.out, e]; rfl
        have Hff : Hid _ := @fire_fits n x (fireL n x (nth seq k)).1 (nth seq k)
        clear hrun hrow
        generalize nth seq k = t at *
        go_wp2_with fail
        refine (fired_any _ _ n x t _ (by exact hv2) (by exact hx) hfx.out).mono ?_
        rintro e w3 ⟨r3, rfl, hR3, b3⟩
        generalize fireL n x t = q at *
        obtain ⟨y, cd⟩ := q
        simp only at hR3 ⊢
        replace hb := below_then hb b3
        replace b1 := below_then b1 b3
        clear b3 x0 x1 x2 hv2 hc
        by_cases h0 : cd = 0
        · subst h0
          have F1 : Hid (fitsL n y = true) := Hff.out rfl
          have F2 : Hid (runL n m seq = runL n y (seq.drop (k + 1))) := Hd.out
          clear Hff Hd
          go_wp2
          go_roundg (gk - 1)
          case measure => omega
          case rel => exact ⟨k + 1, y, by omega, by go_num, hR3, F1, F2, hb⟩
        · have n1 : (cd != 0) = true := by simpa using h0
          have E : Hid (runL n m seq = ([], cd)) := by show _ = _; rw [Hd.out]; simp [h0]
          clear Hff Hd
          go_wp2
          go_ret2
          exact gives_of E.out (Ints.nil _) b1
      · have E : Hid (runL n m seq = (x, 0)) := by show _ = _; rw [hrun.out, List.drop_eq_nil_of_le (by omega)]; simp [runL, hfx.out]
        clear hrun
        go_wp2
        go_ret2
        exact gives_of E.out hx b1

end Go.Proofs.Ytakgppoeikcepaa

import Derived.Test.YtakgppoeikcepaaGr07
import Derived.Test.YtakgppoeikcepaaGr09
/- Packages mark and net, as they landed, with what their answers hang on: what was made anew hangs on new blocks alone. -/
namespace Go.Proofs.Ytakgppoeikcepaa
open Go.RowKit
set_option linter.unusedVariables false
set_option maxRecDepth 4000

theorem Filled.on {B : Nat} {w wr : World} {n : Nat} {zs : List Int} (h : Filled B w wr n n zs) (hl : zs.length = n) (hn : n ≤ 17592186044416) {cap : Nat} (hc : n ≤ cap) (hc2 : cap ≤ 9223372036854775807) :
    On (fun k => B ≤ k) wr (fun w' => Ints w' (.slice (some ⟨B, 0, none⟩) n cap) zs) := by
  intro w' hs hk
  exact ⟨_, _, _, rfl, hl, hn, ⟨hc, hc2, fun h => by cases h⟩, fun j hj => ⟨B, 0, rfl, Nat.lt_of_lt_of_le h.size hs, by rw [Nat.zero_add, World.cell?_of_block (a := ⟨B, j, none⟩) (hk B h.size (Nat.le_refl _)), h.cells j (by omega), if_pos (by omega)]⟩⟩

set_option maxHeartbeats 400000 in
theorem joined_own (g : Nat) (f : Int → Int → Int) (hg : Makes g f) (eg : ∀ args w, (callFunc g args).run Try.prog w = .ok (.enter g args) w)
    (v u : Value) (xs ys : List Int) (w : World) (hv : Ints w v xs) (hu : Ints w u ys) (rx : rightL xs = true) (ry : rightL ys = true) :
    Calls Try.prog 62 #[v, u, .func (.func g) #[] #[]] w fun e w' => ∃ r, e = .returned r ∧ On (fun k => w.heap.size ≤ k) w' (fun w'' => Ints w'' r (zipL f xs ys)) ∧ Below w.heap.size w w' := by
  have hv' := hv
  have hu' := hu
  obtain ⟨a, la, ca, rfl, hla, hma, hsa, hra⟩ := hv
  obtain ⟨b, lb, cb, rfl, hlb, hmb, hsb, hrb⟩ := hu
  obtain ⟨n, Hn⟩ : ∃ n : Nat, max xs.length ys.length = n := ⟨_, rfl⟩
  have HL : Hid ((zipL f xs ys).length = n) := by rw [zipL_length]; exact Hn
  have HZ : ∀ j, j < n → Hid (nth (zipL f xs ys) j = f (nth xs j) (nth ys j)) := fun j hj => zipL_nth f xs ys j (by omega)
  have HX := fun j => okTok_nth rx j
  have HY := fun j => okTok_nth ry j
  clear hra hrb rx ry
  obtain ⟨w1, hmk, hb1, hs1, hc1⟩ := make_ints w n (by omega)
  by_cases hlt : la < lb
  case' pos => obtain rfl : n = lb := by omega
  case' neg => obtain rfl : n = la := by omega
  all_goals
    clear Hn hla hlb
    go_enter Try.func62, Try.ntmps62
    go_wp2
    go_loopw [17] (fun i wr => ∃ k : Nat, k ≤ n ∧ i = .int .i64 k ∧ Filled w.heap.size w wr n k (zipL f xs ys)) (fun i _ => n - (intOf i).toNat)
    case atStart => exact ⟨0, Nat.zero_le _, rfl, fun j hj => (hc1 j hj).1, fun j hj => (hc1 j hj).2, hb1, hs1⟩
    case round =>
      clear hmk hb1 hs1 hc1
      obtain ⟨k, hk, rfl, hF⟩ := hrel
      have hxk := HX k
      have hyk := HY k
      clear HX HY
      by_cases hkn : k < n
      · have hcell := hF.cells k hkn
        rw [if_neg (by omega)] at hcell
        have hfz := hF.frozen k hkn
        have hsz := hF.size
        go_wp2_with fail
        refine (at_any _ xs k _ (by exact hv'.below hF.below)).mono ?_
        rintro e w' ⟨rfl, rfl⟩
        go_wp2_with fail
        refine (at_any _ ys k _ (by exact hu'.below hF.below)).mono ?_
        rintro e w' ⟨rfl, rfl⟩
        go_wp2_with fail
        refine (hg _ _ _ hxk.1 hxk.2 hyk.1 hyk.2).mono ?_
        rintro e w' ⟨rfl, rfl⟩
        have R := hF.step hkn (HZ k hkn).out
        clear hF HZ
        go_wp2
        go_roundw
        case rel => exact ⟨k + 1, by omega, by go_num, R⟩
        case measure => simp [intOf]; omega
      · obtain rfl : k = n := by omega
        have R := hF.on HL.out (by omega) (cap := k) (by omega) (by omega)
        have R2 := hF.below
        clear hF HZ
        go_wp2
        go_ret
        exact ⟨_, rfl, R, R2⟩

set_option maxHeartbeats 400000 in
theorem plus_own (v u : Value) (xs ys : List Int) (w : World) (hv : Ints w v xs) (hu : Ints w u ys) :
    Calls Try.prog 37 #[v, u] w fun e w' => GivesO w (plusL xs ys) e w' := by
  go_enter Try.func37, Try.ntmps37
  go_wp2_with fail
  refine (right_any _ xs _ hv).mono ?_
  rintro e w' ⟨rfl, rfl⟩
  cases hx : rightL xs
  · go_wp2
    go_ret2
    exact givesO_of (plusL_range1 hx) (on_nil _ _) (Below.refl _ _)
  · go_wp2_with fail
    refine (right_any _ ys _ hu).mono ?_
    rintro e w' ⟨rfl, rfl⟩
    cases hy : rightL ys
    · go_wp2
      go_ret2
      exact givesO_of (plusL_range2 hy) (on_nil _ _) (Below.refl _ _)
    · go_wp2_with fail
      refine (joined_own 64 _ plus1_any Try.call64 _ _ xs ys _ hv hu hx hy).mono ?_
      rintro e w1 ⟨r, rfl, hr, hb⟩
      go_wp2_with fail
      refine (right_any _ _ _ hr.now).mono ?_
      rintro e w' ⟨rfl, rfl⟩
      cases hz : rightL (zipL (fun x1 x2 => x1 + x2) xs ys)
      · go_wp2
        go_ret2
        exact givesO_of (plusL_full hx hy hz) (on_nil _ _) (hb)
      · go_wp2
        go_ret2
        exact givesO_of (plusL_ok hx hy hz) (hr) (hb)

set_option maxHeartbeats 1000000 in
theorem fired_own (v u : Value) (n : NetL) (m : List Int) (t : Int) (w : World) (hv : Net w v n) (hu : Ints w u m) (hf : fitsL n m = true) :
    Calls Try.prog 24 #[v, u, .int .i64 t] w fun e w' => GivesO w (fireL n m t) e w' := by
  obtain ⟨tv, rfl, hT⟩ := hv
  have b1 := below_new w (.cells #[.int .i64 n.places, tv] 24)
  have hbx := box2_new w (.int .i64 n.places) tv 24
  replace hu := hu.below b1
  replace hT := hT.below b1
  obtain ⟨hno, _, hrm⟩ := fits_net hf
  obtain ⟨w0, Hw0⟩ : ∃ w0, Hid (w.alloc (.cells #[.int .i64 n.places, tv] 24) = w0) := ⟨_, rfl⟩
  rw [Hw0.out] at b1 hbx hT hu
  obtain ⟨a, len, cap, rfl, hlen, hmx, hsh, hr⟩ := id hT
  clear hr
  obtain ⟨x0, x1, x2⟩ := id hbx
  go_enter Try.func24, Try.ntmps24
  go_upto_region 1 with fail
  rw [Hw0.out]
  clear Hw0
  by_cases ht0 : t < 0
  · have E : Hid (fireL n m t = ([], 3)) := by show _ = _; rw [fireL, hf, decide_eq_false (show ¬ 0 ≤ t by omega)]; rfl
    clear hf hno hrm
    go_wp2
    go_ret2
    exact givesO_of E.out (on_nil _ _) b1
  by_cases ht1 : (len : Int) ≤ t
  · have E : Hid (fireL n m t = ([], 3)) := by show _ = _; rw [fireL, hf, decide_eq_false (show ¬ t < n.trans.length by omega)]; simp
    clear hf hno hrm
    go_wp2
    go_ret2
    exact givesO_of E.out (on_nil _ _) b1
  obtain ⟨k, rfl⟩ := Int.eq_ofNat_of_zero_le (show 0 ≤ t by omega)
  have hkn : k < len := by omega
  have E0 : fireL n m k = (if coversL m (tranAt n.trans k).pre then
    (if rightL (addL (subL m (tranAt n.trans k).pre) (tranAt n.trans k).post) then (addL (subL m (tranAt n.trans k).pre) (tranAt n.trans k).post, 0) else ([], 4)) else ([], 3)) := by
    rw [fireL, hf, decide_eq_true (show (0 : Int) ≤ k by omega), decide_eq_true (show (k : Int) < n.trans.length by omega), Int.toNat_natCast]; simp
  have E1 : Hid _ := E0
  obtain ⟨b, off, c1, c2, rfl, hblt, h0, h1, h2, i1, i2⟩ := hT.at hkn
  obtain ⟨hr1, hr2⟩ := tran_right (net_tran hno (show k < n.trans.length by omega))
  have hge : ¬ ((len : Int) ≤ (k : Int)) := by omega
  clear E0 hf hno ht0 ht1
  generalize tranAt n.trans k = t at *
  go_wp2_with fail
  refine (minus_any _ _ m t.pre _ (by exact hu) (by exact i1)).mono ?_
  rintro e w2 ⟨r, rfl, hR, hb2⟩
  have b4 := below_then b1 hb2
  have i2' := i2.below hb2
  have hx1' := (hb2.cell (p := ⟨w.heap.size, 1, none⟩) x0).trans x2
  have h2' := (hb2.cell (p := ⟨b, _, none⟩) hblt).trans h2
  clear hb2 hu i1 i2 h0 h1 h2 x0 x1 x2 hT b1
  cases hc : coversL m t.pre
  · have E : Hid (fireL n m k = ([], 3)) := by show _ = _; rw [E1.out, hc]; rfl
    have e1 := minusL_none hrm hr1 hc
    rw [e1]
    clear E1 hc e1 hR
    go_wp2
    go_ret2
    exact givesO_of E.out (on_nil _ _) b4
  · have hrs : rightL (subL m t.pre) = true := by rw [subL, right_minus hrm hr1]; exact hc
    have e1 : minusL m t.pre = (subL m t.pre, 0) := minusL_ok hrm hr1 hc
    rw [e1] at hR ⊢
    have E2 : Hid (fireL n m k = plusL (subL m t.pre) t.post) := by
      show _ = _; rw [E1.out, hc]; unfold plusL; rw [hrs, hr2]; rfl
    clear E1 hc e1
    go_wp2_with fail
    refine (plus_own _ _ _ t.post _ (by exact hR) (by exact i2')).mono ?_
    rintro e w3 ⟨r3, rfl, hR3, b3⟩
    have HR3 : Hid _ := hR3.weaken (D' := fun k => w.heap.size ≤ k) fun k _ hk => Nat.le_trans b4.size hk
    replace b4 := below_then b4 b3
    go_wp2
    go_ret2
    exact ⟨_, by rw [E2.out]; rfl, by rw [E2.out]; exact HR3.out, b4⟩

set_option maxHeartbeats 400000 in
theorem net_fire_own (v u : Value) (n : NetL) (m : List Int) (t : Int) (w : World) (hv : Net w v n) (hu : Ints w u m) :
    Calls Try.prog 75 #[v, u, .int .i64 t] w fun e w' => GivesO w (fireL n m t) e w' := by
  obtain ⟨tv, rfl, hT⟩ := hv
  have b1 := below_new w (.cells #[.int .i64 n.places, tv] 24)
  have hbx := box2_new w (.int .i64 n.places) tv 24
  replace hu := hu.below b1
  have hv : Net _ _ n := ⟨tv, rfl, hT.below b1⟩
  clear hT
  go_enter Try.func75, Try.ntmps75
  go_wp2_with fail
  refine (marks_any _ _ n m _ (by exact hv) (by exact hu)).mono ?_
  rintro e w1 ⟨rfl, b2⟩
  replace hu := hu.below b2
  replace hv := hv.below b2
  replace b1 := below_then b1 b2
  obtain ⟨x0, x1, x2⟩ := hbx.below b2
  clear b2 hbx
  cases hf : fitsL n m
  · have E : Hid (fireL n m t = ([], 2)) := by show _ = _; simp [fireL, hf]
    clear hf
    go_wp2
    go_ret2
    exact givesO_of E.out (on_nil _ _) b1
  · go_wp2_with fail
    refine (fired_own _ _ n m t _ (by exact hv) (by exact hu) hf).mono ?_
    rintro e w2 ⟨r, rfl, hR, b3⟩
    replace hR := hR.weaken (D' := fun k => w.heap.size ≤ k) fun k _ hk => Nat.le_trans b1.size hk
    go_wp2
    go_ret2
    exact ⟨_, rfl, hR, below_then b1 b3⟩

end Go.Proofs.Ytakgppoeikcepaa

/- net.Enabled and Run as they landed: what they answer hangs on new blocks alone. -/
namespace Go.Proofs.Ytakgppoeikcepaa
open Go.RowKit
set_option linter.unusedVariables false
set_option maxRecDepth 4000

set_option maxHeartbeats 1000000 in
theorem net_enabled_own (v u : Value) (n : NetL) (m : List Int) (w : World) (hv : Net w v n) (hu : Ints w u m) :
    Calls Try.prog 74 #[v, u] w fun e w' => GivesO w (canL n m) e w' := by
  obtain ⟨tv, rfl, hT⟩ := hv
  have b1 := below_new w (.cells #[.int .i64 n.places, tv] 24)
  have hbx := box2_new w (.int .i64 n.places) tv 24
  have hu1 := hu.below b1
  have hv1 : Net _ _ n := ⟨tv, rfl, hT.below b1⟩
  go_enter Try.func74, Try.ntmps74
  go_wp2_with fail
  refine (marks_any _ _ n m _ (by exact hv1) (by exact hu1)).mono ?_
  rintro e w1 ⟨rfl, b2⟩
  have b3 := below_then b1 b2
  have hu2 := hu1.below b2
  have hT2 := (hT.below b1).below b2
  have hbx2 := hbx.below b2
  clear b1 b2 hbx hu1 hv1 hT
  cases hf : fitsL n m
  · go_wp2
    go_ret2
    exact givesO_of (canL_no hf) (on_nil _ _) b3
  · have HF : Hid _ := canL_yes hf
    clear hf
    obtain ⟨hx0, hx1, hx2⟩ := hbx2
    have hT3 := hT2
    obtain ⟨a, len, cap, rfl, hlen, hmx, hsh, hr⟩ := hT2
    clear hr
    go_wp2_with fail
    go_loopg [6, 16] len (fun g o i wr => ∃ k : Nat, k + g = len ∧ i = .int .i64 k ∧ Own w1.heap.size w1 wr o (canTo n m k))
    case atStart => exact ⟨0, by omega, rfl, Own.nil _⟩
    case round =>
      clear hx0 hx1 hx2
      obtain ⟨k, hkg, rfl, hG⟩ := hrel
      by_cases hkn : k < len
      · obtain ⟨b, off, c1, c2, rfl, hblt, h0, h1, h2, i1, i2⟩ := (hT3.below hG.2.1).at hkn
        have hle := canTo_le n m k
        have hu3 := hu2.below hG.2.1
        have Hy : Hid _ := canTo_yes n m k
        have Hn : Hid _ := canTo_no n m k
        have j1 := i1
        have j2 := i2
        obtain ⟨a1, l1, p1, rfl, _, _, _, _⟩ := j1
        obtain ⟨a2, l2, p2, rfl, _, _, _, _⟩ := j2
        have hbn := below_new wr (.cells #[.int .i64 (tranAt n.trans k).label, .slice a1 l1 p1, .slice a2 l2 p2] 37)
        generalize tranAt n.trans k = t at *
        have hG1 := hG.trans hbn
        go_wp2_with fail
        refine (covers_b _ _ m t.pre _ (by exact hu3.below hbn) (by exact i1.below hbn)).mono ?_
        rintro e w2 ⟨rfl, hb2⟩
        have hG2 := hG1.trans hb2
        clear hG hG1 hbn hb2 h0 h1 h2 i1 i2 hu3
        cases hc : coversL m t.pre
        · have R := hG2
          rw [← Hn.out hc] at R
          clear hG2
          go_wp2
          go_roundg (gk - 1)
          case measure => omega
          case rel => exact ⟨k + 1, by omega, by go_num, R⟩
        · go_wp2_with (at_builtin; refine wp_append_int rfl _ _ rfl w1.heap.size w1 _ _ _ (k : Int) hG2 rfl rfl (by omega) ?_; intro v' w3 hG3)
          have R : Own w1.heap.size w1 w3 v' (canTo n m (k + 1)) := by rw [Hy.out hc]; exact hG3
          clear hG2 hG3
          go_wp2
          go_roundg (gk - 1)
          case measure => omega
          case rel => exact ⟨k + 1, by omega, by go_num, R⟩
      · have hk : k = n.trans.length := by omega
        have hle := canTo_le n m k
        have R := (hG.on (by omega)).weaken (D' := fun k => w.heap.size ≤ k) fun k _ hk => Nat.le_trans b3.size hk
        have R2 := below_then b3 hG.2.1
        have E : Hid (canL n m = (canTo n m k, 0)) := by rw [hk]; exact HF.out
        clear hG hk
        go_wp2
        go_ret2
        exact givesO_of E.out R R2

set_option maxHeartbeats 1000000 in
theorem net_run_own (n : NetL) (seq : List Int) (v u s : Value) (m : List Int) (w : World) (hv : Net w v n) (hu : Ints w u m) (hs : Ints w s seq) :
    Calls Try.prog 9 #[v, u, s] w fun e w' => GivesO w (runL n m seq) e w' := by
  obtain ⟨tv, rfl, hT⟩ := hv
  have b1 := below_new w (.cells #[.int .i64 n.places, tv] 24)
  have hbx := box2_new w (.int .i64 n.places) tv 24
  replace hu := hu.below b1
  replace hs := hs.below b1
  have hv : Net _ (.agg #[.int .i64 n.places, tv]) n := ⟨tv, rfl, hT.below b1⟩
  clear hT
  go_enter Try.func9, Try.ntmps9
  go_wp2_with fail
  refine (marks_any _ _ n m _ (by exact hv) (by exact hu)).mono ?_
  rintro e w1 ⟨rfl, b2⟩
  replace hu := hu.below b2
  replace hv := hv.below b2
  replace hs := hs.below b2
  replace hbx := hbx.below b2
  replace b1 := below_then b1 b2
  clear b2
  cases hf : fitsL n m
  · have E : Hid (runL n m seq = ([], 2)) := by show _ = _; cases seq <;> simp [runL, hf]
    clear hf
    go_wp2
    go_ret2
    exact givesO_of E.out (on_nil _ _) b1
  · go_wp2_with fail
    refine (clone_any _ m _ hu).mono ?_
    rintro e w2 ⟨r, rfl, hO⟩
    have hlm : m.length ≤ 17592186044416 := by obtain ⟨_, _, _, _, h1, h2, _⟩ := hu; omega
    have b2 := hO.2.1
    have hr := (hO.on hlm).weaken (D' := fun k => w.heap.size ≤ k) fun k _ hk => Nat.le_trans b1.size hk
    replace hv := hv.below b2
    replace hs := hs.below b2
    replace hbx := hbx.below b2
    replace b1 := below_then b1 b2
    clear b2 hO hu hlm
    obtain ⟨a, len, cap, rfl, hlen, hmx, hsh, hrow⟩ := hs
    go_wp2_with fail
    go_loopg [8, 21] len (fun g o i wr => ∃ (k : Nat) (x : List Int), k + g = len ∧ i = .int .i64 k ∧ On (fun k => w.heap.size ≤ k) wr (fun w' => Ints w' o x) ∧ Hid (fitsL n x = true) ∧ Hid (runL n m seq = runL n x (seq.drop k)) ∧ Below w2.heap.size w2 wr)
    case atStart => exact ⟨0, m, by omega, rfl, hr, hf, rfl, Below.refl _ _⟩
    case round =>
      clear hr hf
      obtain ⟨k, x, hkg, rfl, hx, hfx, hrun, hb⟩ := hrel
      replace b1 := below_then b1 hb
      by_cases hkn : k < len
      · obtain ⟨bq, oq, rfl, hblt, hc⟩ := (hrow.below hb) k (by omega)
        obtain ⟨x0, x1, x2⟩ := hbx.below hb
        have hv2 := hv.below hb
        have Hd : Hid (runL n m seq = (if (fireL n x (nth seq k)).2 == 0 then runL n (fireL n x (nth seq k)).1 (seq.drop (k + 1)) else ([], (fireL n x (nth seq k)).2))) := by
          show _ = _
          have hks : k < seq.length := by omega
          have e : nth seq k = seq[k] := by simp [nth, List.getD, List.getElem?_eq_getElem hks]
          rw [hrun.out, List.drop_eq_getElem_cons hks, runL_cons, hfx.out, e]; rfl
        have Hff : Hid _ := @fire_fits n x (fireL n x (nth seq k)).1 (nth seq k)
        clear hrun hrow
        generalize nth seq k = t at *
        go_wp2_with fail
        refine (fired_own _ _ n x t _ (by exact hv2) (by exact hx.now) hfx.out).mono ?_
        rintro e w3 ⟨r3, rfl, hR3, b3⟩
        replace hR3 := hR3.weaken (D' := fun k => w.heap.size ≤ k) fun k _ hk => Nat.le_trans b1.size hk
        generalize fireL n x t = q at *
        obtain ⟨y, cd⟩ := q
        simp only at hR3 ⊢
        replace hb := below_then hb b3
        replace b1 := below_then b1 b3
        clear b3 x0 x1 x2 hv2 hc
        by_cases h0 : cd = 0
        · subst h0
          have F1 : Hid (fitsL n y = true) := Hff.out rfl
          have F2 : Hid (runL n m seq = runL n y (seq.drop (k + 1))) := Hd.out
          clear Hff Hd
          go_wp2
          go_roundg (gk - 1)
          case measure => omega
          case rel => exact ⟨k + 1, y, by omega, by go_num, hR3, F1, F2, hb⟩
        · have n1 : (cd != 0) = true := by simpa using h0
          have E : Hid (runL n m seq = ([], cd)) := by show _ = _; rw [Hd.out]; simp [h0]
          clear Hff Hd
          go_wp2
          go_ret2
          exact givesO_of E.out (on_nil _ _) b1
      · have E : Hid (runL n m seq = (x, 0)) := by show _ = _; rw [hrun.out, List.drop_eq_nil_of_le (by omega)]; simp [runL, hfx.out]
        clear hrun
        go_wp2
        go_ret2
        exact givesO_of E.out hx b1

end Go.Proofs.Ytakgppoeikcepaa

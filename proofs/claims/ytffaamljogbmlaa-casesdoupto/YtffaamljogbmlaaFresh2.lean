/- Packages mark and net, as they landed, with what their answers hang on: what was made anew hangs on new blocks alone. -/
import Derived.Test.YtffaamljogbmlaaFresh1
import Derived.Test.YtffaamljogbmlaaGr07
namespace Go.Proofs.Ytffaamljogbmlaa
open Go.RowKit
set_option linter.unusedVariables false
set_option maxRecDepth 4000

theorem Filled.on {B : Nat} {w wr : World} {n : Nat} {zs : List Int} (h : Filled B w wr n n zs) (hl : zs.length = n) (hn : n ≤ 17592186044416) {cap : Nat} (hc : n ≤ cap) (hc2 : cap ≤ 9223372036854775807) :
    On (fun k => B ≤ k) wr (fun w' => Ints w' (.slice (some ⟨B, 0, none⟩) n cap) zs) := by
  intro w' hs hk
  exact ⟨_, _, _, rfl, hl, hn, ⟨hc, hc2, fun h => by cases h⟩, fun j hj => ⟨B, 0, rfl, Nat.lt_of_lt_of_le h.size hs, by rw [Nat.zero_add, World.cell?_of_block (a := ⟨B, j, none⟩) (hk B h.size (Nat.le_refl _)), h.cells j (by omega), if_pos (by omega)]⟩⟩

set_option maxHeartbeats 400000 in
theorem joined_own (g : Nat) (f : Int → Int → Int) (hg : Makes g f) (eg : ∀ args w, (callFunc g args).run Try.prog w = .ok (.enter g args) w)
    (v u : Value) (xs ys : List Int) (w : World) (hv : Ints w v xs) (hu : Ints w u ys) (rx : rightL xs = true) (ry : rightL ys = true) :
    Calls Try.prog 64 #[v, u, .func (.func g) #[] #[]] w fun e w' => ∃ r, e = .returned r ∧ On (fun k => w.heap.size ≤ k) w' (fun w'' => Ints w'' r (zipL f xs ys)) ∧ Below w.heap.size w w' := by
  have hv' := hv
  have hu' := hu
  obtain ⟨a, la, ca, rfl, hla, hma, hsa, hra⟩ := hv
  obtain ⟨b, lb, cb, rfl, hlb, hmb, hsb, hrb⟩ := hu
  obtain ⟨n, Hn⟩ : ∃ n : Nat, max xs.length ys.length = n := ⟨_, rfl⟩
  have HL : Hid ((zipL f xs ys).length = n) := by rw [zipL_length]; exact Hn
  have HZ : ∀ j, j < n → Hid (nth (zipL f xs ys) j = f (nth xs j) (nth ys j)) := fun j hj => zipL_nth f xs ys j (by omega)
  have HX := fun j => okTok_nth rx j
  have HY := fun j => okTok_nth ry j
  clear hra hrb rx ry
  obtain ⟨w1, hmk, hb1, hs1, hc1⟩ := make_ints w n (by omega)
  by_cases hlt : la < lb
  case' pos => obtain rfl : n = lb := by omega
  case' neg => obtain rfl : n = la := by omega
  all_goals
    clear Hn hla hlb
    go_enter Try.func64, Try.ntmps64
    go_wp2
    go_loopw [17] (fun i wr => ∃ k : Nat, k ≤ n ∧ i = .int .i64 k ∧ Filled w.heap.size w wr n k (zipL f xs ys)) (fun i _ => n - (intOf i).toNat)
    case atStart => exact ⟨0, Nat.zero_le _, rfl, fun j hj => (hc1 j hj).1, fun j hj => (hc1 j hj).2, hb1, hs1⟩
    case round =>
      clear hmk hb1 hs1 hc1
      obtain ⟨k, hk, rfl, hF⟩ := hrel
      have hxk := HX k
      have hyk := HY k
      clear HX HY
      by_cases hkn : k < n
      · have hcell := hF.cells k hkn
        rw [if_neg (by omega)] at hcell
        have hfz := hF.frozen k hkn
        have hsz := hF.size
        go_wp2_with fail
        refine (at_any _ xs k _ (by exact hv'.below hF.below)).mono ?_
        rintro e w' ⟨rfl, rfl⟩
        go_wp2_with fail
        refine (at_any _ ys k _ (by exact hu'.below hF.below)).mono ?_
        rintro e w' ⟨rfl, rfl⟩
        go_wp2_with fail
        refine (hg _ _ _ hxk.1 hxk.2 hyk.1 hyk.2).mono ?_
        rintro e w' ⟨rfl, rfl⟩
        have R := hF.step hkn (HZ k hkn).out
        clear hF HZ
        go_wp2
        go_roundw
        case rel => exact ⟨k + 1, by omega, by go_num, R⟩
        case measure => simp [intOf]; omega
      · obtain rfl : k = n := by omega
        have R := hF.on HL.out (by omega) (cap := k) (by omega) (by omega)
        have R2 := hF.below
        clear hF HZ
        go_wp2
        go_ret
        exact ⟨_, rfl, R, R2⟩

set_option maxHeartbeats 400000 in
theorem plus_own (v u : Value) (xs ys : List Int) (w : World) (hv : Ints w v xs) (hu : Ints w u ys) :
    Calls Try.prog 55 #[v, u] w fun e w' => GivesO w (plusL xs ys) e w' := by
  go_enter Try.func55, Try.ntmps55
  go_wp2_with fail
  refine (right_any _ xs _ hv).mono ?_
  rintro e w' ⟨rfl, rfl⟩
  cases hx : rightL xs
  · go_wp2
    go_ret2
    exact givesO_of (plusL_range1 hx) (on_nil _ _) (Below.refl _ _)
  · go_wp2_with fail
    refine (right_any _ ys _ hu).mono ?_
    rintro e w' ⟨rfl, rfl⟩
    cases hy : rightL ys
    · go_wp2
      go_ret2
      exact givesO_of (plusL_range2 hy) (on_nil _ _) (Below.refl _ _)
    · go_wp2_with fail
      refine (joined_own 66 _ plus1_any Try.call66 _ _ xs ys _ hv hu hx hy).mono ?_
      rintro e w1 ⟨r, rfl, hr, hb⟩
      go_wp2_with fail
      refine (right_any _ _ _ hr.now).mono ?_
      rintro e w' ⟨rfl, rfl⟩
      cases hz : rightL (zipL (fun x1 x2 => x1 + x2) xs ys)
      · go_wp2
        go_ret2
        exact givesO_of (plusL_full hx hy hz) (on_nil _ _) (hb)
      · go_wp2
        go_ret2
        exact givesO_of (plusL_ok hx hy hz) (hr) (hb)

set_option maxHeartbeats 1000000 in
theorem fired_own (v u : Value) (n : NetL) (m : List Int) (t : Int) (w : World) (hv : Net w v n) (hu : Ints w u m) (hf : fitsL n m = true) :
    Calls Try.prog 43 #[v, u, .int .i64 t] w fun e w' => GivesO w (fireL n m t) e w' := by
  obtain ⟨tv, rfl, hT⟩ := hv
  have b1 := below_new w (.cells #[.int .i64 n.places, tv] 24)
  have hbx := box2_new w (.int .i64 n.places) tv 24
  replace hu := hu.below b1
  replace hT := hT.below b1
  obtain ⟨hno, _, hrm⟩ := fits_net hf
  obtain ⟨w0, Hw0⟩ : ∃ w0, Hid (w.alloc (.cells #[.int .i64 n.places, tv] 24) = w0) := ⟨_, rfl⟩
  rw [Hw0.out] at b1 hbx hT hu
  obtain ⟨a, len, cap, rfl, hlen, hmx, hsh, hr⟩ := id hT
  clear hr
  obtain ⟨x0, x1, x2⟩ := id hbx
  go_enter Try.func43, Try.ntmps43
  go_upto_region 1 with fail
  rw [Hw0.out]
  clear Hw0
  by_cases ht0 : t < 0
  · have E : Hid (fireL n m t = ([], 3)) := by show _ = _; rw [fireL, hf, decide_eq_false (show ¬ 0 ≤ t by omega)]; rfl
    clear hf hno hrm
    go_wp2
    go_ret2
    exact givesO_of E.out (on_nil _ _) b1
  by_cases ht1 : (len : Int) ≤ t
  · have E : Hid (fireL n m t = ([], 3)) := by show _ = _; rw [fireL, hf, decide_eq_false (show ¬ t < n.trans.length by omega)]; simp
    clear hf hno hrm
    go_wp2
    go_ret2
    exact givesO_of E.out (on_nil _ _) b1
  obtain ⟨k, rfl⟩ := Int.eq_ofNat_of_zero_le (show 0 ≤ t by omega)
  have hkn : k < len := by omega
  have E0 : fireL n m k = (if coversL m (tranAt n.trans k).pre then
    (if rightL (addL (subL m (tranAt n.trans k).pre) (tranAt n.trans k).post) then (addL (subL m (tranAt n.trans k).pre) (tranAt n.trans k).post, 0) else ([], 4)) else ([], 3)) := by
    rw [fireL, hf, decide_eq_true (show (0 : Int) ≤ k by omega), decide_eq_true (show (k : Int) < n.trans.length by omega), Int.toNat_natCast]; simp
  have E1 : Hid _ := E0
  obtain ⟨b, off, c1, c2, rfl, hblt, h0, h1, h2, i1, i2⟩ := hT.at hkn
  obtain ⟨hr1, hr2⟩ := tran_right (net_tran hno (show k < n.trans.length by omega))
  have hge : ¬ ((len : Int) ≤ (k : Int)) := by omega
  clear E0 hf hno ht0 ht1
  generalize tranAt n.trans k = t at *
  go_wp2_with fail
  refine (minus_any _ _ m t.pre _ (by exact hu) (by exact i1)).mono ?_
  rintro e w2 ⟨r, rfl, hR, hb2⟩
  have b4 := below_then b1 hb2
  have i2' := i2.below hb2
  have hx1' := (hb2.cell (p := ⟨w.heap.size, 1, none⟩) x0).trans x2
  have h2' := (hb2.cell (p := ⟨b, _, none⟩) hblt).trans h2
  clear hb2 hu i1 i2 h0 h1 h2 x0 x1 x2 hT b1
  cases hc : coversL m t.pre
  · have E : Hid (fireL n m k = ([], 3)) := by show _ = _; rw [E1.out, hc]; rfl
    have e1 := minusL_none hrm hr1 hc
    rw [e1]
    clear E1 hc e1 hR
    go_wp2
    go_ret2
    exact givesO_of E.out (on_nil _ _) b4
  · have hrs : rightL (subL m t.pre) = true := by rw [subL, right_minus hrm hr1]; exact hc
    have e1 : minusL m t.pre = (subL m t.pre, 0) := minusL_ok hrm hr1 hc
    rw [e1] at hR ⊢
    have E2 : Hid (fireL n m k = plusL (subL m t.pre) t.post) := by
      show _ = _; rw [E1.out, hc]; unfold plusL; rw [hrs, hr2]; rfl
    clear E1 hc e1
    go_wp2_with fail
    refine (plus_own _ _ _ t.post _ (by exact hR) (by exact i2')).mono ?_
    rintro e w3 ⟨r3, rfl, hR3, b3⟩
    have HR3 : Hid _ := hR3.weaken (D' := fun k => w.heap.size ≤ k) fun k _ hk => Nat.le_trans b4.size hk
    replace b4 := below_then b4 b3
    go_wp2
    go_ret2
    exact ⟨_, by rw [E2.out]; rfl, by rw [E2.out]; exact HR3.out, b4⟩

set_option maxHeartbeats 400000 in
theorem net_fire_own (v u : Value) (n : NetL) (m : List Int) (t : Int) (w : World) (hv : Net w v n) (hu : Ints w u m) :
    Calls Try.prog 22 #[v, u, .int .i64 t] w fun e w' => GivesO w (fireL n m t) e w' := by
  obtain ⟨tv, rfl, hT⟩ := hv
  have b1 := below_new w (.cells #[.int .i64 n.places, tv] 24)
  have hbx := box2_new w (.int .i64 n.places) tv 24
  replace hu := hu.below b1
  have hv : Net _ _ n := ⟨tv, rfl, hT.below b1⟩
  clear hT
  go_enter Try.func22, Try.ntmps22
  go_wp2_with fail
  refine (marks_any _ _ n m _ (by exact hv) (by exact hu)).mono ?_
  rintro e w1 ⟨rfl, b2⟩
  replace hu := hu.below b2
  replace hv := hv.below b2
  replace b1 := below_then b1 b2
  obtain ⟨x0, x1, x2⟩ := hbx.below b2
  clear b2 hbx
  cases hf : fitsL n m
  · have E : Hid (fireL n m t = ([], 2)) := by show _ = _; simp [fireL, hf]
    clear hf
    go_wp2
    go_ret2
    exact givesO_of E.out (on_nil _ _) b1
  · go_wp2_with fail
    refine (fired_own _ _ n m t _ (by exact hv) (by exact hu) hf).mono ?_
    rintro e w2 ⟨r, rfl, hR, b3⟩
    replace hR := hR.weaken (D' := fun k => w.heap.size ≤ k) fun k _ hk => Nat.le_trans b1.size hk
    go_wp2
    go_ret2
    exact ⟨_, rfl, hR, below_then b1 b3⟩

end Go.Proofs.Ytffaamljogbmlaa

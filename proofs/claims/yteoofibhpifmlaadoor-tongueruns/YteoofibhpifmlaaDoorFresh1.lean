/- The answers of the document itself for nets, with what they hang on: one fires. -/
import Derived.Test.YteoofibhpifmlaaDoorNetAll
import Derived.Test.YteoofibhpifmlaaDoorFoot
namespace Go.Proofs.YteoofibhpifmlaaDoor
open Go.RowKit
set_option linter.unusedVariables false
set_option maxRecDepth 4000

/-- What a call answers that makes a mark anew, or tells what is wrong: the mark hangs on new blocks alone. -/
def GivesO (w : World) (p : List Int × Int) (e : Ending) (w' : World) : Prop :=
  ∃ r, e = .returned (.tuple #[r, .int .i64 p.2]) ∧ On (fun k => w.heap.size ≤ k) w' (fun w'' => Ints w'' r p.1) ∧ Below w.heap.size w w'

theorem givesO_of {w w' : World} {r : Value} {p : List Int × Int} {zs : List Int} {c : Int} (hp : p = (zs, c)) (hr : On (fun k => w.heap.size ≤ k) w' (fun w'' => Ints w'' r zs)) (hb : Below w.heap.size w w') : GivesO w p (.returned (.tuple #[r, .int .i64 c])) w' := by
  subst hp; exact ⟨r, rfl, hr, hb⟩
theorem on_nil (D : Nat → Prop) (w : World) : On D w (fun w' => Ints w' (.slice none 0 0) []) := fun w' _ _ => Ints.nil w'

set_option maxHeartbeats 400000 in
theorem amix_own (t : Int) (ht : t = 1 ∨ t = -1) (v u : Value) (xs ys : List Int) (w : World) (hv : Ints w v xs) (hu : Ints w u ys) (rx : rightL xs = true) (ry : rightL ys = true) :
    Calls Tryd.prog 92 #[v, u, .int .i64 t] w fun e w' => ∃ r, e = .returned r ∧ Own w.heap.size w w' r (zipL (mixL t) xs ys) := by
  have hv' := hv
  have hu' := hu
  obtain ⟨a, la, ca, rfl, hla, hma, hsa, hra⟩ := hv
  obtain ⟨b, lb, cb, rfl, hlb, hmb, hsb, hrb⟩ := hu
  obtain ⟨n, Hn⟩ : ∃ n : Nat, max xs.length ys.length = n := ⟨_, rfl⟩
  have HZ : Hid (zipL (mixL t) xs ys = zipTo (mixL t) xs ys n) := by show _ = _; unfold zipL zipTo; rw [Hn]
  have HX := fun j => okTok_nth rx j
  have HY := fun j => okTok_nth ry j
  have ht1 : -1 ≤ t ∧ t ≤ 1 := by omega
  have HT : Hid (t = 1 ∨ t = -1) := ht
  clear hra hrb rx ry ht
  by_cases hlt : la < lb
  case' pos => obtain rfl : n = lb := by omega
  case' neg => obtain rfl : n = la := by omega
  all_goals
    clear Hn hla hlb
    go_enter Tryd.func92, Tryd.ntmps92
    go_wp2
    go_loopw [7, 14] (fun o i wr => ∃ k : Nat, k ≤ n ∧ i = .int .i64 k ∧ Own w.heap.size w wr o (zipTo (mixL t) xs ys k)) (fun _ i _ => n - (intOf i).toNat)
    case atStart => exact ⟨0, Nat.zero_le _, rfl, Own.nil _⟩
    case round =>
      obtain ⟨k, hk, rfl, hG⟩ := hrel
      obtain ⟨hx1, hx2⟩ := HX k
      obtain ⟨hy1, hy2⟩ := HY k
      clear HX HY
      by_cases hkn : k < n
      · have hm : Hid (mixL t (nth xs k) (nth ys k) = nth xs k + t * nth ys k) := rfl
        have ht2 : -1000000 ≤ t * nth ys k ∧ t * nth ys k ≤ 1000000 := by rcases HT.out with h | h <;> rw [h] <;> omega
        go_wp2_with fail
        refine (aat_any _ xs k _ (by exact hv'.below hG.2.1)).mono ?_
        rintro e w' ⟨rfl, rfl⟩
        go_wp2_with fail
        refine (aat_any _ ys k _ (by exact hu'.below hG.2.1)).mono ?_
        rintro e w' ⟨rfl, rfl⟩
        have hlen := zipTo_length (mixL t) xs ys k
        go_wp2_with (at_builtin; refine wp_append_int rfl _ _ rfl w.heap.size w _ _ _ (nth xs k + t * nth ys k) hG rfl rfl (by rw [hlen]; omega) ?_; intro v' w1 hG')
        have R : Own w.heap.size w w1 v' (zipTo (mixL t) xs ys (k + 1)) := by rw [zipTo_succ]; exact hG'
        clear hG hG'
        go_wp2
        go_roundw
        case rel => exact ⟨k + 1, by omega, by go_num, R⟩
        case measure => simp [intOf]; omega
      · obtain rfl : k = n := by omega
        go_wp2
        go_ret
        exact ⟨_, rfl, by rw [HZ.out]; exact hG⟩

set_option maxHeartbeats 1000000 in
theorem bfire_own (v u : Value) (n : NetL) (m : List Int) (t : Int) (w : World) (hv : Net w v n) (hu : Ints w u m) (hsm : SmallNet n) :
    Calls Tryd.prog 65 #[v, u, .int .i64 t] w fun e w' => GivesO w (fireL n m t) e w' := by
  obtain ⟨tv, rfl, hT⟩ := hv
  have b1 := below_new w (.cells #[.int .i64 n.places, tv] 24)
  have hbx := box2_new w (.int .i64 n.places) tv 24
  have hu1 := hu.below b1
  have hv1 : Net _ _ n := ⟨tv, rfl, hT.below b1⟩
  go_enter Tryd.func65, Tryd.ntmps65
  go_wp2_with fail
  refine (bfits_any _ _ n m _ (by exact hv1) (by exact hu1) hsm).mono ?_
  rintro e w1 ⟨rfl, b2⟩
  have b3 := below_then b1 b2
  have hu2 := hu1.below b2
  have hT2 := (hT.below b1).below b2
  have hbx2 := hbx.below b2
  clear b1 b2 hbx hu1 hv1 hT
  cases hf : fitsL n m
  · have E : fireL n m t = ([], 2) := by simp [fireL, hf]
    go_wp2
    go_ret2
    exact givesO_of E (on_nil _ _) b3
  · obtain ⟨hno, _, hrm⟩ := fits_net hf
    obtain ⟨hx0, hx1, hx2⟩ := hbx2
    have hT3 := hT2
    obtain ⟨a, len, cap, rfl, hlen, hmx, hsh, hr⟩ := hT2
    clear hr
    by_cases ht0 : t < 0
    · have E : Hid (fireL n m t = ([], 3)) := by show _ = _; rw [fireL, hf, decide_eq_false (show ¬ 0 ≤ t by omega)]; rfl
      clear hf hno hrm
      go_wp2
      go_ret2
      exact givesO_of E.out (on_nil _ _) b3
    by_cases ht1 : (len : Int) ≤ t
    · have E : Hid (fireL n m t = ([], 3)) := by show _ = _; rw [fireL, hf, decide_eq_false (show ¬ t < n.trans.length by omega)]; simp
      clear hf hno hrm
      go_wp2
      go_ret2
      exact givesO_of E.out (on_nil _ _) b3
    obtain ⟨k, rfl⟩ := Int.eq_ofNat_of_zero_le (show 0 ≤ t by omega)
    have hkn : k < len := by omega
    have E0 : fireL n m k = (if coversL m (tranAt n.trans k).pre then
      (if rightL (addL (subL m (tranAt n.trans k).pre) (tranAt n.trans k).post) then (addL (subL m (tranAt n.trans k).pre) (tranAt n.trans k).post, 0) else ([], 4)) else ([], 3)) := by
      rw [fireL, hf, decide_eq_true (show (0 : Int) ≤ k by omega), decide_eq_true (show (k : Int) < n.trans.length by omega), Int.toNat_natCast]; simp
    have E1 : Hid _ := E0
    obtain ⟨b, off, c1, c2, rfl, hblt, h0, h1, h2, i1, i2⟩ := hT3.at hkn
    obtain ⟨hr1, hr2⟩ := tran_right (net_tran hno (show k < n.trans.length by omega))
    have hge : ¬ ((len : Int) ≤ (k : Int)) := by omega
    have HLm : Hid (m.length ≤ 17592186044416) := by show _ ≤ _; obtain ⟨_, _, _, _, h1, h2, _⟩ := hu2; omega
    have HL1 : Hid ((tranAt n.trans k).pre.length ≤ 17592186044416) := by show _ ≤ _; obtain ⟨_, _, _, _, h1, h2, _⟩ := i1; omega
    have HL2 : Hid ((tranAt n.trans k).post.length ≤ 17592186044416) := by show _ ≤ _; obtain ⟨_, _, _, _, h1, h2, _⟩ := i2; omega
    have HLz : Hid (∀ {f : Int → Int → Int} (xs ys : List Int), xs.length ≤ 17592186044416 → ys.length ≤ 17592186044416 → (zipL f xs ys).length ≤ 17592186044416) := by intro f xs ys h1 h2; rw [zipL_length]; omega
    clear E0 hf hno ht0 ht1
    generalize tranAt n.trans k = t at *
    go_wp2_with fail
    refine (acovers_b _ _ m t.pre _ hu2 i1).mono ?_
    rintro e w2 ⟨rfl, hb2⟩
    have b4 := below_then b3 hb2
    have hu3 := hu2.below hb2
    have i1' := i1.below hb2
    have i2' := i2.below hb2
    have hx1' := (hb2.cell (p := ⟨w.heap.size, 1, none⟩) hx0).trans hx2
    have h1' := (hb2.cell (p := ⟨b, _, none⟩) hblt).trans h1
    have h2' := (hb2.cell (p := ⟨b, _, none⟩) hblt).trans h2
    have hy0 := Nat.lt_of_lt_of_le hx0 hb2.size
    have hy1 := Nat.lt_of_lt_of_le hblt hb2.size
    clear hb2 hu2 i1 i2 h0 h1 h2 hx0 hx1 hx2 hT3 b3
    cases hc : coversL m t.pre
    · have E : Hid (fireL n m k = ([], 3)) := by show _ = _; rw [E1.out, hc]; rfl
      clear E1 hc
      go_wp2
      go_ret2
      exact givesO_of E.out (on_nil _ _) b4
    · have hrs : rightL (subL m t.pre) = true := by rw [subL, right_minus hrm hr1]; exact hc
      have HLs : Hid ((subL m t.pre).length ≤ 17592186044416) := by show _ ≤ _; rw [subL, zipL_length]; have := HLm.out; have := HL1.out; omega
      go_wp2
      go_region_held3 (fun w' => w'.cell? ⟨w.heap.size, 1, none⟩ = some (.slice (some ⟨b, off, none⟩) len cap) ∧ w'.cell? ⟨b, off + k * 3 + 1, none⟩ = some c1 ∧ w'.cell? ⟨b, off + k * 3 + 2, none⟩ = some c2)
        (go_keep)
        (first | (go_at_call_of 92 c1; refine (amix_own (-1) (.inr rfl) _ _ m t.pre _ ?_ ?_ hrm hr1).mono ?_; exact hu3.drewN 1; exact i1'.drewN 1; rintro e w4 ⟨r, rfl, hO4⟩; have hR := hO4.ints (HLz.out _ _ HLm.out HL1.out); have hbR := hO4.2.1; have k1 := (hbR.cell (p := ⟨w.heap.size, 1, none⟩) hy0).trans hx1'; have k2 := (hbR.cell (p := ⟨b, _, none⟩) hy1).trans h1'; have k3 := (hbR.cell (p := ⟨b, _, none⟩) hy1).trans h2') | (go_at_call_of 92 c2; refine (amix_own 1 (.inl rfl) _ _ (subL m t.pre) t.post _ ?_ ?_ hrs hr2).mono ?_; (rw [mix_less] at hR; exact hR); exact (i2'.drewN 1).below hbR; rintro e w5 ⟨r2, rfl, hO5⟩; have hR2 := hO5.ints (HLz.out _ _ HLs.out HL2.out); have hbR2 := hO5.2.1; have k1 := (hbR2.cell (p := ⟨w.heap.size, 1, none⟩) (Nat.lt_of_lt_of_le hy0 hbR.size)).trans k1; have k2 := (hbR2.cell (p := ⟨b, _, none⟩) (Nat.lt_of_lt_of_le hy1 hbR.size)).trans k2; have k3 := (hbR2.cell (p := ⟨b, _, none⟩) (Nat.lt_of_lt_of_le hy1 hbR.size)).trans k3))
      have HOn : Hid (On (fun k => w.heap.size ≤ k) w5 (fun w' => Ints w' r2 (addL (subL m t.pre) t.post))) := by
        have q := (hO5.on (HLz.out _ _ HLs.out HL2.out)).weaken (D' := fun k => w.heap.size ≤ k) fun k _ hk => Nat.le_trans (Nat.le_trans b4.size (by simpa using hbR.size)) hk
        rw [mix_one] at q; exact q
      rw [mix_one] at hR2
      have b5 : Below w.heap.size w w5 := below_then b4 ((below_drewN (Below.refl _ _) 1).trans ((hbR.trans (hbR2.mono hbR.size))))
      clear k1 k2 k3 hbR hbR2 hR i1' i2' hx1' h1' h2' hy0 hy1 hO4 hO5
      go_wp2_with fail
      refine (aright_any _ _ _ hR2).mono ?_
      rintro e w' ⟨rfl, rfl⟩
      have E2 : Hid (fireL n m k = (if rightL (zipL (fun x1 x2 => x1 + x2) (subL m t.pre) t.post) then (addL (subL m t.pre) t.post, 0) else ([], 4))) := by
        show _ = _; rw [E1.out, hc]; rfl
      clear E1 hc
      cases hz : rightL (zipL (fun x1 x2 => x1 + x2) (subL m t.pre) t.post)
      · have E : Hid (fireL n m k = ([], 4)) := by show _ = _; rw [E2.out, hz]; rfl
        clear E2 hz
        go_wp2
        go_ret2
        exact givesO_of E.out (on_nil _ _) b5
      · have E : Hid (fireL n m k = (addL (subL m t.pre) t.post, 0)) := by show _ = _; rw [E2.out, hz]; rfl
        clear E2 hz
        go_wp2
        go_ret2
        exact givesO_of E.out HOn.out b5

end Go.Proofs.YteoofibhpifmlaaDoor

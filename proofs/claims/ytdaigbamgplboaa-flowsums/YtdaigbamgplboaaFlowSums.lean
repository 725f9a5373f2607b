/- The law FlowSums, walked: it answers true, and writes nothing that was there. -/
import Derived.Test.YtdaigbamgplboaaAlive3
import Derived.Test.YtdaigbamgplboaaFlows
namespace Go.Proofs.Ytdaigbamgplboaa
open Go.RowKit
set_option linter.unusedVariables false

theorem add_zipTo {a b : List Int} {k : Nat} (h1 : a.length = k) (h2 : b.length = k) : zipTo (fun x y => x + y) a b k = addL a b := by
  unfold addL zipL zipTo; rw [h1, h2, Nat.max_self]

set_option maxHeartbeats 4000000 in
theorem flowSums_walk (v u s : Value) (n : NetL) (a b : List Int) (w : World) (hv : Net w v n) (hu : Ints w u a) (hs : Ints w s b) :
    Calls Try.prog 8 #[v, u, s] w fun e w' => e = .returned (.bool true) ∧ Below w.heap.size w w' := by
  obtain ⟨tv, rfl, hT⟩ := hv
  have c := below_new w (.cells #[.int .i64 n.places, tv] 24)
  have hbx := box2_new w (.int .i64 n.places) tv 24
  have hv : Net _ (.agg #[.int .i64 n.places, tv]) n := ⟨_, rfl, hT.below c⟩
  replace hu := hu.below c
  replace hs := hs.below c
  clear hT
  go_enter Try.func8, Try.ntmps8
  go_wp2_with fail
  refine (alive3_any _).mono ?_
  rintro e w1 ⟨rfl, b'⟩
  replace hv := hv.below b'
  replace hu := hu.below b'
  replace hs := hs.below b'
  replace hbx := hbx.below b'
  replace c := below_then c b'
  clear b'
  obtain ⟨x0, x1, x2⟩ := id hbx
  go_wp2_with fail
  refine (flow_effect _ _ n a _ (by exact hv) (by exact hu)).mono ?_
  rintro e w2 ⟨r1, rfl, hr1, b'⟩
  replace hv := hv.below b'
  replace hu := hu.below b'
  replace hs := hs.below b'
  replace hbx := hbx.below b'
  replace c := below_then c b'
  clear b' x0 x1 x2
  obtain ⟨x0, x1, x2⟩ := id hbx
  go_wp2_with fail
  refine (flow_effect _ _ n b _ (by exact hv) (by exact hs)).mono ?_
  rintro e w3 ⟨r2, rfl, hr2, b'⟩
  replace hv := hv.below b'
  replace hu := hu.below b'
  replace hs := hs.below b'
  replace hbx := hbx.below b'
  replace hr1 := hr1.below b'
  replace c := below_then c b'
  clear b' x0 x1 x2
  have Hq : Hid (∀ x y, effectL n a = (x, 0) → effectL n b = (y, 0) → _) := fun x y h1 h2 => effect_sums h1 h2
  generalize effectL n a = qa at *
  obtain ⟨x, ca⟩ := qa
  simp only at hr1 ⊢
  by_cases h0 : ca = 0
  case neg =>
    have n1 : (ca != 0) = true := by simpa using h0
    clear Hq
    go_wp2
    go_ret
    exact ⟨rfl, c⟩
  subst h0
  generalize effectL n b = qb at *
  obtain ⟨y, cb⟩ := qb
  simp only at hr2 ⊢
  by_cases h0 : cb = 0
  case neg =>
    have n1 : (cb != 0) = true := by simpa using h0
    clear Hq
    go_wp2
    go_ret
    exact ⟨rfl, c⟩
  subst h0
  obtain ⟨hab, hxy, bx, by', ba, bb, ⟨vv, t1, t2, t3⟩, hz⟩ := Hq.out x y rfl rfl
  have Bx : Hid _ := bx
  have By : Hid _ := by'
  have Ba : Hid _ := ba
  have Bb : Hid _ := bb
  have T1 : Hid _ := t1
  have T3 : Hid _ := t3
  have Hz : Hid _ := hz
  clear Hq bx by' ba bb t1 t3 hz
  obtain ⟨aa, la, pa, rfl, hla, hma, hsa, hra⟩ := id hu
  obtain ⟨ab, lb, pb, rfl, hlb, hmb, hsb, hrb⟩ := id hs
  obtain rfl : lb = la := by omega
  go_wp2_with fail
  go_loopg [11, 40] lb (fun g o i wr => ∃ k : Nat, k + g = lb ∧ i = .int .i64 k ∧ Own w3.heap.size w3 wr o (zipTo (fun x y => x + y) a b k))
  case atStart => exact ⟨0, by omega, rfl, Own.nil _⟩
  case round =>
    obtain ⟨k, hkg, rfl, hG⟩ := hrel
    by_cases hkn : k < lb
    · obtain ⟨b1, o1, rfl, hb1, c1⟩ := hra k (by omega)
      obtain ⟨b2, o2, rfl, hb2, c2⟩ := hrb k (by omega)
      have k1 := (hG.2.1.cell (p := ⟨b1, o1 + k, none⟩) hb1).trans c1
      have k2 := (hG.2.1.cell (p := ⟨b2, o2 + k, none⟩) hb2).trans c2
      obtain ⟨p1, p2⟩ := Ba.out k
      obtain ⟨p3, p4⟩ := Bb.out k
      have hwr : IntKind.i64.wrap (nth a k + nth b k) = nth a k + nth b k := wrap_id (by omega) (by omega)
      have hlz := zipTo_length (fun x y => x + y) a b k
      have Hzs : Hid _ := zipTo_succ (fun x y => x + y) a b k
      have hG1 := hG.trans (below_drewN (Below.refl wr.heap.size wr) 1)
      clear hra hrb
      go_wp2_with fail
      go_region_held3 (fun w' => w'.cell? ⟨b1, o1 + k, none⟩ = some (.int .i64 (nth a k)) ∧ w'.cell? ⟨b2, o2 + k, none⟩ = some (.int .i64 (nth b k)))
        (go_keep)
        (first
          | (refine wpr_append_int rfl _ _ rfl w3.heap.size w3 _ _ _ (nth a k + nth b k) hG1 rfl rfl (by omega) ?_; intro v' w4 hG4; have y1 := (hG4.2.1.cell (p := ⟨b1, o1 + k, none⟩) hb1).trans c1; have y2 := (hG4.2.1.cell (p := ⟨b2, o2 + k, none⟩) hb2).trans c2))
      have R : Own w3.heap.size w3 w4 v' (zipTo (fun x y => x + y) a b (k + 1)) := by rw [Hzs.out]; exact hG4
      clear y1 y2 hG hG1 hG4 k1 k2 c1 c2
      go_wp2
      go_roundg (gk - 1)
      case measure => omega
      case rel => exact ⟨k + 1, by omega, by go_num, R⟩
    · obtain rfl : k = lb := by omega
      have hO := hG.ints (by rw [zipTo_length]; omega)
      rw [add_zipTo hla hlb] at hO
      have b' := hG.2.1
      replace hv := hv.below b'
      replace hu := hu.below b'
      replace hr1 := hr1.below b'
      replace hr2 := hr2.below b'
      replace hbx := hbx.below b'
      replace c := below_then c b'
      clear b' hG hra hrb
      obtain ⟨x0, x1, x2⟩ := id hbx
      go_wp2_with fail
      refine (flow_effect _ _ n (addL a b) _ (by exact hv) (by exact hO)).mono ?_
      rintro e w5 ⟨r5, rfl, hr5, b'⟩
      replace hv := hv.below b'
      replace hu := hu.below b'
      replace hr1 := hr1.below b'
      replace hr2 := hr2.below b'
      replace hbx := hbx.below b'
      replace c := below_then c b'
      clear b' x0 x1 x2 hO
      obtain ⟨x0, x1, x2⟩ := id hbx
      go_wp2_with fail
      refine (net_turned _ n _ (by exact hv)).mono ?_
      rintro e w6 ⟨r6, rfl, hr6, b'⟩
      replace hu := hu.below b'
      replace hr1 := hr1.below b'
      replace hr2 := hr2.below b'
      replace hr5 := hr5.below b'
      replace c := below_then c b'
      clear b' x0 x1 x2 hbx hv
      go_wp2_with fail
      refine (flow_effect _ _ (turnL n) a _ (by exact hr6) (by exact hu)).mono ?_
      rintro e w7 ⟨r7, rfl, hr7, b'⟩
      rw [T1.out] at hr7
      simp only at hr7
      simp only [T1.out]
      replace hr1 := hr1.below b'
      replace hr2 := hr2.below b'
      replace hr5 := hr5.below b'
      replace c := below_then c b'
      clear b' hr6 hu T1
      generalize effectL n (addL a b) = qz at *
      obtain ⟨z, cz⟩ := qz
      simp only at hr5
      obtain ⟨a1, l1, p1, rfl, hl1, _, _, g1⟩ := hr1
      obtain ⟨a2, l2, p2, rfl, hl2, _, _, g2⟩ := hr2
      obtain ⟨a5, l5, p5, rfl, hl5, _, _, g5⟩ := hr5
      obtain ⟨a7, l7, p7, rfl, hl7, _, _, g7⟩ := hr7
      obtain rfl : l7 = l1 := by omega
      obtain rfl : l2 = l7 := by omega
      have nn : (((l2 : Nat) : Int) != (l2 : Int)) = false := by simp
      have Hlz : Hid (cz = 0 → l5 = l2) := fun h => by subst h; have := (Hz.out z rfl).1; omega
      have Hzz : Hid (cz = 0 → ∀ p, p < x.length → nth z p = nth x p + nth y p) := fun h => by subst h; exact (Hz.out z rfl).2
      clear Hz
      go_wp2_with fail
      go_loopw [80] (fun i wr => ∃ k : Nat, k ≤ l2 ∧ i = .int .i64 k ∧ ∃ j, wr = w7.drewN j) (fun i _ => l2 - (intOf i).toNat)
      case atStart => exact ⟨0, Nat.zero_le _, rfl, 0, rfl⟩
      case round =>
        obtain ⟨k, hk, rfl, j, hwm⟩ := hrel
        have Hw : Hid (wr = w7.drewN j) := hwm
        have f1 : Row wr a1 x := by rw [hwm]; exact g1.drewN j
        have f2 : Row wr a2 y := by rw [hwm]; exact g2.drewN j
        have f5 : Row wr a5 z := by rw [hwm]; exact g5.drewN j
        have f7 : Row wr a7 vv := by rw [hwm]; exact g7.drewN j
        clear hwm g1 g2 g5 g7
        by_cases hkn : k < l2
        · obtain ⟨b1, o1, rfl, _, c1⟩ := f1 k (by omega)
          obtain ⟨b7, o7, rfl, _, c7⟩ := f7 k (by omega)
          have ek := T3.out k (by omega)
          rw [ek] at c7
          obtain ⟨p1', p2'⟩ := Bx.out k
          obtain ⟨p3', p4'⟩ := By.out k
          have nk : ((- nth x k) != (- nth x k)) = false := by simp
          have hwn : IntKind.i64.wrap (- nth x k) = - nth x k := wrap_id (by omega) (by omega)
          have hwp : IntKind.i64.wrap (nth x k + nth y k) = nth x k + nth y k := wrap_id (by omega) (by omega)
          by_cases h0 : cz = 0
          · have el := Hlz.out h0
            subst h0 el
            obtain ⟨b2, o2, rfl, _, c2⟩ := f2 k (by omega)
            obtain ⟨b5, o5, rfl, _, c5⟩ := f5 k (by omega)
            have ez := Hzz.out rfl k (by omega)
            rw [ez] at c5
            have nz : ((nth x k + nth y k) != (nth x k + nth y k)) = false := by simp
            clear f1 f2 f5 f7 Bx By Ba Bb T3 Hlz Hzz ek ez
            go_wp2
            go_quiet (fail)
            go_wp2
            go_roundw
            case rel => exact ⟨k + 1, by omega, by go_num, j + nq, by rw [Hw.out, World.drewN_drewN]⟩
            case measure => simp [intOf]; omega
          · have n1 : (cz == 0) = false := by simpa using h0
            clear f1 f2 f5 f7 Bx By Ba Bb T3 Hlz Hzz ek
            go_wp2
            go_quiet (fail)
            go_wp2
            go_roundw
            case rel => exact ⟨k + 1, by omega, by go_num, j + nq, by rw [Hw.out, World.drewN_drewN]⟩
            case measure => simp [intOf]; omega
        · have R : Below w7.heap.size w7 wr := by rw [Hw.out]; exact below_drewN (Below.refl _ _) j
          clear f1 f2 f5 f7 Bx By Ba Bb T3 Hlz Hzz
          go_wp2
          go_ret
          exact ⟨rfl, below_then c R⟩

end Go.Proofs.Ytdaigbamgplboaa

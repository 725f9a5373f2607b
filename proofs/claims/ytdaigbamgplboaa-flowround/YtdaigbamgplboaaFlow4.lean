/- The answers of the document itself for flow: what is kept. -/
import Derived.Test.YtdaigbamgplboaaFlow2
import Derived.Test.YtdaigbamgplboaaFlow3
namespace Go.Proofs.Ytdaigbamgplboaa
open Go.RowKit
set_option linter.unusedVariables false

theorem dotL_sub (y a b : List Int) : dotL y (subL a b) = dotL y a - dotL y b := by
  have k1 : min y.length (subL a b).length ≤ y.length := by omega
  have k2 : min y.length a.length ≤ y.length := by omega
  have k3 : min y.length b.length ≤ y.length := by omega
  rw [dotL_sum _ _ _ k1, dotL_sum _ _ _ k2, dotL_sum _ _ _ k3, Int.sub_eq_add_neg, ← sumTo_neg, ← sumTo_add]
  refine sumTo_congr fun j _ => ?_
  rw [sub_at, Int.mul_sub]; omega
theorem dotL_add (y a b : List Int) : dotL y (addL a b) = dotL y a + dotL y b := by
  have k1 : min y.length (addL a b).length ≤ y.length := by omega
  have k2 : min y.length a.length ≤ y.length := by omega
  have k3 : min y.length b.length ≤ y.length := by omega
  rw [dotL_sum _ _ _ k1, dotL_sum _ _ _ k2, dotL_sum _ _ _ k3, ← sumTo_add]
  refine sumTo_congr fun j _ => ?_
  rw [add_at, Int.mul_add]

theorem mul_bound_abs {a b x y : Int} (h1 : -x ≤ a) (h2 : a ≤ x) (h3 : 0 ≤ b) (h4 : b ≤ y) (hx : 0 ≤ x) : -(x * y) ≤ a * b ∧ a * b ≤ x * y := by
  have q1 : a * b ≤ x * b := Int.mul_le_mul_of_nonneg_right h2 h3
  have q2 : (-x) * b ≤ a * b := Int.mul_le_mul_of_nonneg_right h1 h3
  have q3 : x * b ≤ x * y := Int.mul_le_mul_of_nonneg_left h4 hx
  rw [Int.neg_mul] at q2
  omega

/-- A sum of products that is not great. -/
theorem dotL_bound {y a : List Int} {x z : Int} (hx : 0 ≤ x) (hy : ∀ j, -x ≤ nth y j ∧ nth y j ≤ x) (ha : ∀ j, 0 ≤ nth a j ∧ nth a j ≤ z) : -(x * z * y.length) ≤ dotL y a ∧ dotL y a ≤ x * z * y.length := by
  rw [dotL_sum y a y.length (by omega)]
  have h : ∀ j, -(x * z) ≤ nth y j * nth a j ∧ nth y j * nth a j ≤ x * z := fun j => mul_bound_abs (hy j).1 (hy j).2 (ha j).1 (ha j).2 hx
  have h1 := sumTo_le (f := fun _ => -(x * z)) (g := fun j => nth y j * nth a j) (k := y.length) fun j _ => (h j).1
  have h2 := sumTo_le (f := fun j => nth y j * nth a j) (g := fun _ => x * z) (k := y.length) fun j _ => (h j).2
  rw [sumTo_const] at h1 h2
  rw [Int.neg_mul] at h1
  exact ⟨h1, h2⟩

theorem within_nth {y : List Int} {many least : Int} (h : withinL y many least = true) (hl : least ≤ 0) (j : Nat) : least ≤ nth y j ∧ nth y j ≤ 1000000 := by
  obtain ⟨_, h2⟩ := (withinL_iff _ _ _).1 h
  by_cases hj : j < y.length
  · exact h2 j hj
  · rw [nth_past y j (by omega)]; omega

theorem kept_bound {n : NetL} {y : List Int} (hn : netOk n = true) (hw : withinL y n.places (-1000000) = true) {a : List Int} (ha : ∀ j, 0 ≤ nth a j ∧ nth a j ≤ 9) : -144000000 ≤ dotL y a ∧ dotL y a ≤ 144000000 := by
  obtain ⟨p0, p1, _⟩ := netOk_head hn
  obtain ⟨l1, _⟩ := (withinL_iff _ _ _).1 hw
  have := dotL_bound (x := 1000000) (z := 9) (by omega) (fun j => within_nth hw (by omega) j) ha
  omega

theorem kept_step {n : NetL} {y : List Int} (hn : netOk n = true) (hw : withinL y n.places (-1000000) = true) {t : TranL} (ht : tranOk n.places t = true) :
    (weighL y (subL t.post t.pre) == 0) = (dotL y t.pre == dotL y t.post) := by
  obtain ⟨_, _, w1, w2⟩ := tranOk_parts ht
  have h1 := kept_bound hn hw w1
  have h2 := kept_bound hn hw w2
  unfold weighL
  rw [dotL_sub, wrap_id (by omega) (by omega), Bool.eq_iff_iff, beq_iff_eq, beq_iff_eq]
  omega

def keptTo (n : NetL) (y : List Int) (k : Nat) : Bool := netOk n && withinL y n.places (-1000000) && (n.trans.take k).all fun t => dotL y t.pre == dotL y t.post
theorem keptTo_succ (n : NetL) (y : List Int) (k : Nat) (h : k < n.trans.length) : keptTo n y (k + 1) = (keptTo n y k && (dotL y (tranAt n.trans k).pre == dotL y (tranAt n.trans k).post)) := by
  unfold keptTo
  rw [List.take_succ_eq_append_getElem h, List.all_append]
  simp [tranAt, List.getD, List.getElem?_eq_getElem h, Bool.and_assoc]
theorem keptTo_all (n : NetL) (y : List Int) (k : Nat) (h : n.trans.length ≤ k) : keptTo n y k = keptL n y := by
  unfold keptTo keptL; rw [List.take_of_length_le h]
theorem keptTo_base {n : NetL} {y : List Int} {k : Nat} (h : keptTo n y k = true) : netOk n = true ∧ withinL y n.places (-1000000) = true := by
  simp only [keptTo, Bool.and_eq_true] at h; exact h.1

set_option maxHeartbeats 1000000 in
theorem ckept_any (v u : Value) (n : NetL) (y : List Int) (w : World) (hv : Net w v n) (hu : Ints w u y) (hsm : SmallNet n) :
    Calls Try.prog 17 #[v, u] w fun e w' => e = .returned (.bool (keptL n y)) ∧ Below w.heap.size w w' := by
  obtain ⟨tv, rfl, hT⟩ := hv
  have b1 := below_new w (.cells #[.int .i64 n.places, tv] 24)
  have hbx := box2_new w (.int .i64 n.places) tv 24
  replace hu := hu.below b1
  have hv : Net _ _ n := ⟨tv, rfl, hT.below b1⟩
  replace hT := hT.below b1
  obtain ⟨a, len, cap, rfl, hlen, hmx, hsh, _⟩ := id hT
  have Hst : Hid _ := keptTo_succ n y
  have Hall : Hid _ := keptTo_all n y
  go_enter Try.func17, Try.ntmps17
  go_upto_region 1 with fail
  go_cut [5] (fun o wc => o = .bool (keptTo n y 0) ∧ Below w.heap.size w wc ∧ Ints wc u y ∧ Trans wc (.slice a len cap) n.trans ∧ Box2 wc w.heap.size (.int .i64 n.places) (.slice a len cap))
  case first =>
    clear Hst Hall
    go_wp2_with fail
    refine (bwrong_any _ n _ (by exact hv) hsm).mono ?_
    rintro e w1 ⟨rfl, b2⟩
    replace hu := hu.below b2
    replace hT := hT.below b2
    replace hbx := hbx.below b2
    replace b1 := below_then b1 b2
    clear b2 hv
    obtain ⟨x0, x1, x2⟩ := id hbx
    cases h1 : netOk n
    · rw [wrongL_not h1]
      have F : Hid (keptTo n y 0 = false) := by show _ = _; simp [keptTo, h1]
      clear h1
      go_wp2_with fail
      go_meet
      exact ⟨by rw [F.out], b1, hu, hT, hbx⟩
    · rw [wrongL_ok h1]
      have F : Hid (keptTo n y 0 = withinL y n.places (-1000000)) := by show _ = _; simp [keptTo, h1]
      clear h1
      go_wp2_with fail
      refine (cwithin_any _ y _ _ _ (by exact hu)).mono ?_
      rintro e w2 ⟨rfl, rfl⟩
      go_wp2_with fail
      go_meet
      exact ⟨by rw [F.out], b1, hu, hT, hbx⟩
  case rest =>
    clear b1 hu hT hbx hv
    obtain ⟨rfl, b1, hu, hT, hbx⟩ := hcut
    obtain ⟨w0, rfl⟩ : ∃ w0, w0 = wc := ⟨_, rfl⟩
    obtain ⟨x0, x1, x2⟩ := hbx
    go_wp2_with fail
    clear x0 x1 x2
    go_loopg [5, 20] len (fun g o i wr => ∃ k : Nat, k + g = len ∧ i = .int .i64 k ∧ o = .bool (keptTo n y k) ∧ Below w0.heap.size w0 wr)
    case atStart => exact ⟨0, by omega, rfl, rfl, Below.refl _ _⟩
    case round =>
      obtain ⟨k, hkg, rfl, rfl, hb⟩ := hrel
      by_cases hkn : k < len
      · obtain ⟨b, off, c1, c2, rfl, hblt, h0, h1, h2, i1, i2⟩ := (hT.below hb).at hkn
        obtain ⟨a1, l1, p1, rfl, _, _, _, _⟩ := id i1
        obtain ⟨a2, l2, p2, rfl, _, _, _, _⟩ := id i2
        have Hs : Hid _ := Hst.out k (by omega)
        have hbn := below_new wr (.cells #[.int .i64 (tranAt n.trans k).label, .slice a1 l1 p1, .slice a2 l2 p2] 44)
        have Hto : Hid (netOk n = true → tranOk n.places (tranAt n.trans k) = true) := fun h => net_tran h (by omega)
        generalize tranAt n.trans k = t at *
        clear Hst Hall
        cases hA : keptTo n y k
        · have F : Hid (keptTo n y (k + 1) = false) := by show _ = _; rw [Hs.out, hA]; rfl
          have R := below_then hb hbn
          clear Hs hA Hto i1 i2
          go_wp2
          go_roundg (gk - 1)
          case measure => omega
          case rel => exact ⟨k + 1, by omega, by go_num, by rw [F.out], R⟩
        · obtain ⟨hn, hw⟩ := keptTo_base hA
          have ht := Hto.out hn
          obtain ⟨r1, r2⟩ := tran_right ht
          have F : Hid (keptTo n y (k + 1) = (weighL y (subL t.post t.pre) == 0)) := by show _ = _; rw [Hs.out, hA, kept_step hn hw ht]; rfl
          clear Hs hA Hto hn hw ht
          replace i1 := i1.below hbn
          replace i2 := i2.below hbn
          have hu2 := (hu.below hb).below hbn
          go_wp2_with fail
          refine (amix_any (-1) (.inr rfl) _ _ t.post t.pre _ (by exact i2) (by exact i1) r2 r1).mono ?_
          rintro e w4 ⟨r, rfl, hR, hbR⟩
          rw [mix_less] at hR
          replace hu2 := hu2.below hbR
          have hb4 := below_then hb (below_then hbn hbR)
          clear hbn hbR i1 i2 h0 h1 h2 hb
          go_wp2_with fail
          refine (cweigh_any y _ _ _ _ (by exact hu2) (by exact hR)).mono ?_
          rintro e w5 ⟨rfl, hb5⟩
          have R := below_then hb4 hb5
          have Fe : Hid (zipL (fun x1 x2 => x1 - x2) t.post t.pre = subL t.post t.pre) := rfl
          rw [Fe.out]
          generalize weighL y (subL t.post t.pre) = d at *
          clear hb4 hb5 hR hu2
          go_wp2
          go_roundg (gk - 1)
          case measure => omega
          case rel => exact ⟨k + 1, by omega, by go_num, by rw [F.out], R⟩
      · have F : Hid (keptTo n y k = keptL n y) := Hall.out k (by omega)
        rw [F.out]
        clear Hst Hall F
        go_wp2
        go_ret
        exact ⟨rfl, below_then b1 hb⟩

end Go.Proofs.Ytdaigbamgplboaa

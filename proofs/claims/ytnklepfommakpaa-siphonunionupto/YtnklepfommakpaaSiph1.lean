/- What the laws of siphons ask of marks and nets. -/
import Derived.Test.YtnklepfommakpaaSiphBase2
import Derived.Test.YtnklepfommakpaaNetDev
import Derived.Test.YtnklepfommakpaaSlices1
import Derived.Test.YtnklepfommakpaaSlices4
import Derived.Test.YtnklepfommakpaaOwnG
namespace Go.Proofs.Ytnklepfommakpaa
open Go.RowKit
set_option linter.unusedVariables false

def bareTo (m l : List Int) (k : Nat) : Prop := ∀ j, j < k → ¬ (0 ≤ nth l j ∧ nth l j < m.length ∧ 0 < nth m (nth l j).toNat)
theorem bareTo_all {m l : List Int} (h : bareTo m l l.length) : bareL m l = true := by
  cases hb : bareL m l with
  | true => rfl
  | false =>
    exfalso
    obtain ⟨p, h1, h2⟩ := bareL_iff.1 hb
    obtain ⟨j, hj, e⟩ := List.getElem_of_mem h1
    refine h j hj ?_
    have : nth l j = p := by simp [nth, List.getD, List.getElem?_eq_getElem hj, e]
    rw [this]; exact h2
theorem bareTo_no {m l : List Int} {j : Nat} (hj : j < l.length) (h : 0 ≤ nth l j ∧ nth l j < m.length ∧ 0 < nth m (nth l j).toNat) : bareL m l = false := by
  have e : nth l j = l[j] := by simp [nth, List.getD, List.getElem?_eq_getElem hj]
  exact bareL_iff.2 ⟨nth l j, by rw [e]; exact List.getElem_mem hj, h⟩
theorem bareTo_succ {m l : List Int} {k : Nat} (h : bareTo m l k) (hn : ¬ (0 ≤ nth l k ∧ nth l k < m.length ∧ 0 < nth m (nth l k).toNat)) : bareTo m l (k + 1) := by
  intro j hj
  by_cases e : j = k
  · subst e; exact hn
  · exact h j (by omega)

set_option maxHeartbeats 1000000 in
theorem bare_any (v u : Value) (m l : List Int) (w : World) (hv : Ints w v m) (hu : Ints w u l) :
    Calls Try.prog 19 #[v, u] w fun e w' => e = .returned (.bool (bareL m l)) ∧ w' = w := by
  obtain ⟨a, la, ca, rfl, hla, hma, hsa, hra⟩ := hv
  obtain ⟨b, lb, cb, rfl, hlb, hmb, hsb, hrb⟩ := hu
  have HN : Hid (∀ j, j < lb → (0 ≤ nth l j ∧ nth l j < la ∧ 0 < nth m (nth l j).toNat) → bareL m l = false) := fun j hj h => bareTo_no (j := j) (by omega) (by rw [hla]; exact h)
  have HS : Hid (∀ k, bareTo m l k → ¬ (0 ≤ nth l k ∧ nth l k < la ∧ 0 < nth m (nth l k).toNat) → bareTo m l (k + 1)) := fun k h hn => bareTo_succ h (by rw [hla]; exact hn)
  have HA : Hid (bareTo m l lb → bareL m l = true) := fun h => bareTo_all (by rw [hlb]; exact h)
  go_enter Try.func19, Try.ntmps19
  go_wp2_with fail
  go_loop [9] (fun i => ∃ k : Nat, k ≤ lb ∧ i = .int .i64 k ∧ Hid (bareTo m l k)) (fun i => lb - (intOf i).toNat)
  case atStart => exact ⟨0, Nat.zero_le _, rfl, fun j hj => absurd hj (Nat.not_lt_zero _)⟩
  case round =>
    obtain ⟨k, hk, rfl, hB⟩ := hrel
    by_cases hkn : k < lb
    · obtain ⟨bb, off, rfl, hbb, hc⟩ := hrb k (by omega)
      have Hn : Hid _ := HN.out k hkn
      have Hs : Hid _ := HS.out k hB.out
      clear hrb HN HS HA hB
      generalize nth l k = p at *
      by_cases h0 : p < 0
      · have R : Hid _ := Hs.out (by omega)
        clear Hn Hs hra
        go_wp2
        go_round
        case rel => exact ⟨k + 1, by omega, by go_num, R⟩
        case measure => simp [intOf]; omega
      · by_cases h1 : (la : Int) ≤ p
        · have R : Hid _ := Hs.out (by omega)
          clear Hn Hs hra
          go_wp2
          go_round
          case rel => exact ⟨k + 1, by omega, by go_num, R⟩
          case measure => simp [intOf]; omega
        · obtain ⟨q, rfl⟩ := Int.eq_ofNat_of_zero_le (show 0 ≤ p by omega)
          obtain ⟨ba, offa, rfl, hba, hca⟩ := hra q (by omega)
          rw [Int.toNat_natCast] at Hn Hs
          clear hra
          have hql : q < la := by omega
          generalize nth m q = x at *
          by_cases h2 : 0 < x
          · have R : Hid _ := Hn.out ⟨by omega, by omega, h2⟩
            clear Hn Hs
            go_wp2
            go_ret
            exact ⟨ret_bool R.out.symm, rfl⟩
          · have R : Hid _ := Hs.out (by omega)
            clear Hn Hs
            go_wp2
            go_round
            case rel => exact ⟨k + 1, by omega, by go_num, R⟩
            case measure => simp [intOf]; omega
    · have e : k = lb := by omega
      have R : Hid (bareL m l = true) := HA.out (by rw [← e]; exact hB.out)
      go_wp2
      go_ret
      exact ⟨ret_bool R.out.symm, rfl⟩

theorem nth_left {xs ys : List Int} {p : Nat} (h : p < xs.length) : nth (xs ++ ys) p = nth xs p := by
  simp [nth, List.getD, List.getElem?_append_left h]
theorem nth_right {xs ys : List Int} (p : Nat) : nth (xs ++ ys) (xs.length + p) = nth ys p := by
  simp [nth, List.getD, List.getElem?_append_right]

theorem max_one {pre post : List Int} (h : ¬ 1 < maxL ((pre ++ post) ++ [0])) : (∀ p, nth pre p ≤ 1) ∧ ∀ p, nth post p ≤ 1 := by
  constructor
  · intro p
    rcases Nat.lt_or_ge p pre.length with q | q
    · have := maxL_ge (xs := (pre ++ post) ++ [0]) (j := p) (by simp; omega)
      rw [nth_left (by simp; omega), nth_left q] at this
      omega
    · rw [nth_past _ _ q]; omega
  · intro p
    rcases Nat.lt_or_ge p post.length with q | q
    · have := maxL_ge (xs := (pre ++ post) ++ [0]) (j := pre.length + p) (by simp; omega)
      rw [nth_left (by simp; omega), nth_right] at this
      omega
    · rw [nth_past _ _ q]; omega
theorem max_some {pre : List Int} (h : maxL (pre ++ [0]) ≠ 0) : ∃ p, nth pre p ≠ 0 := by
  obtain ⟨j, h1, h2⟩ := maxL_at (xs := pre ++ [0]) (by simp)
  rcases Nat.lt_or_ge j pre.length with q | q
  · exact ⟨j, by rw [nth_left q] at h2; rw [← h2]; exact h⟩
  · exfalso
    apply h
    have e : j = pre.length + 0 := by simp at h1; omega
    rw [h2, e, nth_right]
    rfl

theorem lists_lit2b (w : World) (b : Nat) (u v : Value) (xs ys : List Int) (hu : Ints w u xs) (hv : Ints w v ys) (hb : b = w.heap.size) : Lists (w.alloc (.cells #[u, v] 25)) (.slice (some ⟨b, 0, none⟩) 2 2) [xs, ys] := by
  subst hb
  have b1 := below_new w (.cells #[u, v] 25)
  refine ⟨_, _, _, rfl, rfl, by omega, ⟨by omega, by omega, fun h => by cases h⟩, fun j hj => ?_⟩
  match j, hj with
  | 0, _ => exact ⟨w.heap.size, 0, u, rfl, by simp, by rw [World.cell?_alloc_at _ _ _ _ rfl]; rfl, hu.below b1⟩
  | 1, _ => exact ⟨w.heap.size, 0, v, rfl, by simp, by rw [World.cell?_alloc_at _ _ _ _ rfl]; rfl, hv.below b1⟩
  | j + 2, h => simp at h; omega

set_option maxRecDepth 4000 in
set_option maxHeartbeats 2000000 in
theorem ordinary_any (v : Value) (n : NetL) (w : World) (hv : Net w v n) (hsm : ∀ k, k < n.trans.length → (tranAt n.trans k).pre.length + (tranAt n.trans k).post.length + 1 ≤ 17592186044416) :
    Calls Try.prog 27 #[v] w fun e w' => ∃ o : Bool, e = .returned (.bool o) ∧ (o = true → OrdN n) ∧ Below w.heap.size w w' := by
  obtain ⟨tv, rfl, hT⟩ := hv
  have b1 := below_new w (.cells #[.int .i64 n.places, tv] 24)
  have hbx := box2_new w (.int .i64 n.places) tv 24
  have hv : Net _ (.agg #[.int .i64 n.places, tv]) n := ⟨tv, rfl, hT.below b1⟩
  replace hT := hT.below b1
  obtain ⟨w1, Hw1⟩ : ∃ w1, Hid (w.alloc (.cells #[.int .i64 n.places, tv] 24) = w1) := ⟨_, rfl⟩
  rw [Hw1.out] at b1 hbx hv hT
  obtain ⟨a, len, cap, rfl, hlen, hmx, hsh, _⟩ := id hT
  obtain ⟨x0, x1, x2⟩ := id hbx
  have Hsm : Hid _ := hsm
  clear hsm
  go_enter Try.func27, Try.ntmps27
  go_upto_region 1 with fail
  rw [Hw1.out]
  clear Hw1
  go_wp2_with fail
  clear x0 x1 x2
  go_loopg [8] len (fun g i wr => ∃ k : Nat, k + g = len ∧ i = .int .i64 k ∧ Hid (∀ j, j < k → ordT (tranAt n.trans j)) ∧ Below w1.heap.size w1 wr)
  case atStart => exact ⟨0, by omega, rfl, fun j hj => absurd hj (Nat.not_lt_zero _), Below.refl _ _⟩
  case round =>
    obtain ⟨k, hkg, rfl, hK, hb⟩ := hrel
    by_cases hkn : k < len
    · obtain ⟨bt, off, c1, c2, rfl, hblt, h0, h1, h2, i1, i2⟩ := (hT.below hb).at hkn
      have HL : Hid ((tranAt n.trans k).pre.length + (tranAt n.trans k).post.length + 1 ≤ 17592186044416) := Hsm.out k (by omega)
      have Hst : Hid (ordT (tranAt n.trans k) → ∀ j, j < k + 1 → ordT (tranAt n.trans j)) := by
        intro h j hj
        by_cases e : j = k
        · subst e; exact h
        · exact hK.out j (by omega)
      obtain ⟨a1, l1, p1, rfl, _, _, _, _⟩ := id i1
      obtain ⟨a2, l2, p2, rfl, _, _, _, _⟩ := id i2
      have hbn := below_new wr (.cells #[.int .i64 (tranAt n.trans k).label, .slice a1 l1 p1, .slice a2 l2 p2] 45)
      have hbx3 := box3_new wr (.int .i64 (tranAt n.trans k).label) (.slice a1 l1 p1) (.slice a2 l2 p2) 45
      replace i1 := i1.below hbn
      replace i2 := i2.below hbn
      generalize tranAt n.trans k = t at *
      obtain ⟨wt, Hwt⟩ : ∃ wt, Hid (wr.alloc (.cells #[.int .i64 t.label, .slice a1 l1 p1, .slice a2 l2 p2] 45) = wt) := ⟨_, rfl⟩
      rw [Hwt.out] at hbn hbx3 i1 i2
      go_upto_region 4 with fail
      rw [Hwt.out]
      clear Hwt h0 h1 h2 hK
      obtain ⟨z0, z1, z2, z3⟩ := id hbx3
      have hlist := lists_lit2b wt _ _ _ _ _ i1 i2 rfl
      have bl := below_new wt (.cells #[.slice a1 l1 p1, .slice a2 l2 p2] 25)
      go_wp2_with fail
      refine (concat_own _ [t.pre, t.post] _ (by exact hlist) (by have := HL.out; simp; omega)).mono ?_
      rintro e w2 ⟨r2, rfl, hO2⟩
      rw [show [t.pre, t.post].flatten = t.pre ++ t.post by simp] at hO2
      have q2 := below_then bl hO2.2.1
      go_wp2_with (first | (at_builtin; refine wp_append_int rfl _ _ rfl _ _ _ _ _ 0 hO2 rfl rfl (by have := HL.out; simp; omega) ?_; intro v3 w3 hO3) | fail)
      refine (max_any _ _ _ (hO3.ints (by have := HL.out; simp; omega)) (by simp; omega)).mono ?_
      rintro e w4 ⟨rfl, rfl⟩
      have q3 := below_then bl hO3.2.1
      have Hone : Hid _ := max_one (pre := t.pre) (post := t.post)
      generalize maxL (t.pre ++ t.post ++ [0]) = mx at *
      by_cases hm1 : 1 < mx
      · have R := below_then b1 (below_then hb (below_then hbn q3))
        clear hO2 hO3 q2 hlist bl z0 z1 z2 z3
        go_wp2
        go_ret
        exact ⟨false, rfl, (fun h => by cases h), R⟩
      · have Hone2 : Hid _ := Hone.out hm1
        have i13 := i1.below q3
        obtain ⟨y0, y1, y2, y3⟩ := hbx3.below q3
        clear hO2 hO3 q2 hlist bl z0 z1 z2 z3 Hone
        have hm2 : ¬ (1 : Int) < mx := hm1
        go_wp2_with fail
        refine (clone_any _ t.pre _ (by exact i13)).mono ?_
        rintro e w5 ⟨r5, rfl, hO5⟩
        go_wp2_with (first | (at_builtin; refine wp_append_int_g (by simp [Region.wanted, yielded]; omega) _ _ rfl _ _ _ _ _ 0 hO5 rfl rfl (by have := HL.out; omega) ?_; intro v6 w6 hO6) | fail)
        refine (max_any _ _ _ (hO6.ints (by have := HL.out; simp; omega)) (by simp)).mono ?_
        rintro e w7 ⟨rfl, rfl⟩
        have q6 := below_then q3 hO6.2.1
        have Hsome : Hid _ := max_some (pre := t.pre)
        generalize maxL (t.pre ++ [0]) = mx2 at *
        clear hO5 hO6 i13 y0 y1 y2 y3
        by_cases hm3 : mx2 = 0
        · have R := below_then b1 (below_then hb (below_then hbn q6))
          subst hm3
          go_wp2
          go_ret
          exact ⟨false, rfl, (fun h => by cases h), R⟩
        · have hne : (mx2 == 0) = false := by simpa using hm3
          have R : Hid _ := Hst.out ⟨Hone2.out.1, Hone2.out.2, Hsome.out hm3⟩
          have R2 := below_then hb (below_then hbn q6)
          clear Hst Hone2 Hsome
          go_wp2
          go_roundg (gk - 1)
          case measure => omega
          case rel => exact ⟨k + 1, by omega, by go_num, R, R2⟩
    · have ek : k = n.trans.length := by omega
      obtain ⟨x0, x1, x2⟩ := hbx.below hb
      have HO : Hid (netOk n = true → 0 < n.trans.length → OrdN n) := fun h1 h2 => ⟨h1, h2, fun j hj => hK.out j (by omega)⟩
      have hvb := hv.below hb
      go_wp2_with fail
      refine (net_wrong _ n _ (by exact hvb)).mono ?_
      rintro e w2 ⟨rfl, b2⟩
      obtain ⟨y0, y1, y2⟩ := (hbx.below hb).below b2
      have R := below_then b1 (below_then hb b2)
      clear x0 x1 x2 hK
      cases hno : netOk n with
      | false =>
        rw [wrongL_not hno]
        go_wp2
        go_ret
        exact ⟨false, rfl, (fun h => by cases h), R⟩
      | true =>
        rw [wrongL_ok hno]
        have HO2 : Hid _ := HO.out hno
        clear HO hno
        by_cases hl0 : 0 < len
        · have HO3 : Hid _ := HO2.out (by omega)
          go_wp2
          go_ret
          exact ⟨true, rfl, fun _ => HO3.out, R⟩
        · have hlz : len = 0 := by omega
          subst hlz
          go_wp2
          go_ret
          exact ⟨false, rfl, (fun h => by cases h), R⟩

end Go.Proofs.Ytnklepfommakpaa

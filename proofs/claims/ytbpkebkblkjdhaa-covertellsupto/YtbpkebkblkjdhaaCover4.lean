/- The answers of the document itself for cover: the most at a place; whether two trees are the same. -/
import Derived.Test.YtbpkebkblkjdhaaCover3
import Derived.Test.YtbpkebkblkjdhaaNet6
namespace Go.Proofs.Ytbpkebkblkjdhaa
open Go.RowKit
set_option linter.unusedVariables false

theorem topL_take (p : Nat) (l : List KnotL) (x : Int) (j : Nat) (hj : j < l.length) : topL p (l.take (j + 1)) x = (if moreL (nth (knotOf l j).mark p) (topL p (l.take j) x) then nth (knotOf l j).mark p else topL p (l.take j) x) := by
  unfold topL
  rw [List.take_succ_eq_append_getElem hj, List.foldl_append, knotOf_get hj]; rfl
theorem tree_marks {n : NetL} {m : List Int} {most : Int} {l : List KnotL} (h : treeL n m most = (l, 0)) : l.length ≤ 300 ∧ ∀ j, j < l.length → ((knotOf l j).mark.length : Int) = n.places := by
  obtain ⟨s, rfl, hs⟩ := treeL_ok h
  refine ⟨by rw [List.length_map]; exact hs.room, fun j hj => ?_⟩
  rw [List.length_map] at hj
  rw [knotOf_map hj]
  exact (hs.marks hj).1

set_option maxHeartbeats 2000000 in
theorem elimit_any (v u : Value) (n : NetL) (m : List Int) (p most : Int) (w : World) (hv : Net w v n) (hu : Ints w u m) (hsm : SmallNet n) :
    Calls Try.prog 11 #[v, u, .int .i64 p, .int .i64 most] w fun e w' => e = .returned (.tuple #[.int .i64 (limitL n m p most).1, .int .i64 (limitL n m p most).2]) ∧ Below w.heap.size w w' := by
  obtain ⟨tv, rfl, hT⟩ := hv
  have c := below_new w (.cells #[.int .i64 n.places, tv] 24)
  have hbx := box2_new w (.int .i64 n.places) tv 24
  have hv : Net _ (.agg #[.int .i64 n.places, tv]) n := ⟨_, rfl, hT.below c⟩
  replace hu := hu.below c
  clear hT
  go_enter Try.func11, Try.ntmps11
  go_wp2_with fail
  refine (etree_any _ _ n m most _ (by exact hv) (by exact hu) hsm).mono ?_
  rintro e w2 ⟨r, rfl, hr, b⟩
  replace hbx := hbx.below b
  replace c := below_then c b
  clear b hv hu
  have HL : Hid (limitL n m p most = if (treeL n m most).2 == 0 then (if decide (0 ≤ p) && decide (p < n.places) then (topL p.toNat (treeL n m most).1 0, 0) else (0, 3)) else (0, (treeL n m most).2)) := rfl
  have HM : Hid (∀ l, treeL n m most = (l, 0) → l.length ≤ 300 ∧ ∀ j, j < l.length → ((knotOf l j).mark.length : Int) = n.places) := fun l h => tree_marks h
  generalize treeL n m most = q at *
  obtain ⟨l, cd⟩ := q
  simp only at hr HL ⊢
  obtain ⟨x0, x1, x2⟩ := id hbx
  by_cases h0 : cd = 0
  case neg =>
    have n0 : (cd != 0) = true := by simpa using h0
    have n1 : (cd == 0) = false := by simpa using h0
    have E : Hid (limitL n m p most = (0, cd)) := by show _ = _; rw [HL.out, n1]; rfl
    clear HL HM
    go_wp2
    go_ret2
    exact ⟨by rw [E.out]; rfl, c⟩
  subst h0
  by_cases hp0 : 0 ≤ p
  case neg =>
    have E : Hid (limitL n m p most = (0, 3)) := by show _ = _; rw [HL.out, decide_eq_false hp0]; rfl
    clear HL HM
    go_wp2
    go_ret2
    exact ⟨by rw [E.out]; rfl, c⟩
  by_cases hp1 : p < n.places
  case neg =>
    have E : Hid (limitL n m p most = (0, 3)) := by show _ = _; rw [HL.out, decide_eq_false hp1]; simp
    clear HL HM
    go_wp2
    go_ret2
    exact ⟨by rw [E.out]; rfl, c⟩
  have E : Hid (limitL n m p most = (topL p.toNat l 0, 0)) := by show _ = _; rw [HL.out, decide_eq_true hp0, decide_eq_true hp1]; rfl
  obtain ⟨hl3, hml⟩ := HM.out l rfl
  have Hml : Hid _ := hml
  obtain ⟨P, rfl⟩ := Int.eq_ofNat_of_zero_le hp0
  have E2 : Hid (limitL n m (P : Int) most = (topL P l 0, 0)) := by have := E.out; rw [Int.toNat_natCast] at this; exact this
  obtain ⟨ak, ck, rfl, _, _⟩ := hr.slice
  obtain ⟨len, Hlen⟩ : ∃ len, Hid (l.length = len) := ⟨_, rfl⟩
  rw [Hlen.out] at hr hl3 ⊢
  clear HL HM hml
  go_wp2_with fail
  clear x0 x1 x2
  go_loopg [12, 39] len (fun g o i wr => ∃ j : Nat, j + g = len ∧ i = .int .i64 j ∧ o = .int .i64 (topL P (l.take j) 0) ∧ Below w2.heap.size w2 wr)
  case atStart => exact ⟨0, by omega, rfl, rfl, Below.refl _ _⟩
  case round =>
    obtain ⟨j, hjg, rfl, rfl, hb⟩ := hrel
    by_cases hjn : j < len
    · obtain ⟨g, o, u1, rfl, hg, h0, h1, h2, i1⟩ := (hr.below hb).at hjn
      have hmj := Hml.out j (by have := Hlen.out; omega)
      have Ht : Hid _ := topL_take P l 0 j (by have := Hlen.out; omega)
      obtain ⟨kn, Hkn⟩ : ∃ kn, Hid (knotOf l j = kn) := ⟨_, rfl⟩
      rw [Hkn.out] at h0 h1 i1 hmj Ht
      obtain ⟨au, lu, cu, rfl, hlu, _, _, _⟩ := id i1
      have hPl : P < lu := by omega
      have hbn := below_new wr (.cells #[.int .i64 kn.up, .int .i64 kn.tran, .slice au lu cu] 39)
      have hbx3 := box3_new wr (.int .i64 kn.up) (.int .i64 kn.tran) (.slice au lu cu) 39
      replace i1 := i1.below hbn
      obtain ⟨wt, Hwt⟩ : ∃ wt, Hid (wr.alloc (.cells #[.int .i64 kn.up, .int .i64 kn.tran, .slice au lu cu] 39) = wt) := ⟨_, rfl⟩
      rw [Hwt.out] at hbn hbx3 i1
      obtain ⟨_, _, _, e, _, _, _, hri⟩ := i1
      injection e with e1 e2 e3
      subst e1 e2 e3
      obtain ⟨bi, oi, rfl, hbi, hci⟩ := hri P (by omega)
      clear hri
      obtain ⟨d, Hd⟩ : ∃ d, Hid (topL P (l.take j) 0 = d) := ⟨_, rfl⟩
      rw [Hd.out] at Ht ⊢
      go_upto_region 10 with fail
      rw [Hwt.out]
      clear Hwt h0 h1 h2
      obtain ⟨z0, z1, z2, z3⟩ := hbx3
      have R := below_then hb hbn
      go_wp2_with fail
      refine (emore_any _ _ _).mono ?_
      rintro e w5 ⟨rfl, rfl⟩
      cases hm : moreL (nth kn.mark P) d
      · have F : Hid (topL P (l.take (j + 1)) 0 = d) := by show _ = _; rw [Ht.out, hm]; rfl
        clear Ht hm
        go_wp2
        go_roundg (gk - 1)
        case measure => omega
        case rel => exact ⟨j + 1, by omega, by go_num, by rw [F.out], R⟩
      · have F : Hid (topL P (l.take (j + 1)) 0 = nth kn.mark P) := by show _ = _; rw [Ht.out, hm]; rfl
        clear Ht hm
        go_wp2
        go_roundg (gk - 1)
        case measure => omega
        case rel => exact ⟨j + 1, by omega, by go_num, by rw [F.out], R⟩
    · have F : Hid (topL P (l.take j) 0 = topL P l 0) := by show _ = _; rw [List.take_of_length_le (by have := Hlen.out; omega)]
      rw [F.out]
      have R := below_then c hb
      go_wp2
      go_ret2
      exact ⟨by rw [E2.out]; rfl, R⟩

set_option maxHeartbeats 1000000 in
theorem sameknot1_any (k : KnotL) (u1 u2 : Value) (w : World) (h1 : Ints w u1 k.mark) (h2 : Ints w u2 k.mark) :
    Calls Try.prog 35 #[.agg #[.int .i64 k.up, .int .i64 k.tran, u1], .agg #[.int .i64 k.up, .int .i64 k.tran, u2]] w fun e w' => e = .returned (.bool true) ∧ Below w.heap.size w w' := by
  obtain ⟨a1, l1, p1, rfl, _, _, _, _⟩ := id h1
  obtain ⟨a2, l2, p2, rfl, _, _, _, _⟩ := id h2
  have b1 := below_new w (.cells #[.int .i64 k.up, .int .i64 k.tran, .slice a1 l1 p1] 39)
  have b2 := below_new (w.alloc (.cells #[.int .i64 k.up, .int .i64 k.tran, .slice a1 l1 p1] 39)) (.cells #[.int .i64 k.up, .int .i64 k.tran, .slice a2 l2 p2] 39)
  have b3 := below_then b1 b2
  have h1' := h1.below b3
  have h2' := h2.below b3
  go_enter Try.func35, Try.ntmps35
  go_wp2_with fail
  refine (equal_b _ _ k.mark k.mark _ (by exact h1') (by exact h2')).mono ?_
  rintro e w2 ⟨rfl, b4⟩
  rw [beq_self_eq_true]
  have R := below_then b3 b4
  go_wp2
  go_ret
  exact ⟨rfl, R⟩

set_option maxHeartbeats 1000000 in
theorem equalknots_any (v u : Value) (l : List KnotL) (w : World) (hv : Knots w v l) (hu : Knots w u l) :
    Calls Try.prog 34 #[v, u, .func (.func 35) #[] #[]] w fun e w' => e = .returned (.bool true) ∧ Below w.heap.size w w' := by
  obtain ⟨a, ca, rfl, hla, _⟩ := hv.slice
  obtain ⟨b, cb, rfl, _, _⟩ := hu.slice
  obtain ⟨len, Hlen⟩ : ∃ len, Hid (l.length = len) := ⟨_, rfl⟩
  rw [Hlen.out] at hv hu hla ⊢
  have e1 : (((len : Nat) : Int) != (len : Int)) = false := by simp
  go_enter Try.func34, Try.ntmps34
  go_wp2_with fail
  go_loopg [17] len (fun g i wr => ∃ k : Nat, k + g = len ∧ i = .int .i64 k ∧ Below w.heap.size w wr)
  case atStart => exact ⟨0, by omega, rfl, Below.refl _ _⟩
  case round =>
    obtain ⟨k, hkg, rfl, hb⟩ := hrel
    by_cases hkn : k < len
    · obtain ⟨g1, o1, u1, rfl, _, h0, h1, h2, i1⟩ := (hv.below hb).at hkn
      obtain ⟨g2, o2, u2, rfl, _, k0, k1, k2, i2⟩ := (hu.below hb).at hkn
      obtain ⟨kn, Hkn⟩ : ∃ kn, Hid (knotOf l k = kn) := ⟨_, rfl⟩
      rw [Hkn.out] at h0 h1 i1 k0 k1 i2
      obtain ⟨a1, l1, p1, rfl, _, _, _, _⟩ := id i1
      obtain ⟨a2, l2, p2, rfl, _, _, _, _⟩ := id i2
      have m1 := below_new wr (.cells #[.int .i64 kn.up, .int .i64 kn.tran, .slice a1 l1 p1] 39)
      have m2 := below_new (wr.alloc (.cells #[.int .i64 kn.up, .int .i64 kn.tran, .slice a1 l1 p1] 39)) (.cells #[.int .i64 kn.up, .int .i64 kn.tran, .slice a2 l2 p2] 39)
      have m3 := below_then m1 m2
      go_wp2_with fail
      refine (sameknot1_any kn _ _ _ (by exact i1.below m3) (by exact i2.below m3)).mono ?_
      rintro e w2 ⟨rfl, b4⟩
      have b5 := below_then hb (below_then m3 b4)
      clear m1 m2 m3 b4 i1 i2 h0 h1 h2 k0 k1 k2
      go_wp2
      go_roundg (gk - 1)
      case measure => omega
      case rel => exact ⟨k + 1, by omega, by go_num, b5⟩
    · go_wp2
      go_ret
      exact ⟨rfl, hb⟩

theorem sameknots_any (v u : Value) (l : List KnotL) (w : World) (hv : Knots w v l) (hu : Knots w u l) :
    Calls Try.prog 12 #[v, u] w fun e w' => e = .returned (.bool true) ∧ Below w.heap.size w w' := by
  go_enter Try.func12, Try.ntmps12
  go_wp2_with fail
  refine (equalknots_any _ _ l _ (by exact hv) (by exact hu)).mono ?_
  rintro e w1 ⟨rfl, b⟩
  go_wp2
  go_ret
  exact ⟨rfl, b⟩

end Go.Proofs.Ytbpkebkblkjdhaa

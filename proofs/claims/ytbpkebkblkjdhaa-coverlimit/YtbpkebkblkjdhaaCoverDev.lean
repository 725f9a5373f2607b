/- Package cover as it landed: Tree and Limit. -/
import Derived.Test.YtbpkebkblkjdhaaCoverDev8
namespace Go.Proofs.Ytbpkebkblkjdhaa
open Go.RowKit
set_option linter.unusedVariables false

theorem cover_tree (v u : Value) (n : NetL) (m : List Int) (most : Int) (w : World) (hv : Net w v n) (hu : Ints w u m) :
    Calls Try.prog 8 #[v, u, .int .i64 most] w fun e w' => GivesK w (treeL n m most) e w' :=
  (tree_core v u n m most w hv hu).mono fun e w' h => by
    obtain ⟨r, he, hb, hr | ⟨s, ms, x, M, W, h1, h2, h3, h4⟩⟩ := h
    · exact ⟨r, he, by rw [hr.1, hr.2]; exact Knots.nil _, hb⟩
    · exact ⟨r, he, by rw [h1]; exact h4.knots h2, hb⟩

theorem topC_take (p : Nat) (l : List KnotL) (x : Int) (j : Nat) (hj : j < l.length) : topL p (l.take (j + 1)) x = (if moreL (nth (knotOf l j).mark p) (topL p (l.take j) x) then nth (knotOf l j).mark p else topL p (l.take j) x) := by
  unfold topL
  rw [List.take_succ_eq_append_getElem hj, List.foldl_append, knotOf_get hj]; rfl
theorem treeC_marks {n : NetL} {m : List Int} {most : Int} {l : List KnotL} (h : treeL n m most = (l, 0)) : l.length ≤ 300 ∧ ∀ j, j < l.length → ((knotOf l j).mark.length : Int) = n.places := by
  obtain ⟨s, rfl, hs⟩ := treeL_ok h
  refine ⟨by rw [List.length_map]; exact hs.room, fun j hj => ?_⟩
  rw [List.length_map] at hj
  rw [knotOf_map hj]
  exact (hs.marks hj).1

set_option maxHeartbeats 2000000 in
theorem cover_limit (v u : Value) (n : NetL) (m : List Int) (p most : Int) (w : World) (hv : Net w v n) (hu : Ints w u m) :
    Calls Try.prog 10 #[v, u, .int .i64 p, .int .i64 most] w fun e w' => e = .returned (.tuple #[.int .i64 (limitL n m p most).1, .int .i64 (limitL n m p most).2]) ∧ Below w.heap.size w w' := by
  obtain ⟨tv, rfl, hT⟩ := hv
  have c := below_new w (.cells #[.int .i64 n.places, tv] 24)
  have hbx := box2_new w (.int .i64 n.places) tv 24
  have hv : Net _ (.agg #[.int .i64 n.places, tv]) n := ⟨_, rfl, hT.below c⟩
  replace hu := hu.below c
  clear hT
  go_enter Try.func10, Try.ntmps10
  go_wp2_with fail
  refine (cover_tree _ _ n m most _ (by exact hv) (by exact hu)).mono ?_
  rintro e w2 ⟨r, rfl, hr, b⟩
  replace hbx := hbx.below b
  replace c := below_then c b
  clear b hv hu
  have HL : Hid (limitL n m p most = if (treeL n m most).2 == 0 then (if decide (0 ≤ p) && decide (p < n.places) then (topL p.toNat (treeL n m most).1 0, 0) else (0, 3)) else (0, (treeL n m most).2)) := rfl
  have HM : Hid (∀ l, treeL n m most = (l, 0) → l.length ≤ 300 ∧ ∀ j, j < l.length → ((knotOf l j).mark.length : Int) = n.places) := fun l h => treeC_marks h
  generalize treeL n m most = q at *
  obtain ⟨l, cd⟩ := q
  simp only at hr HL ⊢
  obtain ⟨x0, x1, x2⟩ := id hbx
  by_cases h0 : cd = 0
  case neg =>
    have n0 : (cd != 0) = true := by simpa using h0
    have n1 : (cd == 0) = false := by simpa using h0
    have E : Hid (limitL n m p most = (0, cd)) := by show _ = _; rw [HL.out, n1]; rfl
    clear HL HM
    go_wp2
    go_ret2
    exact ⟨by rw [E.out]; rfl, c⟩
  subst h0
  by_cases hp0 : 0 ≤ p
  case neg =>
    have E : Hid (limitL n m p most = (0, 3)) := by show _ = _; rw [HL.out, decide_eq_false hp0]; rfl
    clear HL HM
    go_wp2
    go_ret2
    exact ⟨by rw [E.out]; rfl, c⟩
  by_cases hp1 : p < n.places
  case neg =>
    have E : Hid (limitL n m p most = (0, 3)) := by show _ = _; rw [HL.out, decide_eq_false hp1]; simp
    clear HL HM
    go_wp2
    go_ret2
    exact ⟨by rw [E.out]; rfl, c⟩
  have E : Hid (limitL n m p most = (topL p.toNat l 0, 0)) := by show _ = _; rw [HL.out, decide_eq_true hp0, decide_eq_true hp1]; rfl
  obtain ⟨hl3, hml⟩ := HM.out l rfl
  have Hml : Hid _ := hml
  obtain ⟨P, rfl⟩ := Int.eq_ofNat_of_zero_le hp0
  have E2 : Hid (limitL n m (P : Int) most = (topL P l 0, 0)) := by have := E.out; rw [Int.toNat_natCast] at this; exact this
  obtain ⟨ak, ck, rfl, _, _⟩ := hr.slice
  obtain ⟨len, Hlen⟩ : ∃ len, Hid (l.length = len) := ⟨_, rfl⟩
  rw [Hlen.out] at hr hl3 ⊢
  clear HL HM hml
  go_wp2_with fail
  clear x0 x1 x2
  go_loopg [12, 35] len (fun g o i wr => ∃ j : Nat, j + g = len ∧ i = .int .i64 j ∧ o = .int .i64 (topL P (l.take j) 0) ∧ Below w2.heap.size w2 wr)
  case atStart => exact ⟨0, by omega, rfl, rfl, Below.refl _ _⟩
  case round =>
    obtain ⟨j, hjg, rfl, rfl, hb⟩ := hrel
    by_cases hjn : j < len
    · obtain ⟨g, o, u1, rfl, hg, h0, h1, h2, i1⟩ := (hr.below hb).at hjn
      have hmj := Hml.out j (by have := Hlen.out; omega)
      have Ht : Hid _ := topC_take P l 0 j (by have := Hlen.out; omega)
      obtain ⟨kn, Hkn⟩ : ∃ kn, Hid (knotOf l j = kn) := ⟨_, rfl⟩
      rw [Hkn.out] at h0 h1 i1 hmj Ht
      obtain ⟨au, lu, cu, rfl, hlu, _, _, _⟩ := id i1
      have hPl : P < lu := by omega
      have hbn := below_new wr (.cells #[.int .i64 kn.up, .int .i64 kn.tran, .slice au lu cu] 39)
      have hbx3 := box3_new wr (.int .i64 kn.up) (.int .i64 kn.tran) (.slice au lu cu) 39
      replace i1 := i1.below hbn
      obtain ⟨wt, Hwt⟩ : ∃ wt, Hid (wr.alloc (.cells #[.int .i64 kn.up, .int .i64 kn.tran, .slice au lu cu] 39) = wt) := ⟨_, rfl⟩
      rw [Hwt.out] at hbn hbx3 i1
      obtain ⟨_, _, _, e, _, _, _, hri⟩ := i1
      injection e with e1 e2 e3
      subst e1 e2 e3
      obtain ⟨bi, oi, rfl, hbi, hci⟩ := hri P (by omega)
      clear hri
      obtain ⟨d, Hd⟩ : ∃ d, Hid (topL P (l.take j) 0 = d) := ⟨_, rfl⟩
      rw [Hd.out] at Ht ⊢
      go_upto_region 10 with fail
      rw [Hwt.out]
      clear Hwt h0 h1 h2
      obtain ⟨z0, z1, z2, z3⟩ := hbx3
      have R := below_then hb hbn
      go_wp2_with fail
      refine (cmore_any _ _ _).mono ?_
      rintro e w5 ⟨rfl, rfl⟩
      cases hm : moreL (nth kn.mark P) d
      · have F : Hid (topL P (l.take (j + 1)) 0 = d) := by show _ = _; rw [Ht.out, hm]; rfl
        clear Ht hm
        go_wp2
        go_roundg (gk - 1)
        case measure => omega
        case rel => exact ⟨j + 1, by omega, by go_num, by rw [F.out], R⟩
      · have F : Hid (topL P (l.take (j + 1)) 0 = nth kn.mark P) := by show _ = _; rw [Ht.out, hm]; rfl
        clear Ht hm
        go_wp2
        go_roundg (gk - 1)
        case measure => omega
        case rel => exact ⟨j + 1, by omega, by go_num, by rw [F.out], R⟩
    · have F : Hid (topL P (l.take j) 0 = topL P l 0) := by show _ = _; rw [List.take_of_length_le (by have := Hlen.out; omega)]
      rw [F.out]
      have R := below_then c hb
      go_wp2
      go_ret2
      exact ⟨by rw [E2.out]; rfl, R⟩

end Go.Proofs.Ytbpkebkblkjdhaa

/- The law NetMore, walked: it answers true, and writes nothing that was there. -/
import Derived.Test.YtnojfeofdlocaaaAlive2
namespace Go.Proofs.Ytnojfeofdlocaaa
open Go.RowKit
set_option linter.unusedVariables false

theorem plus_add {xs ys : List Int} (h1 : rightL xs = true) (h2 : rightL ys = true) (h3 : rightL (addL xs ys) = true) : plusL xs ys = (addL xs ys, 0) := plusL_ok h1 h2 h3

/-- What the law asks of its marks. -/
def moreTo (m d : List Int) (k : Nat) : Prop := ∀ j, j < k → nth m j ≤ 400000 ∧ nth d j ≤ 400000 ∧ 0 ≤ nth d j
theorem moreTo_succ {m d : List Int} {k : Nat} (h : moreTo m d k) (h1 : nth m k ≤ 400000) (h2 : nth d k ≤ 400000) (h3 : 0 ≤ nth d k) : moreTo m d (k + 1) := by
  intro j hj
  by_cases hjk : j < k
  · exact h j hjk
  · obtain rfl : j = k := by omega
    exact ⟨h1, h2, h3⟩

theorem more_all {n : NetL} {m d seq x : List Int} (hl : d.length = m.length) (hs : seq.length ≤ 1000) (h : moreTo m d m.length) (hr : runL n m seq = (x, 0)) :
    plusL m d = (addL m d, 0) ∧ runL n (addL m d) seq = (addL x d, 0) ∧ plusL x d = (addL x d, 0) := by
  have h' : ∀ j, nth m j ≤ 400000 ∧ nth d j ≤ 400000 ∧ 0 ≤ nth d j := by
    intro j
    by_cases hj : j < m.length
    · exact h j hj
    · rw [nth_past m j (by omega), nth_past d j (by omega)]; omega
  obtain ⟨hf, hf'⟩ := run_fits seq hr
  obtain ⟨_, _, hm⟩ := fits_net hf
  obtain ⟨_, _, hx⟩ := fits_net hf'
  obtain ⟨g1, g2, g3⟩ := run_more seq hr hl (fun j => (h' j).2.2) (fun j => by have := h' j; omega)
  have hd : rightL d = true := (rightL_iff _).2 fun j => by have := h' j; omega
  have hm' := (rightL_iff _).1 hm
  have hx' := (rightL_iff _).1 hx
  exact ⟨plus_add hm hd ((rightL_iff _).2 fun j => by have := h' j; have := hm' j; rw [add_at]; omega), g1, plus_add hx hd ((rightL_iff _).2 fun j => by
    have := h' j; have := hx' j; have := g2 j; rw [add_at]; omega)⟩

set_option maxHeartbeats 1000000 in
theorem netMore_walk (v u d s : Value) (n : NetL) (m more seq : List Int) (w : World) (hv : Net w v n) (hu : Ints w u m) (hd : Ints w d more) (hs : Ints w s seq) :
    Calls Try.prog 5 #[v, u, d, s] w fun e w' => e = .returned (.bool true) ∧ Below w.heap.size w w' := by
  obtain ⟨tv, rfl, hT⟩ := hv
  have c := below_new w (.cells #[.int .i64 n.places, tv] 24)
  have hbx := box2_new w (.int .i64 n.places) tv 24
  have hv : Net _ (.agg #[.int .i64 n.places, tv]) n := ⟨_, rfl, hT.below c⟩
  replace hu := hu.below c
  replace hd := hd.below c
  replace hs := hs.below c
  go_enter Try.func5, Try.ntmps5
  go_wp2_with fail
  refine (alive2_any _).mono ?_
  rintro e w1 ⟨rfl, b⟩
  replace hv := hv.below b
  replace hu := hu.below b
  replace hd := hd.below b
  replace hs := hs.below b
  replace hbx := hbx.below b
  replace c := below_then c b
  clear b
  obtain ⟨a1, l1, p1, rfl, hl1, hm1, hs1, hr1⟩ := id hu
  obtain ⟨a2, l2, p2, rfl, hl2, hm2, hs2, hr2⟩ := id hd
  obtain ⟨a3, l3, p3, rfl, hl3, hm3, hs3, _⟩ := id hs
  by_cases hl : l2 = l1
  case neg =>
    have e1 : (((l2 : Nat) : Int) != (l1 : Int)) = true := by simp; omega
    go_wp2
    go_ret
    exact ⟨rfl, c⟩
  subst hl
  have e1 : (((l2 : Nat) : Int) != (l2 : Int)) = false := by simp
  by_cases hq : l3 ≤ 1000
  case neg =>
    go_wp2
    go_ret
    exact ⟨rfl, c⟩
  go_wp2_with fail
  go_loop [32] (fun i => ∃ k : Nat, k ≤ l2 ∧ i = .int .i64 k ∧ Hid (moreTo m more k)) (fun i => l2 - (intOf i).toNat)
  case atStart => exact ⟨0, Nat.zero_le _, rfl, fun j hj => absurd hj (Nat.not_lt_zero _)⟩
  case round =>
    obtain ⟨k, hk, rfl, HM⟩ := hrel
    by_cases hkn : k < l2
    · obtain ⟨b1, o1, rfl, _, hc1⟩ := hr1 k (by omega)
      obtain ⟨b2, o2, rfl, _, hc2⟩ := hr2 k (by omega)
      have Hst : Hid _ := moreTo_succ HM.out
      clear hr1 hr2
      by_cases q1 : nth m k ≤ 400000
      · by_cases q2 : nth more k ≤ 400000
        · by_cases q3 : 0 ≤ nth more k
          · have F : Hid (moreTo m more (k + 1)) := Hst.out q1 q2 q3
            go_wp2
            go_round
            case rel => exact ⟨k + 1, by omega, by go_num, F⟩
            case measure => simp [intOf]; omega
          · go_wp2
            go_ret
            exact ⟨rfl, c⟩
        · go_wp2
          go_ret
          exact ⟨rfl, c⟩
      · go_wp2
        go_ret
        exact ⟨rfl, c⟩
    · have hkl : k = l2 := by omega
      have HA : Hid _ := fun x => more_all (n := n) (m := m) (d := more) (seq := seq) (x := x) (by omega) (by omega) (by rw [hl1, ← hkl]; exact HM.out)
      clear hkl HM hr1 hr2
      obtain ⟨x0, x1, x2⟩ := id hbx
      go_wp2_with fail
      refine (net_run n seq _ _ _ m _ (by exact hv) (by exact hu) (by exact hs)).mono ?_
      rintro e w2 ⟨r, rfl, hr, b⟩
      replace hv := hv.below b
      replace hu := hu.below b
      replace hd := hd.below b
      replace hs := hs.below b
      replace hbx := hbx.below b
      replace c := below_then c b
      clear b x0 x1 x2
      have Herr : Hid _ := run_err (n := n) seq (m := m)
      generalize runL n m seq = q at *
      obtain ⟨x, cd⟩ := q
      simp only at hr ⊢
      by_cases h0 : cd = 0
      · subst h0
        obtain ⟨g1, g2, g3⟩ := HA.out x rfl
        have G2 : Hid _ := g2
        have G3 : Hid _ := g3
        clear HA Herr g2 g3
        go_wp2_with fail
        refine (plus_any _ _ m more _ (by exact hu) (by exact hd)).mono ?_
        rintro e w3 ⟨r3, rfl, hr3, b⟩
        rw [g1] at hr3
        simp only [g1]
        replace hv := hv.below b
        replace hd := hd.below b
        replace hs := hs.below b
        replace hr := hr.below b
        replace hbx := hbx.below b
        replace c := below_then c b
        clear b g1
        obtain ⟨x0, x1, x2⟩ := id hbx
        go_wp2_with fail
        refine (net_run n seq _ _ _ (addL m more) _ (by exact hv) (by exact hr3) (by exact hs)).mono ?_
        rintro e w4 ⟨r4, rfl, hr4, b⟩
        rw [G2.out] at hr4
        simp only [G2.out]
        replace hd := hd.below b
        replace hr := hr.below b
        replace c := below_then c b
        clear b G2 x0 x1 x2
        go_wp2_with fail
        refine (plus_any _ _ x more _ (by exact hr) (by exact hd)).mono ?_
        rintro e w5 ⟨r5, rfl, hr5, b⟩
        rw [G3.out] at hr5
        simp only [G3.out]
        replace hr4 := hr4.below b
        replace c := below_then c b
        clear b G3
        go_wp2_with fail
        refine (equal_b _ _ (addL x more) (addL x more) _ (by exact hr4) (by exact hr5)).mono ?_
        rintro e w6 ⟨rfl, b⟩
        replace c := below_then c b
        go_wp2
        go_ret
        exact ⟨by simp, c⟩
      · have n1 : (cd != 0) = true := by simpa using h0
        have hx : x = [] := Herr.out h0
        subst hx
        obtain ⟨a4, l4, p4, rfl, hl4, _, _, _⟩ := hr
        simp only [List.length_nil] at hl4
        subst hl4
        clear HA Herr
        go_wp2
        go_ret
        exact ⟨rfl, c⟩

end Go.Proofs.Ytnojfeofdlocaaa

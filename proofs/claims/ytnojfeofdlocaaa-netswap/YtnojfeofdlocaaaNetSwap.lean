/- The law NetSwap, walked: it answers true, and writes nothing that was there. -/
import Derived.Test.YtnojfeofdlocaaaAlive2
import Derived.Test.YtnojfeofdlocaaaSlices2
namespace Go.Proofs.Ytnojfeofdlocaaa
open Go.RowKit
set_option linter.unusedVariables false

def great (x : Int) : Bool := decide (900000 < x)
set_option maxHeartbeats 400000 in
theorem swap1_any : Asks1 24 great := by
  intro x w
  by_cases h : 900000 < x <;>
  · go_enter Try.func24, Try.ntmps24
    go_wp2
    go_ret
    exact ⟨by simp [great, h], rfl⟩

theorem not_great {m : List Int} (h : anyL m great = false) (j : Nat) : nth m j ≤ 900000 := by
  by_cases hj : j < m.length
  · unfold anyL at h
    rw [List.any_eq_false] at h
    have := h _ (List.getElem_mem hj)
    simp only [great, decide_eq_true_eq] at this
    simp only [nth, List.getD, List.getElem?_eq_getElem hj, Option.getD_some]
    omega
  · rw [nth_past m j (by omega)]; omega

theorem wrong_ok {n : NetL} (h : wrongL n = 0) : netOk n = true := by
  cases hn : netOk n
  · simp [wrongL, hn] at h
  · rfl

theorem plus_pre {n : NetL} (hn : netOk n = true) {t u : Nat} (ht : t < n.trans.length) (hu : u < n.trans.length) :
    plusL (tranAt n.trans t).pre (tranAt n.trans u).pre = (addL (tranAt n.trans t).pre (tranAt n.trans u).pre, 0) := by
  have pt := post_le hn ht
  have pu := post_le hn hu
  exact plusL_ok ((rightL_iff _).2 fun j => by have := pt j; omega) ((rightL_iff _).2 fun j => by have := pu j; omega) ((rightL_iff _).2 fun j => by
    have := pt j; have := pu j; rw [sum_at]; omega)

set_option maxHeartbeats 2000000 in
theorem netSwap_walk (v vm : Value) (n : NetL) (m : List Int) (t u : Int) (w : World) (hv : Net w v n) (hm : Ints w vm m) :
    Calls Try.prog 6 #[v, vm, .int .i64 t, .int .i64 u] w fun e w' => e = .returned (.bool true) ∧ Below w.heap.size w w' := by
  obtain ⟨tv, rfl, hT⟩ := hv
  have c := below_new w (.cells #[.int .i64 n.places, tv] 24)
  have hbx := box2_new w (.int .i64 n.places) tv 24
  have hv : Net _ (.agg #[.int .i64 n.places, tv]) n := ⟨_, rfl, hT.below c⟩
  replace hT := hT.below c
  replace hm := hm.below c
  go_enter Try.func6, Try.ntmps6
  go_wp2_with fail
  refine (alive2_any _).mono ?_
  rintro e w1 ⟨rfl, q⟩
  replace hv := hv.below q
  replace hT := hT.below q
  replace hm := hm.below q
  replace hbx := hbx.below q
  replace c := below_then c q
  clear q
  obtain ⟨x0, x1, x2⟩ := id hbx
  go_wp2_with fail
  refine (net_wrong _ n _ (by exact hv)).mono ?_
  rintro e w2 ⟨rfl, q⟩
  replace hv := hv.below q
  replace hT := hT.below q
  replace hm := hm.below q
  replace hbx := hbx.below q
  replace c := below_then c q
  clear q x0 x1 x2
  by_cases h0 : wrongL n = 0
  case neg =>
    have n1 : (wrongL n != 0) = true := by simpa using h0
    go_wp2
    go_ret
    exact ⟨rfl, c⟩
  have hno := wrong_ok h0
  rw [h0]
  clear h0
  obtain ⟨x0, x1, x2⟩ := id hbx
  obtain ⟨a, len, cap, rfl, hlen, hmx⟩ := hT.get
  by_cases t0 : t < 0
  · go_wp2
    go_ret
    exact ⟨rfl, c⟩
  by_cases u0 : u < 0
  · go_wp2
    go_ret
    exact ⟨rfl, c⟩
  by_cases t1 : (len : Int) ≤ t
  · go_wp2
    go_ret
    exact ⟨rfl, c⟩
  by_cases u1 : (len : Int) ≤ u
  · go_wp2
    go_ret
    exact ⟨rfl, c⟩
  obtain ⟨i, rfl⟩ := Int.eq_ofNat_of_zero_le (show 0 ≤ t by omega)
  obtain ⟨j, rfl⟩ := Int.eq_ofNat_of_zero_le (show 0 ≤ u by omega)
  have hil : i < len := by omega
  have hjl : j < len := by omega
  have Hpp : Hid _ := plus_pre hno (show i < n.trans.length by omega) (show j < n.trans.length by omega)
  go_wp2_with fail
  refine (containsfunc_any 24 great swap1_any Try.call24 _ m _ (by exact hm)).mono ?_
  rintro e w' ⟨rfl, hw'⟩
  subst hw'
  cases hg : anyL m great
  case true =>
    go_wp2
    go_ret
    exact ⟨rfl, c⟩
  have Hgr : Hid _ := not_great hg
  clear hg
  obtain ⟨b1, o1, c1, c2, rfl, hb1, k0, k1, k2, i1, i2⟩ := hT.at hil
  obtain ⟨b2, o2, d1, d2, e2, hb2, l0, l1, l2, j1, j2⟩ := hT.at hjl
  injection e2 with e2
  injection e2 with e3 e4
  subst e3 e4
  clear k0 k2 i2 l0 l2 j2 c2 d2
  go_wp2
  go_region_held3 (fun w' => w'.cell? ⟨w.heap.size, 1, none⟩ = some (.slice (some ⟨b1, o1, none⟩) len cap) ∧ w'.cell? ⟨b1, o1 + i * 3 + 1, none⟩ = some c1 ∧ w'.cell? ⟨b1, o1 + j * 3 + 1, none⟩ = some d1)
    (go_keep)
    (first | (go_at_call 22; refine (plus_any _ _ (tranAt n.trans i).pre (tranAt n.trans j).pre _ ?_ ?_).mono ?_; exact i1.drewN 1; exact j1.drewN 1; rintro e w3 ⟨r3, rfl, hr3, q3⟩; have q3 := below_then (below_drewN (Below.refl _ _) 1) q3; have y1 := (q3.cell (p := ⟨w.heap.size, 1, none⟩) x0).trans x2; have y2 := (q3.cell (p := ⟨b1, _, none⟩) hb1).trans k1; have y3 := (q3.cell (p := ⟨b1, _, none⟩) hb1).trans l1))
  rw [Hpp.out] at hr3
  simp only [Hpp.out]
  replace hv := hv.below q3
  replace hm := hm.below q3
  replace hbx := hbx.below q3
  replace c := below_then c q3
  clear q3 y1 y2 y3 Hpp x0 x1 x2 k1 l1 i1 j1 hb1 hb2
  obtain ⟨x0, x1, x2⟩ := id hbx
  obtain ⟨am, lm, pm, rfl, hlm, _, _, _⟩ := id hm
  by_cases hl : (lm : Int) = n.places
  case neg =>
    have n1 : ((lm : Int) != n.places) = true := by simpa using hl
    go_wp2
    go_ret
    exact ⟨rfl, c⟩
  have n1 : ((lm : Int) != n.places) = false := by simpa using hl
  have Hl : Hid ((m.length : Int) = n.places) := by rw [hlm]; exact hl
  clear hl
  go_wp2_with fail
  refine (right_any _ m _ (by exact hm)).mono ?_
  rintro e w' ⟨rfl, hw'⟩
  obtain rfl : w3 = w' := hw'.symm
  cases hr : rightL m
  case false =>
    go_wp2
    go_ret
    exact ⟨rfl, c⟩
  have Hr : Hid (rightL m = true) := hr
  clear hr
  go_wp2_with fail
  refine (covers_any _ _ m _ _ (by exact hm) (by exact hr3)).mono ?_
  rintro e w' ⟨rfl, hw'⟩
  obtain rfl : w3 = w' := hw'.symm
  cases hc : coversL m (addL (tranAt n.trans i).pre (tranAt n.trans j).pre)
  case false =>
    go_wp2
    go_ret
    exact ⟨rfl, c⟩
  obtain ⟨z, g1, g2⟩ := fire_swap hno (show i < n.trans.length by omega) (show j < n.trans.length by omega) Hl.out Hr.out Hgr.out (fun p => by
    have := (coversL_iff _ _).1 hc p; rw [add_at] at this; exact this)
  have G1 : Hid _ := g1
  have G2 : Hid _ := g2
  clear g1 g2 hc hr3 Hgr
  have b1 := below_new w3 (.cells #[.int .i64 (i : Int), .int .i64 (j : Int)] 3)
  go_wp2_with fail
  refine (net_run n [(i : Int), (j : Int)] _ _ _ m _ (by exact hv.below b1) (by exact hm.below b1) (by exact ints_lit w3 _ [(i : Int), (j : Int)] 3 2 rfl (by omega) rfl)).mono ?_
  rintro e w4 ⟨r4, rfl, hr4, q⟩
  rw [G1.out] at hr4
  simp only [G1.out]
  replace q := below_then b1 q
  replace hv := hv.below q
  replace hm := hm.below q
  replace hbx := hbx.below q
  replace c := below_then c q
  clear q b1 x0 x1 x2 G1
  obtain ⟨x0, x1, x2⟩ := id hbx
  have b1 := below_new w4 (.cells #[.int .i64 (j : Int), .int .i64 (i : Int)] 3)
  go_wp2_with fail
  refine (net_run n [(j : Int), (i : Int)] _ _ _ m _ (by exact hv.below b1) (by exact hm.below b1) (by exact ints_lit w4 _ [(j : Int), (i : Int)] 3 2 rfl (by omega) rfl)).mono ?_
  rintro e w5 ⟨r5, rfl, hr5, q⟩
  rw [G2.out] at hr5
  simp only [G2.out]
  replace q := below_then b1 q
  replace hr4 := hr4.below q
  replace c := below_then c q
  clear q b1 G2
  go_wp2_with fail
  refine (equal_b _ _ z z _ (by exact hr4) (by exact hr5)).mono ?_
  rintro e w6 ⟨rfl, q⟩
  replace c := below_then c q
  go_wp2
  go_ret
  exact ⟨by simp, c⟩

end Go.Proofs.Ytnojfeofdlocaaa

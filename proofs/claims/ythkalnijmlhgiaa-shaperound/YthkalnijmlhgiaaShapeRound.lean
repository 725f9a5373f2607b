/- The law ShapeRound, walked: it answers true, and writes nothing that was there. -/
import Derived.Deep.RegionHeld3
import Derived.Test.YthkalnijmlhgiaaAlive8
import Derived.Test.YthkalnijmlhgiaaNet6
import Derived.Test.YthkalnijmlhgiaaSlices2
namespace Go.Proofs.Ythkalnijmlhgiaa
open Go.RowKit
set_option linter.unusedVariables false
set_option maxRecDepth 4000

theorem trans_front {w : World} {a : Option Addr} {len cap : Nat} {ts : List TranL} (h : Trans w (.slice a len cap) ts) {k : Nat} (hk : k ≤ len) : Trans w (.slice a k cap) (ts.take k) := by
  obtain ⟨a', len', cap', e, hl, hm, hs, hr⟩ := h
  injection e with e1 e2 e3
  subst e1 e2 e3
  refine ⟨_, _, _, rfl, by rw [List.length_take]; omega, by omega, ⟨by have := hs.1; omega, hs.2.1, hs.2.2⟩, fun j hj => ?_⟩
  have hj2 : j < k ∧ j < ts.length := by rw [List.length_take] at hj; omega
  have e : tranAt (ts.take k) j = tranAt ts j := by
    unfold tranAt List.getD
    rw [List.getElem?_take, if_pos hj2.1]
  rw [e]
  exact hr j hj2.2

theorem same_net_self (n : NetL) : sameN n n = true := by
  unfold sameN sameTs sameTo sameT
  simp

set_option maxRecDepth 4000 in
set_option maxHeartbeats 4000000 in
theorem shapeRound_walk (v sv : Value) (n : NetL) (i o : Int) (seq : List Int) (w : World) (hv : Net w v n) (hs : Ints w sv seq) :
    Calls Try.prog 5 #[v, .int .i64 i, .int .i64 o, sv] w fun e w' => e = .returned (.bool true) ∧ Below w.heap.size w w' := by
  obtain ⟨tv, rfl, hT⟩ := hv
  have c := below_new w (.cells #[.int .i64 n.places, tv] 24)
  have hbx := box2_new w (.int .i64 n.places) tv 24
  have hv : Net _ (.agg #[.int .i64 n.places, tv]) n := ⟨_, rfl, hT.below c⟩
  replace hs := hs.below c
  clear hT
  go_enter Try.func5, Try.ntmps5
  go_wp2_with fail
  refine (alive8_any _).mono ?_
  rintro e w1 ⟨rfl, b⟩
  replace hv := hv.below b
  replace hs := hs.below b
  replace hbx := hbx.below b
  replace c := below_then c b
  clear b
  obtain ⟨x0, x1, x2⟩ := id hbx
  go_wp2_with fail
  refine (shape_close _ n i o _ (by exact hv)).mono ?_
  rintro e w2 ⟨r, cn, d, rfl, ⟨hr, hC⟩, b⟩
  replace hv := hv.below b
  replace hs := hs.below b
  replace hbx := hbx.below b
  replace c := below_then c b
  clear b x0 x1 x2
  obtain ⟨cv, rfl, hCt⟩ := hr
  obtain ⟨ca, cl, cc, rfl, hcl, _, hshc, _⟩ := id hCt
  have hccl : cl ≤ cc := hshc.1
  have bn := below_new w2 (.cells #[.int .i64 cn.places, .slice ca cl cc] 24)
  have hbc := box2_new w2 (.int .i64 cn.places) (.slice ca cl cc) 24
  obtain ⟨w3, Hw3⟩ : ∃ w3, Hid (w2.alloc (.cells #[.int .i64 cn.places, .slice ca cl cc] 24) = w3) := ⟨_, rfl⟩
  rw [Hw3.out] at bn hbc
  replace hv := hv.below bn
  replace hs := hs.below bn
  replace hbx := hbx.below bn
  replace c := below_then c bn
  replace hCt := hCt.below bn
  clear bn
  go_upto_region 4 with fail
  rw [Hw3.out]
  clear Hw3
  by_cases hd0 : d = 0
  · subst hd0
    obtain ⟨hS, hl, rfl⟩ := hC.zero
    clear hC
    have HN : Hid (netOk n = true) := hS.ok
    obtain ⟨tv2, e, hT⟩ := id hv
    obtain rfl : tv = tv2 := by injection e with e; simpa using e
    clear e
    obtain ⟨ta, T, tc, rfl, hTl, _, _, _⟩ := id hT
    have hcl2 : cl = T + 1 := by rw [← hcl, close_count, hTl]
    subst hcl2
    have HF : Hid (fireL (closeL n i o) (startL n.places o) ((T : Nat) : Int) = (startL n.places i, 0)) := by show _ = _; rw [← hTl]; exact close_round HN.out hl i o
    have HR : Hid (hasL seq ((T : Nat) : Int) = false → runL (closeL n i o) (startL n.places i) seq = runL n (startL n.places i) seq) := fun h => close_run HN.out hl i o seq _ (by
      rw [hTl]
      intro q
      have : hasL seq (T : Int) = true := by unfold hasL; rw [List.contains_iff_mem]; exact q
      rw [h] at this; cases this)
    have HJ : Hid (∀ d, Judged (closeL n i o) i o d → d = 1) := fun d h => h.form (close_ok HN.out hl i o) (close_form hS hl)
    have HSm : Hid ((closeL n i o).trans.take T = n.trans) := by show _ = _; rw [← hTl]; exact close_same n i o
    have hpl : (closeL n i o).places = n.places := rfl
    rw [hpl] at hbc
    have hcv : Net w3 (.agg #[.int .i64 n.places, .slice ca (T + 1) cc]) (closeL n i o) := ⟨_, rfl, hCt⟩
    have hfr : Net w3 (.agg #[.int .i64 n.places, .slice ca T cc]) n := ⟨_, rfl, by rw [← HSm.out]; exact trans_front hCt (by omega)⟩
    clear hS hl hcl hTl hT hCt hpl HSm HN
    have hcp : (closeL n i o).places = n.places := rfl
    generalize closeL n i o = cn at *
    obtain ⟨x0, x1, x2⟩ := id hbx
    obtain ⟨y0, y1, y2⟩ := id hbc
    go_upto_region 6 with fail
    go_region_held3 (fun w' => w'.cell? ⟨w.heap.size, 0, none⟩ = some (.int .i64 n.places) ∧ w'.cell? ⟨w.heap.size, 1, none⟩ = some (.slice ta T tc))
      (go_keep)
      (first
        | (go_at_call 10; refine (shape_start _ n i _ ?_).mono ?_; exact hv.below (below_drewN (Below.refl _ _) 1); rintro e wA ⟨rA, rfl, hA, bA0⟩; have bA := below_then (below_drewN (Below.refl w3.heap.size w3) 1) bA0; obtain ⟨xA0, xA1, xA2⟩ := hbx.below bA)
        | (go_at_call 17; refine (net_run n seq _ rA sv (startL n.places i) _ ?_ ?_ ?_).mono ?_; exact hv.below bA; exact hA; exact hs.below bA; rintro e w4 ⟨r4, rfl, h4, bD0⟩; have bD := below_then bA bD0; obtain ⟨xD0, xD1, xD2⟩ := hbx.below bD))
    all_goals
      replace hv := hv.below bD
      replace hcv := hcv.below bD
      replace hfr := hfr.below bD
      replace hs := hs.below bD
      replace hbx := hbx.below bD
      replace hbc := hbc.below bD
      replace c := below_then c bD
      clear hA xA0 xA1 xA2 xD0 xD1 xD2 bA bD x0 x1 x2 y0 y1 y2 bA0 bD0
      obtain ⟨y0, y1, y2⟩ := id hbc
      go_upto_region 7 with fail
      go_region_held3 (fun w' => w'.cell? ⟨w2.heap.size, 0, none⟩ = some (.int .i64 n.places) ∧ w'.cell? ⟨w2.heap.size, 1, none⟩ = some (.slice ca (T + 1) cc))
        (go_keep)
        (first
          | (go_at_call 10; refine (shape_start _ cn i _ ?_).mono ?_; exact hcv.below (below_drewN (Below.refl _ _) 1); rintro e wA ⟨rA, rfl, hA, bA0⟩; have bA := below_then (below_drewN (Below.refl w4.heap.size w4) 1) bA0; obtain ⟨xA0, xA1, xA2⟩ := hbc.below bA)
          | (go_at_call 17; refine (net_run cn seq _ rA sv (startL cn.places i) _ ?_ ?_ ?_).mono ?_; exact hcv.below bA; exact hA; exact hs.below bA; rintro e w5 ⟨r5, rfl, h5, bD0⟩; have bD := below_then bA bD0; obtain ⟨xD0, xD1, xD2⟩ := hbc.below bD))
      all_goals
        replace hv := hv.below bD
        replace hcv := hcv.below bD
        replace hfr := hfr.below bD
        replace hs := hs.below bD
        replace hbx := hbx.below bD
        replace hbc := hbc.below bD
        replace c := below_then c bD
        replace h4 := h4.below bD
        rw [hcp] at h5
        clear hA xA0 xA1 xA2 xD0 xD1 xD2 bA bD y0 y1 y2 bA0 bD0
        obtain ⟨x0, x1, x2⟩ := id hbx
        obtain ⟨y0, y1, y2⟩ := id hbc
        go_upto_region 8 with fail
        go_region_held3 (fun w' => (w'.cell? ⟨w2.heap.size, 0, none⟩ = some (.int .i64 n.places) ∧ w'.cell? ⟨w2.heap.size, 1, none⟩ = some (.slice ca (T + 1) cc)) ∧ w'.cell? ⟨w.heap.size, 1, none⟩ = some (.slice ta T tc))
          (go_keep)
          (first
            | (go_at_call 10; refine (shape_start _ cn o _ ?_).mono ?_; exact hcv.below (below_drewN (Below.refl _ _) 1); rintro e wA ⟨rA, rfl, hA, bA0⟩; have bA := below_then (below_drewN (Below.refl w5.heap.size w5) 1) bA0; obtain ⟨xA0, xA1, xA2⟩ := hbc.below bA; obtain ⟨zA0, zA1, zA2⟩ := hbx.below bA)
            | (go_at_call 18; refine (net_fire _ rA cn (startL cn.places o) _ _ ?_ ?_).mono ?_; exact hcv.below bA; exact hA; rintro e w6 ⟨r6, rfl, h6, bD0⟩; have bD := below_then bA bD0; obtain ⟨xD0, xD1, xD2⟩ := hbc.below bD; obtain ⟨zD0, zD1, zD2⟩ := hbx.below bD))
        all_goals
          replace hv := hv.below bD
          replace hcv := hcv.below bD
          replace hfr := hfr.below bD
          replace hs := hs.below bD
          replace hbx := hbx.below bD
          replace hbc := hbc.below bD
          replace c := below_then c bD
          replace h4 := h4.below bD
          replace h5 := h5.below bD
          clear hA xA0 xA1 xA2 xD0 xD1 xD2 zA0 zA1 zA2 zD0 zD1 zD2 bA bD y0 y1 y2 bA0 bD0 x0 x1 x2
          rw [hcp, HF.out] at h6
          rw [HF.out]
          clear HF
          simp only at h6 ⊢
          obtain ⟨x0, x1, x2⟩ := id hbx
          go_wp2_with fail
          clear x0 x1 x2
          refine (contains_any _ seq _ _ (by exact hs)).mono ?_
          rintro e w7 ⟨rfl, rfl⟩
          cases hc : hasL seq ((T : Nat) : Int)
          · have e5 := HR.out hc
            rw [e5] at h5 ⊢
            clear e5 HR
            generalize runL n (startL n.places i) seq = q at *
            obtain ⟨x, cd⟩ := q
            simp only at h4 h5 ⊢
            obtain ⟨x0, x1, x2⟩ := id hbx
            obtain ⟨y0, y1, y2⟩ := id hbc
            have eqx : (x == x) = true := beq_self_eq_true x
            have eqs : (startL n.places i == startL n.places i) = true := beq_self_eq_true _
            have eqn : sameN n n = true := same_net_self n
            have eqc : (cd == cd) = true := beq_self_eq_true cd
            have eT1 : (0 : Int) ≤ (T : Int) := by omega
            have eT2 : (T : Int) ≤ (cc : Int) := by omega
            have eT3 : T ≤ cc := by omega
            have eT4 : ¬ cc = 0 := by omega
            go_upto_region 11 with fail
            go_region_held3 (fun w' => (w'.cell? ⟨w2.heap.size, 0, none⟩ = some (.int .i64 n.places) ∧ w'.cell? ⟨w2.heap.size, 1, none⟩ = some (.slice ca (T + 1) cc)) ∧ w'.cell? ⟨w.heap.size, 0, none⟩ = some (.int .i64 n.places) ∧ w'.cell? ⟨w.heap.size, 1, none⟩ = some (.slice ta T tc))
              (go_keep)
              (first
                | (go_at_call_of 9 r4; refine (equal_b r4 r5 x x _ ?_ ?_).mono ?_; exact h4.below (below_drewN (Below.refl _ _) 1); exact h5.below (below_drewN (Below.refl _ _) 1); rintro e wA ⟨rfl, bA0⟩; rw [eqx]; have bA := below_then (below_drewN (Below.refl w7.heap.size w7) 1) bA0; obtain ⟨xA0, xA1, xA2⟩ := hbc.below bA; obtain ⟨zA0, zA1, zA2⟩ := hbx.below bA)
                | (go_at_call 10; refine (shape_start _ cn i _ ?_).mono ?_; exact hcv.below bA; rintro e wB ⟨rB, rfl, hB, bB0⟩; rw [hcp] at hB; have bB := below_then bA bB0; obtain ⟨xB0, xB1, xB2⟩ := hbc.below bB; obtain ⟨zB0, zB1, zB2⟩ := hbx.below bB)
                | (go_at_call_of 9 r6; refine (equal_b r6 rB (startL n.places i) (startL n.places i) _ ?_ ?_).mono ?_; exact h6.below bB; exact hB; rintro e wC ⟨rfl, bC0⟩; rw [eqs]; have bC := below_then bB bC0; obtain ⟨xC0, xC1, xC2⟩ := hbc.below bC; obtain ⟨zC0, zC1, zC2⟩ := hbx.below bC)
                | (go_at_call 12; refine (shape_wrong _ cn i o _ ?_).mono ?_; exact hcv.below bC; rintro e wD ⟨dD, rfl, hD, bD0⟩; obtain rfl := HJ.out dD hD; have bD := below_then bC bD0; obtain ⟨xD0, xD1, xD2⟩ := hbc.below bD; obtain ⟨zD0, zD1, zD2⟩ := hbx.below bD)
                | (go_at_call 14; refine (samenet_any _ _ n n _ ?_ ?_).mono ?_; exact hfr.below bD; exact hv.below bD; rintro e wE ⟨rfl, bE0⟩; rw [eqn]; have bE := below_then bD bE0; obtain ⟨xE0, xE1, xE2⟩ := hbc.below bE; obtain ⟨zE0, zE1, zE2⟩ := hbx.below bE))
            all_goals
              replace c := below_then c bE
              clear bA bB bC bD bE hB hD xA0 xA1 xA2 zA0 zA1 zA2 xB0 xB1 xB2 zB0 zB1 zB2 xC0 xC1 xC2 zC0 zC1 zC2 xD0 xD1 xD2 zD0 zD1 zD2 xE0 xE1 xE2 zE0 zE1 zE2
              go_wp2
              go_ret
              exact ⟨rfl, c⟩
          · go_wp2
            go_ret
            exact ⟨rfl, c⟩
  · have hcn := hC.none hd0
    subst hcn
    obtain rfl : 0 = cl := hcl
    have hne : (d != 0) = true := by simpa using hd0
    obtain ⟨y0, y1, y2⟩ := id hbc
    go_wp2
    go_ret
    exact ⟨rfl, c⟩

end Go.Proofs.Ythkalnijmlhgiaa

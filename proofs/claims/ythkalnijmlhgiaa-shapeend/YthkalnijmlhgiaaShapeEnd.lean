/- The law ShapeEnd, walked: it answers true, and writes nothing that was there. -/
import Derived.Deep.RegionHeld3
import Derived.Test.YthkalnijmlhgiaaAlive8
namespace Go.Proofs.Ythkalnijmlhgiaa
open Go.RowKit
set_option linter.unusedVariables false
set_option maxRecDepth 4000

set_option maxRecDepth 4000 in
set_option maxHeartbeats 2000000 in
theorem shapeEnd_walk (v sv : Value) (n : NetL) (i o : Int) (seq : List Int) (w : World) (hv : Net w v n) (hs : Ints w sv seq) :
    Calls Try.prog 6 #[v, .int .i64 i, .int .i64 o, sv] w fun e w' => e = .returned (.bool true) ∧ Below w.heap.size w w' := by
  obtain ⟨tv, rfl, hT⟩ := hv
  have c := below_new w (.cells #[.int .i64 n.places, tv] 24)
  have hbx := box2_new w (.int .i64 n.places) tv 24
  have hv : Net _ (.agg #[.int .i64 n.places, tv]) n := ⟨_, rfl, hT.below c⟩
  replace hs := hs.below c
  clear hT
  go_enter Try.func6, Try.ntmps6
  go_wp2_with fail
  refine (alive8_any _).mono ?_
  rintro e w1 ⟨rfl, b⟩
  replace hv := hv.below b
  replace hs := hs.below b
  replace hbx := hbx.below b
  replace c := below_then c b
  clear b
  obtain ⟨x0, x1, x2⟩ := id hbx
  go_wp2_with fail
  refine (shape_wrong _ n i o _ (by exact hv)).mono ?_
  rintro e w2 ⟨d, rfl, hd, b⟩
  replace hv := hv.below b
  replace hs := hs.below b
  replace hbx := hbx.below b
  replace c := below_then c b
  clear b x0 x1 x2
  by_cases hd0 : d = 0
  · subst hd0
    have hS := hd.zero
    have HE1 : Hid (canL n (startL n.places o) = ([], 0)) := by show _ = _; rw [canL_yes (start_fits hS.ok o), end_none hS]
    have HE2 : Hid (∀ x, runL n (startL n.places i) seq = (x, 0) → seq ≠ [] → nth x i.toNat = 0 ∧ i.toNat < x.length) := fun x h h0 => ⟨run_gone hS h h0, by
      obtain ⟨_, hl, _⟩ := fits_net (run_fits seq h).2
      have := hS.i0
      have := hS.i1
      omega⟩
    have hi0 := hS.i0
    clear hd hS
    obtain ⟨x0, x1, x2⟩ := id hbx
    go_upto_region 5 with fail
    go_region_held3 (fun w' => w'.cell? ⟨w.heap.size, 0, none⟩ = some (.int .i64 n.places) ∧ w'.cell? ⟨w.heap.size, 1, none⟩ = some tv)
      (go_keep)
      (first
        | (go_at_call 10; refine (shape_start _ n o _ ?_).mono ?_; exact hv.below (below_drewN (Below.refl _ _) 1); rintro e wA ⟨rA, rfl, hA, bA0⟩; have bA := below_then (below_drewN (Below.refl w2.heap.size w2) 1) bA0; obtain ⟨xA0, xA1, xA2⟩ := hbx.below bA)
        | (go_at_call 20; refine (net_enabled _ rA n (startL n.places o) _ ?_ ?_).mono ?_; exact hv.below bA; exact hA; rintro e wB ⟨rB, rfl, hB, bB0⟩; rw [HE1.out] at hB ⊢; have bB := below_then bA bB0; obtain ⟨xB0, xB1, xB2⟩ := hbx.below bB))
    all_goals
      replace hv := hv.below bB
      replace hs := hs.below bB
      replace hbx := hbx.below bB
      replace c := below_then c bB
      obtain ⟨a3, l3, c3, rfl, hl3, _⟩ := id hB
      obtain rfl : 0 = l3 := hl3
      clear hA hB xA0 xA1 xA2 xB0 xB1 xB2 bA bB x0 x1 x2 bA0 bB0 HE1
      obtain ⟨x0, x1, x2⟩ := id hbx
      go_upto_region 6 with fail
      go_region_held3 (fun w' => w'.cell? ⟨w.heap.size, 0, none⟩ = some (.int .i64 n.places) ∧ w'.cell? ⟨w.heap.size, 1, none⟩ = some tv)
        (go_keep)
        (first
          | (go_at_call 10; refine (shape_start _ n i _ ?_).mono ?_; exact hv.below (below_drewN (Below.refl _ _) 1); rintro e wA ⟨rA, rfl, hA, bA0⟩; have bA := below_then (below_drewN (Below.refl wB.heap.size wB) 1) bA0; obtain ⟨xA0, xA1, xA2⟩ := hbx.below bA)
          | (go_at_call 17; refine (net_run n seq _ rA sv (startL n.places i) _ ?_ ?_ ?_).mono ?_; exact hv.below bA; exact hA; exact hs.below bA; rintro e wD ⟨rD, rfl, hD, bD0⟩; have bD := below_then bA bD0; obtain ⟨xD0, xD1, xD2⟩ := hbx.below bD))
      all_goals
        replace c := below_then c bD
        replace hs := hs.below bD
        clear hA xA0 xA1 xA2 xD0 xD1 xD2 bA bD x0 x1 x2 bA0 bD0 hbx hv
        generalize runL n (startL n.places i) seq = q at *
        obtain ⟨x, cd⟩ := q
        simp only at hD ⊢
        obtain ⟨sa, sl, sc, rfl, hsl, _⟩ := hs
        by_cases h0 : cd = 0
        · subst h0
          by_cases hsq : sl = 0
          · subst hsq
            clear HE2
            go_wp2
            go_ret
            exact ⟨rfl, c⟩
          · obtain ⟨hx, hxl2⟩ := HE2.out x rfl (fun e => hsq (by rw [← hsl, e]; rfl))
            obtain ⟨xa, xl, xc, rfl, hxl, _, _, hxr⟩ := hD
            obtain ⟨k, rfl⟩ := Int.eq_ofNat_of_zero_le hi0
            rw [Int.toNat_natCast] at hx hxl2
            obtain ⟨bx, ox, rfl, _, hcx⟩ := hxr k hxl2
            rw [hx] at hcx
            have hkl : k < xl := by omega
            have hsz : ((sl : Int) == 0) = false := by simpa using hsq
            clear HE2 hxr hx
            go_wp2
            go_ret
            exact ⟨rfl, c⟩
        · have hne : (cd != 0) = true := by simpa using h0
          clear HE2
          go_wp2
          go_ret
          exact ⟨rfl, c⟩
  · have hne : (d != 0) = true := by simpa using hd0
    go_wp2
    go_ret
    exact ⟨rfl, c⟩

end Go.Proofs.Ythkalnijmlhgiaa

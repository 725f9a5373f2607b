/- The law SiphonUnion, walked: it answers true, and writes nothing that was there. -/
import Derived.Test.YtnklepfommakpaaAlive6
import Derived.Test.YtnklepfommakpaaSiph1
import Derived.Test.YtnklepfommakpaaSlices5
import Derived.Test.YtnklepfommakpaaSlices6
import Derived.Deep.RegionWith
namespace Go.Proofs.Ytnklepfommakpaa
open Go.RowKit
set_option linter.unusedVariables false

def outside (P : Int) (p : Int) : Bool := decide (p < 0) || decide (P ≤ p)
theorem places_outside (n : NetL) (l : List Int) (h : netOk n = true) : placesL n l = !anyL l (outside n.places) := by
  rw [Bool.eq_iff_iff, placesL_iff]
  unfold anyL outside
  simp only [h, true_and, Bool.not_eq_true', List.any_eq_false, Bool.or_eq_true, decide_eq_true_eq]
  constructor
  · intro h p hp; have := h p hp; omega
  · intro h p hp; have := h p hp; omega

theorem union1_any (w0 : World) (bx : Nat) (P : Int) (tv : Value) (hx : Box2 w0 bx (.int .i64 P) tv) : AsksQ1 w0 23 (.pointer (some ⟨bx, 0, none⟩)) (outside P) := by
  intro p w hb
  obtain ⟨x0, x1, x2⟩ := hx.below hb
  by_cases h1 : p < 0
  · have E : Hid (outside P p = true) := by show _ = _; simp [outside, h1]
    go_enter Try.func23, Try.ntmps23
    go_wp2
    go_ret
    exact ⟨ret_bool E.out.symm, Below.refl _ _⟩
  · by_cases h2 : P ≤ p
    · have E : Hid (outside P p = true) := by show _ = _; simp [outside, h2]
      go_enter Try.func23, Try.ntmps23
      go_wp2
      go_ret
      exact ⟨ret_bool E.out.symm, Below.refl _ _⟩
    · have E : Hid (outside P p = false) := by show _ = _; simp [outside]; omega
      go_enter Try.func23, Try.ntmps23
      go_wp2
      go_ret
      exact ⟨ret_bool E.out.symm, Below.refl _ _⟩

set_option maxRecDepth 4000 in
set_option maxHeartbeats 4000000 in
theorem siphonUnion_walk (v u sv : Value) (n : NetL) (a b : List Int) (w : World) (hv : Net w v n) (hu : Ints w u a) (hs : Ints w sv b)
    (hbn : BulkNet n) (hba : a.length ≤ 1048576) (hbb : b.length ≤ 1048576) :
    Calls Try.prog 6 #[v, u, sv] w fun e w' => e = .returned (.bool true) ∧ Below w.heap.size w w' := by
  obtain ⟨tv, rfl, hT⟩ := hv
  have c := below_new w (.cells #[.int .i64 n.places, tv] 24)
  have hbx := box2_new w (.int .i64 n.places) tv 24
  have hv : Net _ (.agg #[.int .i64 n.places, tv]) n := ⟨_, rfl, hT.below c⟩
  replace hu := hu.below c
  replace hs := hs.below c
  clear hT hbn
  obtain ⟨aa, la, ca, rfl, hla, hma, _, _⟩ := id hu
  obtain ⟨ab, lb, cb, rfl, hlb, hmb, _, _⟩ := id hs
  have HL : Hid ([a, b].flatten.length ≤ 17592186044416) := by show _ ≤ _; simp; omega
  go_enter Try.func6, Try.ntmps6
  go_wp2_with fail
  refine (alive6_any _).mono ?_
  rintro e w1 ⟨rfl, b1⟩
  replace hv := hv.below b1
  replace hu := hu.below b1
  replace hs := hs.below b1
  replace hbx := hbx.below b1
  replace c := below_then c b1
  clear b1
  obtain ⟨x0, x1, x2⟩ := id hbx
  have HA2 : Hid (siphL n a = true → siphL n b = true → siphL n (a ++ b) = true) := fun h1 h2 => siph_append h1 h2
  go_upto_region 3 with fail
  go_cut [29] (fun t wc => t = .bool false ∧ Below w1.heap.size w1 wc)
  case first =>
    cases hsa : siphL n a
    · first
        | go_region_with (first
            | (go_at_call 10; refine (siphon_siphon _ _ n a _ ?_ ?_).mono ?_; exact hv.below (below_drewN (Below.refl _ _) 1); exact hu.drewN 1; rintro e w2 ⟨rfl, q2⟩; rw [hsa]; have q2 := below_then (below_drewN (Below.refl w1.heap.size w1) 1) q2; have e1 := (q2.cell (p := ⟨w.heap.size, 0, none⟩) x0).trans x1; have e2 := (q2.cell (p := ⟨w.heap.size, 1, none⟩) x0).trans x2))
        | fail
      all_goals
        go_wp2_with fail
        go_meet
        exact ⟨rfl, q2⟩
    · cases hsb : siphL n b
      · first
          | go_region_with (first
              | (go_at_call_of 10 (Value.slice aa la ca); refine (siphon_siphon _ _ n a _ ?_ ?_).mono ?_; exact hv.below (below_drewN (Below.refl _ _) 1); exact hu.drewN 1; rintro e w2 ⟨rfl, q2⟩; rw [hsa]; have q2 := below_then (below_drewN (Below.refl w1.heap.size w1) 1) q2; have e1 := (q2.cell (p := ⟨w.heap.size, 0, none⟩) x0).trans x1; have e2 := (q2.cell (p := ⟨w.heap.size, 1, none⟩) x0).trans x2)
              | (go_at_call_of 10 (Value.slice ab lb cb); refine (siphon_siphon _ _ n b _ ?_ ?_).mono ?_; exact hv.below q2; exact hs.below q2; rintro e w3 ⟨rfl, q3⟩; rw [hsb]; have q3 := below_then q2 q3; have e3 := (q3.cell (p := ⟨w.heap.size, 0, none⟩) x0).trans x1; have e4 := (q3.cell (p := ⟨w.heap.size, 1, none⟩) x0).trans x2))
          | fail
        all_goals
          go_wp2_with fail
          go_meet
          exact ⟨rfl, q3⟩
      · have HAB : Hid _ := HA2.out hsa hsb
        go_region_held3 (fun w' => w'.cell? ⟨w.heap.size, 0, none⟩ = some (.int .i64 n.places) ∧ w'.cell? ⟨w.heap.size, 1, none⟩ = some tv)
          (go_keep)
          (first
            | (go_at_call_of 10 (Value.slice aa la ca); refine (siphon_siphon _ _ n a _ ?_ ?_).mono ?_; exact hv.below (below_drewN (Below.refl _ _) 1); exact hu.drewN 1; rintro e w2 ⟨rfl, q2⟩; rw [hsa]; have q2 := below_then (below_drewN (Below.refl w1.heap.size w1) 1) q2; have e1 := (q2.cell (p := ⟨w.heap.size, 0, none⟩) x0).trans x1; have e2 := (q2.cell (p := ⟨w.heap.size, 1, none⟩) x0).trans x2)
            | (go_at_call_of 10 (Value.slice ab lb cb); refine (siphon_siphon _ _ n b _ ?_ ?_).mono ?_; exact hv.below q2; exact hs.below q2; rintro e w3 ⟨rfl, q3⟩; rw [hsb]; have q3 := below_then q2 q3; have e3 := (q3.cell (p := ⟨w.heap.size, 0, none⟩) x0).trans x1; have e4 := (q3.cell (p := ⟨w.heap.size, 1, none⟩) x0).trans x2; have k3 := below_new w3 (.cells #[.slice aa la ca, .slice ab lb cb] 25); have k4 := (k3.cell (p := ⟨w.heap.size, 0, none⟩) (Nat.lt_of_lt_of_le x0 q3.size)).trans e3; have k5 := (k3.cell (p := ⟨w.heap.size, 1, none⟩) (Nat.lt_of_lt_of_le x0 q3.size)).trans e4)
            | (go_at_call 20; refine (concat_own _ [a, b] _ ?_ HL.out).mono ?_; exact lists_lit2b w3 _ _ _ _ _ (hu.below q3) (hs.below q3) rfl; rintro e w4 ⟨r4, rfl, hO4⟩; have q4 := below_then q3 (below_then (below_new w3 (.cells #[.slice aa la ca, .slice ab lb cb] 25)) hO4.2.1); have hr4 := hO4.ints HL.out; have e5 := (q4.cell (p := ⟨w.heap.size, 0, none⟩) x0).trans x1; have e6 := (q4.cell (p := ⟨w.heap.size, 1, none⟩) x0).trans x2)
            | (go_at_call_of 10 r4; refine (siphon_siphon _ _ n (a ++ b) _ ?_ ?_).mono ?_; exact hv.below q4; (simpa using hr4); rintro e w5 ⟨rfl, q5⟩; rw [HAB.out]; have q5 := below_then q4 q5; have e7 := (q5.cell (p := ⟨w.heap.size, 0, none⟩) x0).trans x1; have e8 := (q5.cell (p := ⟨w.heap.size, 1, none⟩) x0).trans x2))
        all_goals
          go_wp2_with fail
          go_meet
          exact ⟨rfl, q5⟩
  case rest =>
    obtain ⟨rfl, q⟩ := hcut
    obtain ⟨w0, Hw0⟩ : ∃ w0, w0 = wc := ⟨_, rfl⟩
    subst Hw0
    replace hv := hv.below q
    replace hu := hu.below q
    replace hs := hs.below q
    replace hbx := hbx.below q
    replace c := below_then c q
    clear q x0 x1 x2
    have hlist := lists_lit2b w0 _ _ _ _ _ hu hs rfl
    have bl := below_new w0 (.cells #[.slice aa la ca, .slice ab lb cb] 25)
    go_wp2_with fail
    refine (concat_own _ [a, b] _ (by exact hlist) HL.out).mono ?_
    rintro e w2 ⟨r2, rfl, hO2⟩
    have q2 := below_then bl hO2.2.1
    have hr2 := hO2.ints HL.out
    rw [show [a, b].flatten = a ++ b by simp] at hr2
    replace hv := hv.below q2
    replace hu := hu.below q2
    replace hbx := hbx.below q2
    replace c := below_then c q2
    clear q2 bl hlist hO2 hs
    obtain ⟨x0, x1, x2⟩ := id hbx
    go_wp2_with fail
    refine (siphon_most _ _ n (a ++ b) _ (by exact hv) (by exact hr2)).mono ?_
    rintro e w3 ⟨r3, rfl, hr3, q3⟩
    replace hv := hv.below q3
    replace hu := hu.below q3
    replace hr2 := hr2.below q3
    replace hbx := hbx.below q3
    replace c := below_then c q3
    clear q3 x0 x1 x2
    obtain ⟨x0, x1, x2⟩ := id hbx
    have HM0 : Hid (placesL n (a ++ b) = false → mostL n (a ++ b) = []) := most_none
    have HM1 : Hid (placesL n (a ++ b) = true → siphL n (mostL n (a ++ b)) = true) := most_siph
    have HM2 : Hid _ := most_sorted n (a ++ b)
    have HM3 : Hid (placesL n (a ++ b) = true → siphL n a = true → ∀ p ∈ a, p ∈ mostL n (a ++ b)) := fun h1 h2 => most_all h1 h2 fun p hp => List.mem_append_left _ hp
    have HPO : Hid (netOk n = true → placesL n (a ++ b) = !anyL (a ++ b) (outside n.places)) := places_outside n (a ++ b)
    have HPN : Hid (netOk n = false → placesL n (a ++ b) = false) := fun h => by unfold placesL; rw [h]; rfl
    obtain ⟨ms, Hms⟩ : ∃ ms, Hid (mostL n (a ++ b) = ms) := ⟨_, rfl⟩
    rw [Hms.out] at hr3 HM0 HM1 HM2 HM3
    obtain ⟨ar, lr, cr, rfl, hlr, hmr, _, _⟩ := id hr3
    clear Hms
    go_wp2_with fail
    refine (net_wrong _ n _ (by exact hv)).mono ?_
    rintro e w4 ⟨rfl, q4⟩
    replace hv := hv.below q4
    replace hu := hu.below q4
    replace hr2 := hr2.below q4
    replace hr3 := hr3.below q4
    replace hbx := hbx.below q4
    replace c := below_then c q4
    clear q4 x0 x1 x2
    cases hno : netOk n with
    | false =>
      rw [wrongL_not hno]
      have hl0 : lr = 0 := by have := HM0.out (HPN.out hno); subst this; simpa using hlr.symm
      subst hl0
      clear hno HM0 HM1 HM2 HM3 HPO HPN
      go_wp2
      go_ret
      exact ⟨rfl, c⟩
    | true =>
      rw [wrongL_ok hno]
      have HPO2 : Hid _ := HPO.out hno
      clear hno HPO HPN
      go_wp2_with fail
      refine (containsfuncQ1 w4 23 _ (outside n.places) (union1_any w4 w.heap.size n.places tv hbx) Try.call23 _ (a ++ b) _ (Below.refl _ _) (by exact hr2)).mono ?_
      rintro e w5 ⟨rfl, q5⟩
      replace hv := hv.below q5
      replace hu := hu.below q5
      replace hr3 := hr3.below q5
      replace hbx := hbx.below q5
      replace c := below_then c q5
      clear q5 hr2
      cases hou : anyL (a ++ b) (outside n.places) with
      | true =>
        have hl0 : lr = 0 := by have := HM0.out (by rw [HPO2.out, hou]; rfl); subst this; simpa using hlr.symm
        subst hl0
        clear hou HM0 HM1 HM2 HM3 HPO2
        go_wp2
        go_ret
        exact ⟨rfl, c⟩
      | false =>
        have hpl : placesL n (a ++ b) = true := by rw [HPO2.out, hou]; rfl
        have HS : Hid _ := HM1.out hpl
        have HM4 : Hid _ := HM3.out hpl
        clear hou hpl HM0 HM1 HM3 HPO2
        obtain ⟨x0, x1, x2⟩ := id hbx
        go_wp2_with fail
        refine (siphon_siphon _ _ n ms _ (by exact hv) (by exact hr3)).mono ?_
        rintro e w6 ⟨rfl, q6⟩
        rw [HS.out]
        replace hv := hv.below q6
        replace hu := hu.below q6
        replace hr3 := hr3.below q6
        replace hbx := hbx.below q6
        replace c := below_then c q6
        clear q6 x0 x1 x2
        go_wp2_with fail
        refine (issorted_any _ ms _ (by exact hr3) HM2.out).mono ?_
        rintro e w7 ⟨rfl, q7⟩
        replace hv := hv.below q7
        replace hu := hu.below q7
        replace hr3 := hr3.below q7
        replace hbx := hbx.below q7
        replace c := below_then c q7
        clear q7
        obtain ⟨x0, x1, x2⟩ := id hbx
        go_wp2_with fail
        refine (siphon_siphon _ _ n a _ (by exact hv) (by exact hu)).mono ?_
        rintro e w8 ⟨rfl, q8⟩
        replace hu := hu.below q8
        replace hr3 := hr3.below q8
        replace c := below_then c q8
        clear q8 x0 x1 x2 hv hbx
        cases hsa : siphL n a with
        | false =>
          go_wp2
          go_ret
          exact ⟨rfl, c⟩
        | true =>
          have HM5 : Hid (∀ k, k < la → hasL ms (nth a k) = true) := by
            intro k hk
            have hk' : k < a.length := by omega
            have e : nth a k = a[k] := by simp [nth, List.getD, List.getElem?_eq_getElem hk']
            rw [e]
            unfold hasL
            simpa using HM4.out hsa _ (List.getElem_mem hk')
          clear HM4 hsa
          obtain ⟨_, _, _, e, _, _, _, hra⟩ := id hu
          injection e with e1 e2 e3
          subst e1 e2 e3
          go_wp2_with fail
          go_loopg [62] la (fun g i wr => ∃ k : Nat, k + g = la ∧ i = .int .i64 k ∧ Below w8.heap.size w8 wr)
          case atStart => exact ⟨0, by omega, rfl, Below.refl _ _⟩
          case round =>
            obtain ⟨k, hkg, rfl, hb⟩ := hrel
            by_cases hkn : k < la
            · obtain ⟨bb, off, rfl, hbb, hc⟩ := (hra.below hb) k (by omega)
              have hm := HM5.out k hkn
              have hrb := hr3.below hb
              clear hra
              generalize nth a k = z at *
              go_wp2_with fail
              refine (contains_any _ ms z _ (by exact hrb)).mono ?_
              rintro e w9 ⟨rfl, rfl⟩
              rw [hm]
              clear hrb hc hm
              go_wp2
              go_roundg (gk - 1)
              case measure => omega
              case rel => exact ⟨k + 1, by omega, by go_num, hb⟩
            · have R := below_then c hb
              go_wp2
              go_ret
              exact ⟨rfl, R⟩

end Go.Proofs.Ytnklepfommakpaa

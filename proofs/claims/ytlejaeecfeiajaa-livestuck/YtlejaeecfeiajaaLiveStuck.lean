/- The law LiveStuck, walked: it answers true, and writes nothing that was there. -/
import Derived.Test.YtlejaeecfeiajaaAlive7
import Derived.Test.YtlejaeecfeiajaaSlices2
namespace Go.Proofs.Ytlejaeecfeiajaa
open Go.RowKit
set_option linter.unusedVariables false
set_option maxRecDepth 4000

theorem nth_mem {xs : List Int} {k : Nat} (h : k < xs.length) : nth xs k ∈ xs := by
  have e : nth xs k = xs[k] := by simp [nth, List.getD, List.getElem?_eq_getElem h]
  rw [e]; exact List.getElem_mem h

set_option maxHeartbeats 2000000 in
theorem liveStuck_walk (v : Value) (s : SpaceZ) (T : Int) (w : World) (hv : SpaceV w v s) :
    Calls Try.prog 6 #[v, .int .i64 T] w fun e w' => e = .returned (.bool true) ∧ Below w.heap.size w w' := by
  obtain ⟨mv, av, hve⟩ : ∃ mv av, v = .agg #[mv, av] := by obtain ⟨_, mv, av, e, _⟩ := hv; exact ⟨mv, av, e⟩
  subst hve
  have c := below_new w (.cells #[mv, av] 25)
  have hbx := box2_new w mv av 25
  replace hv := hv.below c
  go_enter Try.func6, Try.ntmps6
  go_wp2_with fail
  refine (alive7_any _).mono ?_
  rintro e w1 ⟨rfl, b⟩
  replace hv := hv.below b
  replace hbx := hbx.below b
  replace c := below_then c b
  clear b
  obtain ⟨x0, x1, x2⟩ := id hbx
  go_wp2_with fail
  refine (live_right _ s _ (by exact hv)).mono ?_
  rintro e w2 ⟨rfl, b⟩
  replace hv := hv.below b
  replace hbx := hbx.below b
  replace c := below_then c b
  clear b x0 x1 x2
  obtain ⟨x0, x1, x2⟩ := id hbx
  cases hrs : rightS s
  · go_wp2_with fail
    refine (live_live _ s T _ (by exact hv)).mono ?_
    rintro e w3 ⟨r, xs, rfl, hr, hL, b⟩
    have e0 := wrong_live hrs hL
    subst e0
    obtain ⟨ar, lr, cr, rfl, hl, _, _, _⟩ := hr
    obtain rfl : lr = 0 := by simpa using hl.symm
    replace hv := hv.below b
    replace hbx := hbx.below b
    replace c := below_then c b
    clear b x0 x1 x2 hL hl
    obtain ⟨x0, x1, x2⟩ := id hbx
    go_wp2_with fail
    refine (live_home _ s _ (by exact hv)).mono ?_
    rintro e w4 ⟨r, xs, rfl, hr, hL, b⟩
    have e0 := wrong_home hrs hL
    subst e0
    obtain ⟨ar2, lr2, cr2, rfl, hl, _, _, _⟩ := hr
    obtain rfl : lr2 = 0 := by simpa using hl.symm
    replace c := below_then c b
    clear hL hl
    go_wp2
    go_ret
    exact ⟨rfl, c⟩
  · go_wp2_with fail
    go_region_held3 (fun w' => w'.cell? ⟨w.heap.size, 0, none⟩ = some mv ∧ w'.cell? ⟨w.heap.size, 1, none⟩ = some av)
      (go_keep)
      (first
        | (go_at_call 14; refine (live_stuck _ s _ ?_).mono ?_; exact hv.below (below_drewN (Below.refl _ _) 1); rintro e w3 ⟨r3, rfl, hr3, q3⟩; have q3 := below_then (below_drewN (Below.refl w2.heap.size w2) 1) q3; have e1 := (q3.cell (p := ⟨w.heap.size, 0, none⟩) x0).trans x1; have e2 := (q3.cell (p := ⟨w.heap.size, 1, none⟩) x0).trans x2)
        | (go_at_call 16; refine (live_home _ s _ ?_).mono ?_; exact hv.below q3; rintro e w4 ⟨r4, hs, rfl, hr4, hH, q4⟩; have q4' := q4; have q4 := below_then q3 q4; have e3 := (q4.cell (p := ⟨w.heap.size, 0, none⟩) x0).trans x1; have e4 := (q4.cell (p := ⟨w.heap.size, 1, none⟩) x0).trans x2))
    replace hr3 := hr3.below q4'
    replace hv := hv.below q4
    replace hbx := hbx.below q4
    replace c := below_then c q4
    clear q3 q4 q4' e1 e2 e3 e4 x0 x1 x2
    obtain ⟨a3, l3, c3, rfl, hl3, hm3, _, hrow⟩ := id hr3
    obtain ⟨a4, l4, c4, rfl, hl4, hm4, _, _⟩ := id hr4
    by_cases h0 : l3 = 0
    · subst h0
      go_wp2
      go_ret
      exact ⟨rfl, c⟩
    have hne3 : ((l3 : Int) == 0) = false := by simpa using h0
    have HK : Hid (∀ xs, IsLive s T xs → xs = []) := by
      intro xs hL
      exact stuck_live (nth_mem (xs := stuckL s) (k := 0) (by omega)) hL
    have HH : Hid (∀ k, k < l3 → hasL hs (nth (stuckL s) k) = true → l4 = 1 ∧ l3 = 1) := by
      intro k hk hh
      have hm : nth (stuckL s) k ∈ hs := by unfold hasL at hh; simpa using hh
      obtain ⟨q1, q2⟩ := stuck_home (nth_mem (by omega)) hH hm
      rw [q1] at hl4
      rw [q2] at hl3
      simp at hl3 hl4
      omega
    obtain ⟨x0, x1, x2⟩ := id hbx
    clear hH
    go_wp2_with fail
    refine (live_live _ s T _ (by exact hv)).mono ?_
    rintro e w5 ⟨r, xs, rfl, hr, hL, b⟩
    have e0 := HK.out xs hL
    subst e0
    obtain ⟨ar, lr, cr, rfl, hl, _, _, _⟩ := hr
    obtain rfl : lr = 0 := by simpa using hl.symm
    replace hr4 := hr4.below b
    replace hrow := hrow.below b
    replace c := below_then c b
    clear b x0 x1 x2 hL hl HK hr3
    go_wp2_with fail
    go_loopg [39] l3 (fun g i wr => ∃ k : Nat, k + g = l3 ∧ i = .int .i64 k ∧ Below w5.heap.size w5 wr)
    case atStart => exact ⟨0, by omega, rfl, Below.refl _ _⟩
    case round =>
      obtain ⟨k, hkg, rfl, hb⟩ := hrel
      by_cases hkn : k < l3
      · obtain ⟨bb, off, rfl, hbb, hc⟩ := (hrow.below hb) k (by omega)
        have hrb := hr4.below hb
        have Hk : Hid _ := HH.out k hkn
        clear hrow HH
        generalize nth (stuckL s) k = z at *
        go_wp2_with fail
        refine (contains_any _ hs z _ (by exact hrb)).mono ?_
        rintro e w6 ⟨rfl, rfl⟩
        cases hh : hasL hs z
        · clear Hk
          go_wp2
          go_roundg (gk - 1)
          case measure => omega
          case rel => exact ⟨k + 1, by omega, by go_num, hb⟩
        · obtain ⟨q1, q2⟩ := Hk.out hh
          subst q1 q2
          clear Hk
          go_wp2
          go_roundg (gk - 1)
          case measure => omega
          case rel => exact ⟨k + 1, by omega, by go_num, hb⟩
      · have R := below_then c hb
        go_wp2
        go_ret
        exact ⟨rfl, R⟩

end Go.Proofs.Ytlejaeecfeiajaa

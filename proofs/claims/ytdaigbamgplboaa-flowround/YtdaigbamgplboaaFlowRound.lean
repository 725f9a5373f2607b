/- The law FlowRound, walked: it answers true, and writes nothing that was there. -/
import Derived.Test.YtdaigbamgplboaaAlive3
import Derived.Test.YtdaigbamgplboaaFlows
namespace Go.Proofs.Ytdaigbamgplboaa
open Go.RowKit
set_option linter.unusedVariables false

theorem below_drew1 (w : World) : Below w.heap.size w w.drew := below_drewN (Below.refl _ _) 1

theorem round_same {n : NetL} {m x seq : List Int} (h : runL n m seq = (x, 0)) (hs : seq.length ≤ 100000) : roundL n (countL n seq) = (coversL x m && coversL m x) := by
  obtain ⟨d, e1, e2, e3, e4, _⟩ := run_equation h hs
  rw [Bool.eq_iff_iff, sameL_iff]
  unfold roundL
  rw [e1, Bool.and_eq_true, List.all_eq_true]
  constructor
  · rintro ⟨_, h2⟩ j
    by_cases hj : j < x.length
    · have h3 := h2 _ (List.getElem_mem (show j < d.length by omega))
      have h4 : nth d j = 0 := by
        simp only [nth, List.getD, List.getElem?_eq_getElem (show j < d.length by omega), Option.getD_some]
        simpa using h3
      rw [e4 j hj, h4]; omega
    · rw [nth_past x j (by omega), nth_past m j (by omega)]
  · intro h2
    refine ⟨rfl, fun z hz => ?_⟩
    obtain ⟨j, hj, rfl⟩ := List.getElem_of_mem hz
    have h3 := e4 j (by simp only at hj; omega)
    have h4 := h2 j
    have h5 : nth d j = d[j] := by simp only [nth, List.getD, List.getElem?_eq_getElem hj, Option.getD_some]
    simp only [beq_iff_eq]
    show d[j] = 0
    omega

set_option maxHeartbeats 2000000 in
theorem flowRound_walk (v u s : Value) (n : NetL) (m seq : List Int) (w : World) (hv : Net w v n) (hu : Ints w u m) (hs : Ints w s seq) :
    Calls Try.prog 7 #[v, u, s] w fun e w' => e = .returned (.bool true) ∧ Below w.heap.size w w' := by
  obtain ⟨tv, rfl, hT⟩ := hv
  have c := below_new w (.cells #[.int .i64 n.places, tv] 24)
  have hbx := box2_new w (.int .i64 n.places) tv 24
  have hv : Net _ (.agg #[.int .i64 n.places, tv]) n := ⟨_, rfl, hT.below c⟩
  replace hu := hu.below c
  replace hs := hs.below c
  clear hT
  go_enter Try.func7, Try.ntmps7
  go_wp2_with fail
  refine (alive3_any _).mono ?_
  rintro e w1 ⟨rfl, b⟩
  replace hv := hv.below b
  replace hu := hu.below b
  replace hs := hs.below b
  replace hbx := hbx.below b
  replace c := below_then c b
  clear b
  obtain ⟨x0, x1, x2⟩ := id hbx
  go_wp2_with fail
  refine (net_run n seq _ _ _ m _ (by exact hv) (by exact hu) (by exact hs)).mono ?_
  rintro e w2 ⟨r, rfl, hr, b⟩
  replace hv := hv.below b
  replace hu := hu.below b
  replace hs := hs.below b
  replace hbx := hbx.below b
  replace c := below_then c b
  clear b x0 x1 x2
  obtain ⟨a3, l3, p3, rfl, hl3, hm3, hs3, _⟩ := id hs
  have Hq : Hid (∀ x, runL n m seq = (x, 0) → seq.length ≤ 100000 → roundL n (countL n seq) = (coversL x m && coversL m x)) := fun x h1 h2 => round_same h1 h2
  generalize runL n m seq = q at *
  obtain ⟨x, cd⟩ := q
  simp only at hr ⊢
  by_cases h0 : cd = 0
  case neg =>
    have n1 : (cd != 0) = true := by simpa using h0
    clear Hq
    go_wp2
    go_ret
    exact ⟨rfl, c⟩
  subst h0
  by_cases hq : l3 ≤ 100000
  case neg =>
    clear Hq
    go_wp2
    go_ret
    exact ⟨rfl, c⟩
  have E : Hid _ := Hq.out x rfl (by omega)
  clear Hq
  obtain ⟨x0, x1, x2⟩ := id hbx
  go_wp2_with fail
  go_region_held3 (fun w' => w'.cell? ⟨w.heap.size, 0, none⟩ = some (.int .i64 n.places) ∧ w'.cell? ⟨w.heap.size, 1, none⟩ = some tv)
    (go_keep)
    (first
      | (go_at_call 12; refine (flow_count _ _ n seq _ ?_ ?_).mono ?_; exact hv.below (below_drew1 _); exact hs.below (below_drew1 _); rintro e w3 ⟨r3, rfl, hr3, q3⟩; have q3 := below_then (below_drew1 _) q3; have y31 := (q3.cell (p := ⟨w.heap.size, 0, none⟩) x0).trans x1; have y32 := (q3.cell (p := ⟨w.heap.size, 1, none⟩) x0).trans x2)
      | (go_at_call 18; refine (flow_round _ _ n (countL n seq) _ ?_ ?_).mono ?_; exact hv.below q3; exact hr3; rintro e w4 ⟨rfl, q4⟩; rw [E.out]; have q4 := below_then q3 q4; have y41 := (q4.cell (p := ⟨w.heap.size, 0, none⟩) x0).trans x1; have y42 := (q4.cell (p := ⟨w.heap.size, 1, none⟩) x0).trans x2)
      | (go_at_call 23; refine (same_any _ _ x m _ ?_ ?_).mono ?_; exact hr.below q4; exact hu.below q4; rintro e w5 ⟨rfl, rfl⟩))
  replace c := below_then c q4
  go_wp2
  go_ret
  exact ⟨by simp, c⟩

end Go.Proofs.Ytdaigbamgplboaa

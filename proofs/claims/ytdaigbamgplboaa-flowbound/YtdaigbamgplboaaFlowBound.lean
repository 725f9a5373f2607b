/- The law FlowBound, walked: it answers true, and writes nothing that was there. -/
import Derived.Test.YtdaigbamgplboaaAlive3
import Derived.Test.YtdaigbamgplboaaFlows
namespace Go.Proofs.Ytdaigbamgplboaa
open Go.RowKit
set_option linter.unusedVariables false

theorem below_drew1 (w : World) : Below w.heap.size w w.drew := below_drewN (Below.refl _ _) 1

theorem bound1_any : Asks1 22 (fun k => decide (k < 0)) := by
  intro x w
  by_cases h : x < 0 <;>
  · go_enter Try.func22, Try.ntmps22
    go_wp2
    go_ret
    exact ⟨by simp [h], rfl⟩

theorem none_below {y : List Int} (h : anyL y (fun k => decide (k < 0)) = false) (j : Nat) : 0 ≤ nth y j := by
  by_cases hj : j < y.length
  · have := List.any_eq_false.1 h _ (List.getElem_mem hj)
    simp only [decide_eq_true_eq] at this
    simp only [nth, List.getD, List.getElem?_eq_getElem hj, Option.getD_some]
    omega
  · rw [nth_past y j (by omega)]; omega

set_option maxHeartbeats 2000000 in
theorem flowBound_walk (v u s yv : Value) (n : NetL) (m seq y : List Int) (p : Int) (w : World) (hv : Net w v n) (hu : Ints w u m) (hs : Ints w s seq) (hy : Ints w yv y) :
    Calls Try.prog 6 #[v, u, s, yv, .int .i64 p] w fun e w' => e = .returned (.bool true) ∧ Below w.heap.size w w' := by
  obtain ⟨tv, rfl, hT⟩ := hv
  have c := below_new w (.cells #[.int .i64 n.places, tv] 24)
  have hbx := box2_new w (.int .i64 n.places) tv 24
  have hv : Net _ (.agg #[.int .i64 n.places, tv]) n := ⟨_, rfl, hT.below c⟩
  replace hu := hu.below c
  replace hs := hs.below c
  replace hy := hy.below c
  clear hT
  go_enter Try.func6, Try.ntmps6
  go_wp2_with fail
  refine (alive3_any _).mono ?_
  rintro e w1 ⟨rfl, b⟩
  replace hv := hv.below b
  replace hu := hu.below b
  replace hs := hs.below b
  replace hy := hy.below b
  replace hbx := hbx.below b
  replace c := below_then c b
  clear b
  obtain ⟨x0, x1, x2⟩ := id hbx
  go_wp2_with fail
  refine (net_run n seq _ _ _ m _ (by exact hv) (by exact hu) (by exact hs)).mono ?_
  rintro e w2 ⟨r, rfl, hr, b⟩
  replace hv := hv.below b
  replace hu := hu.below b
  replace hy := hy.below b
  replace hbx := hbx.below b
  replace c := below_then c b
  clear b x0 x1 x2
  have Hq : Hid (∀ x, runL n m seq = (x, 0) → keptL n y = true → (∀ j, 0 ≤ nth y j) → ∀ p, p < y.length → 0 < nth y p → p < x.length ∧ nth x p ≤ weighL y m) := fun x h1 h2 h3 p h4 h5 => run_bound h2 h1 h3 h4 h5
  generalize runL n m seq = q at *
  obtain ⟨x, cd⟩ := q
  simp only at hr ⊢
  by_cases h0 : cd = 0
  case neg =>
    have n1 : (cd != 0) = true := by simpa using h0
    clear Hq
    go_wp2
    go_ret
    exact ⟨rfl, c⟩
  subst h0
  obtain ⟨x0, x1, x2⟩ := id hbx
  go_wp2_with fail
  refine (flow_kept _ _ n y _ (by exact hv) (by exact hy)).mono ?_
  rintro e w3 ⟨rfl, b⟩
  replace hu := hu.below b
  replace hr := hr.below b
  replace hy := hy.below b
  replace c := below_then c b
  clear b x0 x1 x2 hbx hv
  cases hk : keptL n y
  · clear Hq
    go_wp2
    go_ret
    exact ⟨rfl, c⟩
  have Hq2 : Hid _ := Hq.out x rfl hk
  clear Hq hk
  by_cases hp0 : p < 0
  · clear Hq2
    go_wp2
    go_ret
    exact ⟨rfl, c⟩
  obtain ⟨ay, ly, cy, rfl, hly, hmy, _, hry⟩ := id hy
  by_cases hp1 : (ly : Int) ≤ p
  · clear Hq2
    go_wp2
    go_ret
    exact ⟨rfl, c⟩
  obtain ⟨k, rfl⟩ := Int.eq_ofNat_of_zero_le (show 0 ≤ p by omega)
  have hkn : k < ly := by omega
  obtain ⟨by', oy, rfl, _, hcy⟩ := hry k (by omega)
  clear hry
  by_cases hp2 : nth y k ≤ 0
  · clear Hq2
    go_wp2
    go_ret
    exact ⟨rfl, c⟩
  go_wp2_with fail
  refine (containsfunc_any 22 _ bound1_any Try.call22 _ y _ (by exact hy)).mono ?_
  rintro e w4 ⟨rfl, rfl⟩
  cases ha : anyL y (fun k => decide (k < 0))
  case true =>
    clear Hq2
    go_wp2
    go_ret
    exact ⟨rfl, c⟩
  obtain ⟨e1, e2⟩ := Hq2.out (none_below ha) k (by omega) (by omega)
  have E2 : Hid _ := e2
  clear Hq2 ha e2
  obtain ⟨ax, lx, cx, rfl, hlx, hmx, _, hrx⟩ := hr
  obtain ⟨bx, ox, rfl, hbx', hcx⟩ := hrx k e1
  have hkx : k < lx := by omega
  clear hrx
  go_wp2_with fail
  go_region_held3 (fun w' => w'.cell? ⟨bx, ox + k, none⟩ = some (.int .i64 (nth x k)))
    (go_keep)
    (first
      | (go_at_call 14; refine (flow_weigh _ _ y m _ (hy.below (below_drew1 _)) (hu.below (below_drew1 _))).mono ?_; rintro e w5 ⟨rfl, q5⟩; have q5 := below_then (below_drew1 _) q5; have y5 := (q5.cell (p := ⟨bx, ox + k, none⟩) hbx').trans hcx))
  replace c := below_then c q5
  clear q5 y5
  have E3 : Hid (decide (nth x k ≤ weighL y m) = true) := decide_eq_true E2.out
  go_wp2
  go_ret
  exact ⟨ret_bool E3.out, c⟩

end Go.Proofs.Ytdaigbamgplboaa

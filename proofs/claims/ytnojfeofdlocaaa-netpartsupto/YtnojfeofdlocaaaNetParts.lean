/- The law NetParts, walked: it answers true, and writes nothing that was there. -/
import Derived.Test.YtnojfeofdlocaaaAlive2
import Derived.Test.YtnojfeofdlocaaaSlices2
namespace Go.Proofs.Ytnojfeofdlocaaa
open Go.RowKit
set_option linter.unusedVariables false

theorem canL_zero {n : NetL} {m : List Int} : (canL n m).2 = 0 ∨ ((canL n m).2 = 2 ∧ fitsL n m = false) := by
  cases h : fitsL n m
  · exact .inr ⟨by simp [canL, h], rfl⟩
  · exact .inl (by simp [canL, h])

set_option maxHeartbeats 2000000 in
theorem netParts_walk (v u va vb : Value) (n : NetL) (m a b : List Int) (t : Int) (w : World) (hv : Net w v n) (hu : Ints w u m) (ha : Ints w va a) (hb : Ints w vb b)
    (hbn : BulkNet n) (hbm : m.length ≤ 1048576) (hba : a.length ≤ 1048576) (hbb : b.length ≤ 1048576) :
    Calls Try.prog 8 #[v, u, va, vb, .int .i64 t] w fun e w' => e = .returned (.bool true) ∧ Below w.heap.size w w' := by
  have hsm := hbn.small
  obtain ⟨tv, rfl, hT⟩ := hv
  have c := below_new w (.cells #[.int .i64 n.places, tv] 24)
  have hbx := box2_new w (.int .i64 n.places) tv 24
  have hv : Net _ (.agg #[.int .i64 n.places, tv]) n := ⟨_, rfl, hT.below c⟩
  replace hu := hu.below c
  replace ha := ha.below c
  replace hb := hb.below c
  go_enter Try.func8, Try.ntmps8
  go_wp2_with fail
  refine (alive2_any _).mono ?_
  rintro e w1 ⟨rfl, q⟩
  replace hv := hv.below q
  replace hu := hu.below q
  replace ha := ha.below q
  replace hb := hb.below q
  replace hbx := hbx.below q
  replace c := below_then c q
  clear q
  obtain ⟨x0, x1, x2⟩ := id hbx
  go_wp2_with fail
  refine (net_run n a _ _ _ m _ (by exact hv) (by exact hu) (by exact ha)).mono ?_
  rintro e w2 ⟨r1, rfl, hr1, q⟩
  replace hv := hv.below q
  replace hu := hu.below q
  replace ha := ha.below q
  replace hb := hb.below q
  replace hbx := hbx.below q
  replace c := below_then c q
  clear q x0 x1 x2
  obtain ⟨x0, x1, x2⟩ := id hbx
  have Happ : Hid _ := run_append (n := n) a (m := m) b
  generalize runL n m a = q1 at *
  obtain ⟨xa, ea⟩ := q1
  simp only at hr1 ⊢
  go_wp2_with fail
  refine (net_run n b _ _ _ xa _ (by exact hv) (by exact hr1) (by exact hb)).mono ?_
  rintro e w3 ⟨r2, rfl, hr2, q⟩
  replace hv := hv.below q
  replace hu := hu.below q
  replace ha := ha.below q
  replace hb := hb.below q
  replace hbx := hbx.below q
  replace c := below_then c q
  clear q x0 x1 x2
  obtain ⟨x0, x1, x2⟩ := id hbx
  obtain ⟨av, la, pa, rfl, _, _, _, _⟩ := id ha
  obtain ⟨bv, lb, pb, rfl, _, _, _, _⟩ := id hb
  have g1 := below_new w3 (.cells #[.slice av la pa, .slice bv lb pb] 25)
  have g2 := below_then g1 (below_drewN (Below.refl _ _) 1)
  have HL : Hid (Lists (w3.alloc (.cells #[.slice av la pa, .slice bv lb pb] 25)).drew (.slice (some ⟨w3.heap.size, 0, none⟩) 2 2) [a, b]) := (lists_lit2 w3 _ _ _ a b 25 ha hb rfl).below (below_drewN (Below.refl _ _) 1)
  have G2 : Hid (Below w3.heap.size w3 (w3.alloc (.cells #[.slice av la pa, .slice bv lb pb] 25)).drew) := g2
  clear g1 g2
  have hne := Nat.ne_of_lt x0
  go_wp2
  go_region_held3 (fun w' => w'.cell? ⟨w.heap.size, 0, none⟩ = some (.int .i64 n.places) ∧ w'.cell? ⟨w.heap.size, 1, none⟩ = some tv)
    (go_keep)
    (first
      | (go_at_call 29; refine (concat_any _ [a, b] _ HL.out ?_).mono ?_; (simp; omega); rintro e w4 ⟨r4, rfl, hR4, q4⟩; have q4 := below_then G2.out q4; have y1 := (q4.cell (p := ⟨w.heap.size, 0, none⟩) x0).trans x1; have y2 := (q4.cell (p := ⟨w.heap.size, 1, none⟩) x0).trans x2)
      | (go_at_call 16; refine (net_run n (a ++ b) _ _ _ m _ ?_ ?_ ?_).mono ?_; exact hv.below q4; exact hu.below q4; (have hR5 := hR4; simp only [List.flatten_cons, List.flatten_nil, List.append_nil] at hR5; exact hR5); rintro e w5 ⟨r5, rfl, hr5, q5⟩; have q5 := below_then q4 q5; have z1 := (q5.cell (p := ⟨w.heap.size, 0, none⟩) x0).trans x1; have z2 := (q5.cell (p := ⟨w.heap.size, 1, none⟩) x0).trans x2))
  replace hv := hv.below q5
  replace hu := hu.below q5
  replace hr2 := hr2.below q5
  replace hbx := hbx.below q5
  replace c := below_then c q5
  clear q4 q5 y1 y2 z1 z2 HL G2 hR4 x0 x1 x2 ha hb hr1
  rw [Happ.out] at hr5
  simp only [Happ.out]
  clear Happ
  by_cases h0 : ea = 0
  case' pos =>
    subst h0
    simp only [beq_self_eq_true, if_true] at hr5 ⊢
    go_wp2_with fail
    refine (equal_b _ _ (runL n xa b).1 (runL n xa b).1 _ (by exact hr2) (by exact hr5)).mono ?_
    rintro e w6 ⟨rfl, q⟩
    replace hv := hv.below q
    replace hu := hu.below q
    replace hbx := hbx.below q
    replace c := below_then c q
    clear q
  case' neg =>
    have n0 : (ea == 0) = false := by simpa using h0
    have n1 : (ea != 0) = true := by simpa using h0
    simp only [n0] at hr5 ⊢
  all_goals
    obtain ⟨x0, x1, x2⟩ := id hbx
    go_wp2_with fail
    refine (net_enabled _ _ n m _ (by exact hv) (by exact hu)).mono ?_
    rintro e w7 ⟨r7, rfl, hr7, q⟩
    replace hv := hv.below q
    replace hu := hu.below q
    replace hbx := hbx.below q
    replace c := below_then c q
    clear q x0 x1 x2
    obtain ⟨x0, x1, x2⟩ := id hbx
    go_wp2_with fail
    refine (net_fire _ _ n m t _ (by exact hv) (by exact hu)).mono ?_
    rintro e w8 ⟨r8, rfl, hr8, q⟩
    replace hr7 := hr7.below q
    replace c := below_then c q
    clear q x0 x1 x2 hr8
    cases hf : fitsL n m
    · have e1 := canL_no hf
      have e2 := not_fits hf t
      simp only [e1, e2]
      go_wp2
      go_ret
      exact ⟨rfl, c⟩
    · have e1 := canL_yes hf
      have e2 := can_fire hf t
      rw [e1] at hr7
      simp only [e1]
      go_wp2_with fail
      refine (contains_any _ _ t _ (by exact hr7)).mono ?_
      rintro e w' ⟨rfl, rfl⟩
      have e3 : hasL (canTo n m n.trans.length) t = ((fireL n m t).2 != 3) := e2
      rw [e3]
      go_wp2
      go_ret
      exact ⟨by simp, c⟩

end Go.Proofs.Ytnojfeofdlocaaa

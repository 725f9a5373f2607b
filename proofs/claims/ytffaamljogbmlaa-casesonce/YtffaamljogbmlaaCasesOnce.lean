/- The law CasesOnce, walked. -/
import Derived.Test.YtffaamljogbmlaaCasesUndo
namespace Go.Proofs.Ytffaamljogbmlaa
open Go.RowKit
set_option linter.unusedVariables false
set_option linter.unusedSimpArgs false
set_option maxRecDepth 4000

set_option maxHeartbeats 2000000 in
theorem casesOnce_walk (v u : Value) (n : NetL) (c : CaseL) (t : Int) (w : World) (hv : Net w v n) (hu : CaseV w u c) :
    Calls Try.prog 6 #[v, u, .int .i64 t] w fun e w' => e = .returned (.bool true) ∧ Below w.heap.size w w' := by
  obtain ⟨tv, rfl, hT⟩ := hv
  obtain ⟨a, l, p, a', l', p', rfl, h1, h2⟩ := hu
  obtain ⟨w0, Hw0, hbx, hby, c0⟩ := net_case_boxes w (.int .i64 n.places) tv a a' l p l' p'
  have hv : Net w0 (.agg #[.int .i64 n.places, tv]) n := ⟨_, rfl, hT.below c0⟩
  have hu : CaseV w0 (.agg #[.slice a l p, .slice a' l' p']) c := ⟨a, l, p, a', l', p', rfl, h1.below c0, h2.below c0⟩
  replace h1 := h1.below c0
  replace h2 := h2.below c0
  clear hT
  go_enter Try.func6, Try.ntmps6
  go_upto_region 1 with fail
  rw [Hw0.out]
  clear Hw0
  go_wp2_with fail
  refine (alive16_any w0).mono ?_
  rintro e w1 ⟨rfl, b⟩
  replace c0 := below_then c0 b
  replace hv := hv.below b
  replace hu := hu.below b
  replace h1 := h1.below b
  replace h2 := h2.below b
  replace hbx := hbx.below b
  replace hby := hby.below b
  clear b
  obtain ⟨x0, x1, x2⟩ := id hbx
  obtain ⟨y0, y1, y2⟩ := id hby
  go_wp2_with fail
  refine (cases_do _ _ n c 2 t w1 (by exact hv) (by exact hu)).mono ?_
  rintro e w2 ⟨r, rfl, hr, b⟩
  obtain ⟨ra, rl, rp, ra', rl', rp', rfl, k1, k2⟩ := hr
  replace c0 := below_then c0 b
  replace hv := hv.below b
  replace h1 := h1.below b
  replace h2 := h2.below b
  replace hbx := hbx.below b
  replace hby := hby.below b
  clear b x0 x1 x2 y0 y1 y2 hu
  obtain ⟨x, Hx⟩ : ∃ x, Hid ((doC n c 2 t).1 = x) := ⟨_, rfl⟩
  obtain ⟨E, HE⟩ : ∃ E, Hid ((doC n c 2 t).2 = E) := ⟨_, rfl⟩
  have Hok : Hid (E = 0 → (∃ m, fireL n c.mark t = (m, 0) ∧ doC n x 3 t = (⟨m, c.busy⟩, 0)) ∨ ((fireL n c.mark t).2 = 4 ∧ (doC n x 3 t).2 = 4)) := fun h => case_once (Prod.ext Hx.out (HE.out.trans h))
  rw [Hx.out] at k1 k2
  rw [HE.out]
  have bn := below_new w2 (.cells #[.slice ra rl rp, .slice ra' rl' rp'] 27)
  have hbz := box2_new w2 (.slice ra rl rp) (.slice ra' rl' rp') 27
  obtain ⟨w3, Hw3⟩ : ∃ w3, Hid (w2.alloc (.cells #[.slice ra rl rp, .slice ra' rl' rp'] 27) = w3) := ⟨_, rfl⟩
  rw [Hw3.out] at bn hbz
  replace c0 := below_then c0 bn
  replace hv := hv.below bn
  replace h1 := h1.below bn
  replace h2 := h2.below bn
  replace hbx := hbx.below bn
  replace hby := hby.below bn
  have hx : CaseV w3 (.agg #[.slice ra rl rp, .slice ra' rl' rp']) x := ⟨ra, rl, rp, ra', rl', rp', rfl, k1.below bn, k2.below bn⟩
  clear k1 k2 bn
  go_upto_region 4 with fail
  rw [Hw3.out]
  clear Hw3
  obtain ⟨z0, z1, z2⟩ := id hbz
  obtain ⟨x0, x1, x2⟩ := id hbx
  go_wp2_with fail
  refine (cases_do _ _ n x 3 t w3 (by exact hv) (by exact hx)).mono ?_
  rintro e w4 ⟨r, rfl, hr, b⟩
  obtain ⟨qa, ql, qp, qa', ql', qp', rfl, k1, k2⟩ := hr
  replace c0 := below_then c0 b
  replace hv := hv.below b
  replace h1 := h1.below b
  replace h2 := h2.below b
  replace hbx := hbx.below b
  replace hby := hby.below b
  clear b x0 x1 x2 z0 z1 z2 hbz hx
  obtain ⟨y, Hy⟩ : ∃ y, Hid ((doC n x 3 t).1 = y) := ⟨_, rfl⟩
  obtain ⟨F, HF⟩ : ∃ F, Hid ((doC n x 3 t).2 = F) := ⟨_, rfl⟩
  rw [Hy.out] at k1 k2
  rw [HF.out]
  have bn := below_new w4 (.cells #[.slice qa ql qp, .slice qa' ql' qp'] 27)
  have hbz := box2_new w4 (.slice qa ql qp) (.slice qa' ql' qp') 27
  obtain ⟨w5, Hw5⟩ : ∃ w5, Hid (w4.alloc (.cells #[.slice qa ql qp, .slice qa' ql' qp'] 27) = w5) := ⟨_, rfl⟩
  rw [Hw5.out] at bn hbz
  replace c0 := below_then c0 bn
  replace hv := hv.below bn
  replace h1 := h1.below bn
  replace h2 := h2.below bn
  replace k1 := k1.below bn
  replace k2 := k2.below bn
  replace hbx := hbx.below bn
  replace hby := hby.below bn
  clear bn
  go_upto_region 5 with fail
  rw [Hw5.out]
  clear Hw5
  obtain ⟨x0, x1, x2⟩ := id hbx
  obtain ⟨y0, y1, y2⟩ := id hby
  go_wp2_with fail
  refine (net_fire _ _ n c.mark t w5 (by exact hv) (by exact h1)).mono ?_
  rintro e w6 ⟨m, rfl, hm, b⟩
  replace c0 := below_then c0 b
  replace h2 := h2.below b
  replace k1 := k1.below b
  replace k2 := k2.below b
  replace hby := hby.below b
  replace hbz := hbz.below b
  clear b x0 x1 x2 y0 y1 y2 hbx hv h1
  obtain ⟨M, HM⟩ : ∃ M, Hid ((fireL n c.mark t).1 = M) := ⟨_, rfl⟩
  obtain ⟨G, HG⟩ : ∃ G, Hid ((fireL n c.mark t).2 = G) := ⟨_, rfl⟩
  rw [HM.out] at hm
  rw [HG.out]
  obtain ⟨ma, ml, mp, rfl, _⟩ := id hm
  by_cases hE : E = 0
  · subst hE
    rcases Hok.out rfl with ⟨m', e1, e2⟩ | ⟨e1, e2⟩
    · obtain rfl : G = 0 := by rw [← HG.out, e1]
      obtain rfl : M = m' := by rw [← HM.out, e1]
      obtain rfl : F = 0 := by rw [← HF.out, e2]
      obtain rfl : y = ⟨M, c.busy⟩ := by rw [← Hy.out, e2]
      clear Hok e1 e2 Hx HE Hy HF HM HG
      obtain ⟨y0, y1, y2⟩ := id hby
      obtain ⟨z0, z1, z2⟩ := id hbz
      go_wp2_with fail
      refine (equal_b _ _ M M w6 (by exact k1) (by exact hm)).mono ?_
      rintro e w7 ⟨rfl, b⟩
      rw [beq_self_eq_true]
      replace c0 := below_then c0 b
      replace h2 := h2.below b
      replace k2 := k2.below b
      replace hby := hby.below b
      replace hbz := hbz.below b
      clear b y0 y1 y2 z0 z1 z2 hm k1
      obtain ⟨y0, y1, y2⟩ := id hby
      obtain ⟨z0, z1, z2⟩ := id hbz
      go_wp2_with fail
      refine (equal_b _ _ c.busy c.busy w7 (by exact k2) (by exact h2)).mono ?_
      rintro e w8 ⟨rfl, b⟩
      rw [beq_self_eq_true]
      replace c0 := below_then c0 b
      go_wp2
      go_ret
      exact ⟨rfl, c0⟩
    · obtain rfl : G = 4 := by rw [← HG.out, e1]
      obtain rfl : F = 4 := by rw [← HF.out, e2]
      clear Hok e1 e2 Hx HE Hy HF HM HG hm k1 k2 h2
      go_wp2
      go_ret
      exact ⟨rfl, c0⟩
  · have hE' : (E != 0) = true := by simpa using hE
    clear hE Hok Hx HE Hy HF HM HG hm k1 k2 h2
    go_wp2
    go_ret
    exact ⟨rfl, c0⟩

end Go.Proofs.Ytffaamljogbmlaa

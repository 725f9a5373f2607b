/- The law CasesUndo, walked. -/
import Derived.Test.YtffaamljogbmlaaGr18
import Derived.Test.YtffaamljogbmlaaCaseRef1
namespace Go.Proofs.Ytffaamljogbmlaa
open Go.RowKit
set_option linter.unusedVariables false
set_option linter.unusedSimpArgs false
set_option maxRecDepth 4000

/-- A net and a case that come in, each boxed. -/
theorem net_case_boxes (w : World) (x y : Value) (a a' : Option Addr) (l p l' p' : Nat) : ∃ w0, Hid ((w.alloc (.cells #[x, y] 24)).alloc (.cells #[.slice a l p, .slice a' l' p'] 27) = w0) ∧ Box2 w0 w.heap.size x y ∧ Box2 w0 (w.heap.size + 1) (.slice a l p) (.slice a' l' p') ∧ Below w.heap.size w w0 := by
  have b1 := below_new w (.cells #[x, y] 24)
  have b2 := below_new (w.alloc (.cells #[x, y] 24)) (.cells #[.slice a l p, .slice a' l' p'] 27)
  have h2 := box2_new (w.alloc (.cells #[x, y] 24)) (.slice a l p) (.slice a' l' p') 27
  rw [show (w.alloc (.cells #[x, y] 24)).heap.size = w.heap.size + 1 by simp] at h2
  exact ⟨_, rfl, (box2_new w x y 24).below b2, h2, below_then b1 b2⟩

set_option maxHeartbeats 2000000 in
theorem casesUndo_walk (v u : Value) (n : NetL) (c : CaseL) (t : Int) (w : World) (hv : Net w v n) (hu : CaseV w u c) :
    Calls Try.prog 5 #[v, u, .int .i64 t] w fun e w' => e = .returned (.bool true) ∧ Below w.heap.size w w' := by
  obtain ⟨tv, rfl, hT⟩ := hv
  obtain ⟨a, l, p, a', l', p', rfl, h1, h2⟩ := hu
  obtain ⟨w0, Hw0, hbx, hby, c0⟩ := net_case_boxes w (.int .i64 n.places) tv a a' l p l' p'
  have hv : Net w0 (.agg #[.int .i64 n.places, tv]) n := ⟨_, rfl, hT.below c0⟩
  have hu : CaseV w0 (.agg #[.slice a l p, .slice a' l' p']) c := ⟨a, l, p, a', l', p', rfl, h1.below c0, h2.below c0⟩
  clear hT h1 h2
  go_enter Try.func5, Try.ntmps5
  go_upto_region 1 with fail
  rw [Hw0.out]
  clear Hw0
  go_wp2_with fail
  refine (alive16_any w0).mono ?_
  rintro e w1 ⟨rfl, b⟩
  replace c0 := below_then c0 b
  replace hv := hv.below b
  replace hu := hu.below b
  replace hbx := hbx.below b
  replace hby := hby.below b
  clear b
  obtain ⟨x0, x1, x2⟩ := id hbx
  obtain ⟨y0, y1, y2⟩ := id hby
  go_wp2_with fail
  refine (cases_do _ _ n c 2 t w1 (by exact hv) (by exact hu)).mono ?_
  rintro e w2 ⟨r, rfl, hr, b⟩
  obtain ⟨ra, rl, rp, ra', rl', rp', rfl, k1, k2⟩ := hr
  replace c0 := below_then c0 b
  replace hv := hv.below b
  replace hu := hu.below b
  replace hbx := hbx.below b
  replace hby := hby.below b
  clear b x0 x1 x2 y0 y1 y2
  obtain ⟨x, Hx⟩ : ∃ x, Hid ((doC n c 2 t).1 = x) := ⟨_, rfl⟩
  obtain ⟨E, HE⟩ : ∃ E, Hid ((doC n c 2 t).2 = E) := ⟨_, rfl⟩
  have Herr : Hid (E ≠ 0 → x = noCase) := fun h => by rw [← Hx.out]; exact do_err (by rw [HE.out]; exact h)
  have Hok : Hid (E = 0 → doC n x 4 t = (c, 0)) := fun h => case_undo (Prod.ext Hx.out (HE.out.trans h))
  rw [Hx.out] at k1 k2
  rw [HE.out]
  have bn := below_new w2 (.cells #[.slice ra rl rp, .slice ra' rl' rp'] 27)
  have hbz := box2_new w2 (.slice ra rl rp) (.slice ra' rl' rp') 27
  obtain ⟨w3, Hw3⟩ : ∃ w3, Hid (w2.alloc (.cells #[.slice ra rl rp, .slice ra' rl' rp'] 27) = w3) := ⟨_, rfl⟩
  rw [Hw3.out] at bn hbz
  replace c0 := below_then c0 bn
  replace hv := hv.below bn
  replace hu := hu.below bn
  replace hbx := hbx.below bn
  replace hby := hby.below bn
  have hx : CaseV w3 (.agg #[.slice ra rl rp, .slice ra' rl' rp']) x := ⟨ra, rl, rp, ra', rl', rp', rfl, k1.below bn, k2.below bn⟩
  have HL : Hid (x.mark.length = rl) := len_of_ints k1
  clear k1 k2 bn
  go_upto_region 4 with fail
  rw [Hw3.out]
  clear Hw3
  obtain ⟨z0, z1, z2⟩ := id hbz
  by_cases hE : E = 0
  · subst hE
    have hd := Hok.out rfl
    obtain ⟨x0, x1, x2⟩ := id hbx
    go_wp2_with fail
    refine (cases_do _ _ n x 4 t w3 (by exact hv) (by exact hx)).mono ?_
    rintro e w4 ⟨r, rfl, hr, b⟩
    rw [hd] at hr ⊢
    obtain ⟨qa, ql, qp, qa', ql', qp', rfl, k1, k2⟩ := hr
    replace c0 := below_then c0 b
    replace hu := hu.below b
    replace hby := hby.below b
    clear b x0 x1 x2 hbx z0 z1 z2 hbz hx hv hd Hok Herr HL
    have bn := below_new w4 (.cells #[.slice qa ql qp, .slice qa' ql' qp'] 27)
    have hbz := box2_new w4 (.slice qa ql qp) (.slice qa' ql' qp') 27
    obtain ⟨w5, Hw5⟩ : ∃ w5, Hid (w4.alloc (.cells #[.slice qa ql qp, .slice qa' ql' qp'] 27) = w5) := ⟨_, rfl⟩
    rw [Hw5.out] at bn hbz
    replace c0 := below_then c0 bn
    replace hu := hu.below bn
    replace hby := hby.below bn
    have hy : CaseV w5 (.agg #[.slice qa ql qp, .slice qa' ql' qp']) c := ⟨qa, ql, qp, qa', ql', qp', rfl, k1.below bn, k2.below bn⟩
    clear k1 k2 bn
    go_upto_region 7 with fail
    rw [Hw5.out]
    clear Hw5
    obtain ⟨y0, y1, y2⟩ := id hby
    obtain ⟨z0, z1, z2⟩ := id hbz
    go_wp2_with fail
    refine (samecase_any _ _ c c w5 (by exact hy) (by exact hu)).mono ?_
    rintro e w6 ⟨rfl, b⟩
    rw [sameC_self]
    replace c0 := below_then c0 b
    go_wp2
    go_ret
    exact ⟨rfl, c0⟩
  · have e := Herr.out hE
    have hE' : (E != 0) = true := by simpa using hE
    obtain rfl : rl = 0 := by rw [← HL.out, e]; rfl
    clear hE Hok Herr e HL hx hu hv
    go_wp2
    go_ret
    exact ⟨rfl, c0⟩

end Go.Proofs.Ytffaamljogbmlaa

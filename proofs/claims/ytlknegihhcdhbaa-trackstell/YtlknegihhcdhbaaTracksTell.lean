/- tracks answers what the document's own functions answer. -/
import Derived.Test.YtlknegihhcdhbaaGr11
import Derived.Test.YtlknegihhcdhbaaGr04
namespace Go.Proofs.Ytlknegihhcdhbaa
open Go.RowKit
set_option linter.unusedVariables false
set_option linter.unusedSimpArgs false
set_option maxRecDepth 4000

set_option maxHeartbeats 4000000 in
theorem tracksTell_law (v u : Value) (log : List (List Int)) (ls : List Int) (w : World) (hv : Lists w v log) (hu : Ints w u ls) (ol : ∀ t ∈ log, ∀ x ∈ t, okI x) (os : ∀ x ∈ ls, okI x) (hlog : log.length ≤ 5864062014805) :
    Calls Try.prog 3 #[v, u] w fun e w' => e = .returned (.bool true) ∧ Below w.heap.size w w' := by
  obtain ⟨la, lc, rfl, _, _⟩ := hv.slice
  obtain ⟨ua, uc, rfl⟩ := ints_slice hu
  have OL : Hid (∀ t ∈ log, ∀ x ∈ t, okI x) := ol
  have OS : Hid (∀ x ∈ ls, okI x) := os
  clear ol os
  go_enter Try.func3, Try.ntmps3
  go_wp2_with fail
  refine (of_any _ log _ (by exact hv)).mono ?_
  obtain ⟨⟨L0, L1, L2, L3⟩, er, HO⟩ : ∃ P er, Hid (ofL log = (P, er)) := ⟨_, _, rfl⟩
  rw [HO.out]
  rintro e w2 ⟨r, rfl, ⟨v0, v1, v2, v3, rfl, p0, p1, p2, p3⟩, b2⟩
  obtain ⟨a0, c0, rfl⟩ := ints_slice p0
  obtain ⟨a1, c1, rfl⟩ := ints_slice p1
  obtain ⟨a2, c2, rfl⟩ := ints_slice p2
  obtain ⟨a3, c3, rfl⟩ := pairs_slice p3
  replace hv := hv.below b2
  replace hu := hu.below b2
  simp only at p0 p1 p2 p3 ⊢
  have hx := box4_new w2 (.slice a0 L0.length c0) (.slice a1 L1.length c1) (.slice a2 L2.length c2) (.slice a3 L3.length c3) 26
  have bn := below_new w2 (.cells #[.slice a0 L0.length c0, .slice a1 L1.length c1, .slice a2 L2.length c2, .slice a3 L3.length c3] 26)
  obtain ⟨x, HX⟩ : ∃ x, Hid (w2.heap.size = x) := ⟨_, rfl⟩
  obtain ⟨w3, HW⟩ : ∃ u, Hid (w2.alloc (.cells #[.slice a0 L0.length c0, .slice a1 L1.length c1, .slice a2 L2.length c2, .slice a3 L3.length c3] 26) = u) := ⟨_, rfl⟩
  replace p0 := p0.below bn
  replace p1 := p1.below bn
  replace p2 := p2.below bn
  replace p3 := p3.below bn
  have c := below_then b2 bn
  replace hv := hv.below bn
  replace hu := hu.below bn
  rw [HW.out] at hx p0 p1 p2 p3 c hv hu
  rw [HX.out] at hx
  go_upto_region 2 with fail
  rw [HX.out, HW.out]
  clear HX HW bn b2
  go_wp2_with fail
  refine (vof_any _ log _ (by exact hv)).mono ?_
  rw [HO.out]
  rintro e w4 ⟨r, rfl, ⟨u0, u1, u2, u3, rfl, q0, q1, q2, q3⟩, b4⟩
  obtain ⟨d0, f0, rfl⟩ := ints_slice q0
  obtain ⟨d1, f1, rfl⟩ := ints_slice q1
  obtain ⟨d2, f2, rfl⟩ := ints_slice q2
  obtain ⟨d3, f3, rfl⟩ := pairs_slice q3
  simp only at q0 q1 q2 q3 ⊢
  have hy := box4_new w4 (.slice d0 L0.length f0) (.slice d1 L1.length f1) (.slice d2 L2.length f2) (.slice d3 L3.length f3) 26
  have bn := below_new w4 (.cells #[.slice d0 L0.length f0, .slice d1 L1.length f1, .slice d2 L2.length f2, .slice d3 L3.length f3] 26)
  have b5 := below_then b4 bn
  obtain ⟨y, HY⟩ : ∃ x, Hid (w4.heap.size = x) := ⟨_, rfl⟩
  obtain ⟨w5, HW⟩ : ∃ u, Hid (w4.alloc (.cells #[.slice d0 L0.length f0, .slice d1 L1.length f1, .slice d2 L2.length f2, .slice d3 L3.length f3] 26) = u) := ⟨_, rfl⟩
  replace q0 := q0.below bn
  replace q1 := q1.below bn
  replace q2 := q2.below bn
  replace q3 := q3.below bn
  rw [HW.out] at hy q0 q1 q2 q3 b5
  rw [HY.out] at hy
  replace hx := hx.below b5
  replace p0 := p0.below b5
  replace p1 := p1.below b5
  replace p2 := p2.below b5
  replace p3 := p3.below b5
  replace c := below_then c b5
  replace hv := hv.below b5
  replace hu := hu.below b5
  go_upto_region 3 with fail
  rw [HY.out, HW.out]
  clear HY HW bn b4 b5
  have HP : Hid (PrintsV w5 (.agg #[.slice a0 L0.length c0, .slice a1 L1.length c1, .slice a2 L2.length c2, .slice a3 L3.length c3]) ⟨L0, L1, L2, L3⟩) := ⟨_, _, _, _, rfl, p0, p1, p2, p3⟩
  have HQ : Hid (PrintsV w5 (.agg #[.slice d0 L0.length f0, .slice d1 L1.length f1, .slice d2 L2.length f2, .slice d3 L3.length f3]) ⟨L0, L1, L2, L3⟩) := ⟨_, _, _, _, rfl, q0, q1, q2, q3⟩
  obtain ⟨_, x0, x1, x2, x3⟩ := id hx
  obtain ⟨_, y0, y1, y2, y3⟩ := id hy
  have hw1 := wrong_any _ log w5 hv
  have hw2 := vwrong_any _ log w5 hv
  clear p0 p1 p2 p3 q0 q1 q2 q3 hx hy
  go_wp2_with (first
    | (go_at_call 9; refine hw1.mono ?_; rintro e w6 ⟨rfl, rfl⟩)
    | (go_at_call 10; refine hw2.mono ?_; rintro e w6 ⟨rfl, rfl⟩)
    | (go_at_call 11; refine (sameprints_same _ _ _ _ (by exact HP.out) (by exact HQ.out)).mono ?_; rintro e w7 ⟨rfl, b7⟩)
    | (go_at_call 13; refine (onto_any _ _ log ls _ (by exact hv.below b7) (by exact hu.below b7) OS.out OL.out hlog).mono ?_; rintro e w8 ⟨r1, rfl, hr1, b8⟩; have b8' := below_then b7 b8)
    | (go_at_call 14; refine (vonto_any _ _ log ls _ (by exact hv.below b8') (by exact hu.below b8') hlog).mono ?_; rintro e w9 ⟨r2, rfl, hr2, b9⟩; have hr1' := hr1.below b9; have b9' := below_then b8' b9)
    | (go_at_call 12; refine (samelists_same _ _ _ _ (by exact hr1') (by exact hr2)).mono ?_; rintro e w10 ⟨rfl, b10⟩; have b10' := below_then b9' b10))
  go_ret
  exact ⟨rfl, below_then c b10'⟩

theorem tracksTell_walk (v0 v1 : Value) (x0 : List (List Int)) (x1 : List Int) (W : World) (i0 : Lists W v0 x0) (i1 : Ints W v1 x1) (h0 : x0.length ≤ 5864062014805) (f0 : ∀ t ∈ x0, ∀ z ∈ t, (Lit.int .i64 z).wf = true)
    (f1 : ∀ z ∈ x1, (Lit.int .i64 z).wf = true) :
    Calls Try.prog 3 #[v0, v1] W fun e W' => e = .returned (.bool true) ∧ Below W.heap.size W W' := tracksTell_law v0 v1 x0 x1 W i0 i1 f0 f1 h0

end Go.Proofs.Ytlknegihhcdhbaa

/- TextBack: a net is read as it was written. -/
import Derived.Test.YteeogdihaajicaaDoorAlive15
namespace Go.Proofs.YteeogdihaajicaaDoor
open Go.RowKit
set_option linter.unusedVariables false
set_option linter.unusedSimpArgs false
set_option maxRecDepth 4000

theorem sameN_selfT (n : NetL) : sameN n n = true := by
  simp only [sameN, sameTs, sameTo, sameT, beq_self_eq_true, Bool.and_self, Bool.true_and]
  rw [List.all_eq_true]; intro _ _; rfl
theorem parse_back {n m : NetL} {k d : Int} (hn : netOk n = true) (h : ParseIs (textT n) m k d) : m = n ∧ d = 0 := by
  obtain ⟨e1, e2, e3⟩ := h.one (.inl ⟨rfl, rfl, hn, rfl⟩)
  exact ⟨e1, e3⟩
theorem text_len {n : NetL} (h : netOk n = true) : (textT n).length < 4294967281 := by
  obtain ⟨P, hPn, hP, h24, hAll⟩ := net_ok_trans h
  have h1 := lines_len hP hAll
  have h2 := first_len hP
  unfold textT
  rw [hPn]
  simp
  omega

set_option maxHeartbeats 4000000 in
theorem textBack_walk (v0 : Value) (x0 : NetL) (W : World) (i0 : Net W v0 x0) (hv : VarM W) :
    Calls Tryd.prog 4 #[v0] W fun e W' => e = .returned (.bool true) ∧ Below W.heap.size W W' := by
  obtain ⟨tv, rfl, hT⟩ := id i0
  have hbx := box2_new W (.int .i64 x0.places) tv 24
  have c := below_new W (.cells #[.int .i64 x0.places, tv] 24)
  obtain ⟨w0, H0⟩ : ∃ u, Hid (W.alloc (.cells #[.int .i64 x0.places, tv] 24) = u) := ⟨_, rfl⟩
  obtain ⟨NB, HNB⟩ : ∃ z, Hid (W.heap.size = z) := ⟨_, rfl⟩
  rw [H0.out, HNB.out] at hbx
  rw [H0.out] at c
  have Hc : Hid (Below W.heap.size W w0) := c
  clear hT c
  go_enter Tryd.func4, Tryd.ntmps4
  go_upto_region 1 with fail
  rw [H0.out, HNB.out]
  go_upto_region 3 with (go_at_call 12; refine (alive15_any _ (hv.below Hc.out)).mono ?_; rintro e w1 ⟨rfl, b1⟩)
  have c1 := below_then Hc.out b1
  have hbx1 := hbx.below b1
  obtain ⟨_, y0, y1⟩ := id hbx1
  go_upto_region 4 with (go_at_call 7; refine (print_any _ x0 _ (by exact i0.below c1)).mono ?_; rintro e w2 ⟨s, d, rfl, hI, b2⟩)
  have c2 := below_then c1 b2
  have hbx2 := hbx1.below b2
  clear y0 y1 hbx1 hbx b1 b2 H0
  have HI : Hid (PrintIs x0 s d) := hI
  have hsl : s.length < 4294967281 := by
    rcases hI with ⟨h1, h2, _⟩ | ⟨_, h2, _⟩
    · rw [h2]; exact text_len h1
    · rw [h2]; decide
  clear hI
  go_upto_region 5 with (go_at_call 9; refine (parse_any s _ (hv.below c2) hsl).mono ?_; rintro e w3 ⟨⟨u, m, k, f, rfl, hN, hQ⟩, b3⟩; obtain ⟨uv, rfl, hU⟩ := id hN; obtain ⟨ua, ul, uc, rfl, _⟩ := id hU)
  have c3 := below_then c2 b3
  have bA := below_new w3 (.cells #[.int .i64 m.places, .slice ua ul uc] 24)
  have hby := box2_new w3 (.int .i64 m.places) (.slice ua ul uc) 24
  obtain ⟨w4, H4⟩ : ∃ u, Hid (w3.alloc (.cells #[.int .i64 m.places, .slice ua ul uc] 24) = u) := ⟨_, rfl⟩
  obtain ⟨Y, HY⟩ : ∃ z, Hid (w3.heap.size = z) := ⟨_, rfl⟩
  rw [H4.out, HY.out] at hby
  rw [H4.out] at bA
  rw [H4.out, HY.out]
  have c4 := below_then c3 bA
  have hbx4 := hbx2.below (below_then b3 bA)
  have hN4 := hN.below bA
  clear hU hN bA H4 b3 hbx2
  obtain ⟨_, y0, y1⟩ := id hbx4
  obtain ⟨_, z0, z1⟩ := id hby
  rcases HI.out with ⟨h1, h2, h3⟩ | ⟨h1, h2, h3⟩
  · have HQ : Hid (ParseIs (textT x0) m k f) := by show ParseIs _ _ _ _; rw [← h2]; exact hQ
    obtain ⟨rfl, rfl⟩ := parse_back h1 HQ.out
    subst h3
    have n1 := sameN_selfT m
    clear hQ h1 h2 HI
    go_wp2_with (go_at_call 11; refine (samenet_any _ _ m m _ ?_ ?_).mono ?_; exact hN4; exact i0.below c4; rintro e w5 ⟨rfl, b5⟩; rw [n1])
    go_ret
    exact ⟨rfl, below_then c4 b5⟩
  · subst h3
    have n2 := bs_nil h2
    have hw : wrongL x0 = 2 := by unfold wrongL; rw [h1]; rfl
    clear hQ h1 h2 HI
    go_wp2_with (go_at_call 13; refine (net_wrong _ x0 _ (by exact i0.below c4)).mono ?_; rintro e w5 ⟨rfl, b5⟩; rw [hw])
    go_ret
    exact ⟨rfl, below_then c4 b5⟩

end Go.Proofs.YteeogdihaajicaaDoor

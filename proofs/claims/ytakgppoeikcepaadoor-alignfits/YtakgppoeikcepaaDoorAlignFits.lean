/- AlignFits: what fits costs nothing, and what costs nothing fits. -/
import Derived.Test.YtakgppoeikcepaaDoorAlive21
import Derived.Test.YtakgppoeikcepaaDoorGr28
import Derived.Test.YtakgppoeikcepaaDoorGr27
namespace Go.Proofs.YtakgppoeikcepaaDoor
open Go.RowKit
set_option linter.unusedVariables false
set_option linter.unusedSimpArgs false
set_option maxRecDepth 4000

theorem fits_zero {n : NetL} {i o : Int} {tr : List Int} {ms : List MoveL} {c f : Int} {b : Bool} (h : AlignAns n i o tr ms c 0) (k : HasAns n i o tr b f) : f = 0 ∧ (b = true ↔ c = 0) := by
  obtain ⟨h0, _, s, e, hs, hw, h1, h2, h3, h4, h5⟩ := h.zero
  obtain rfl := k.err.unique h0
  refine ⟨rfl, ?_⟩
  rw [k.ok rfl]
  have hword := word_end hs hw h1 h2 tr
  unfold WordI
  rw [hword, ← lay_word]
  constructor
  · rintro ⟨xs, x1, x2⟩
    have := h5.2 xs x1
    omega
  · intro hc
    exact ⟨ms, h3, by omega⟩
theorem fits_none {n : NetL} {i o : Int} {tr : List Int} {ms : List MoveL} {c f : Int} {b : Bool} (h : AlignAns n i o tr ms c 3) (k : HasAns n i o tr b f) : f = 0 ∧ b = false := by
  obtain ⟨d0, h1, h2, h3⟩ := h.ex
  obtain rfl := k.err.unique h1
  by_cases hd : f = 0
  · refine ⟨hd, ?_⟩
    subst hd
    obtain ⟨_, s, hs, hw⟩ := h1.whole
    rw [Bool.eq_false_iff]
    intro hb
    have hb' := (k.ok rfl).1 hb
    obtain ⟨e, e1, e2, _⟩ := hw.word.1 hb'
    rcases h3 rfl with ⟨_, q, _⟩ | ⟨_, q, _⟩ | ⟨_, q, _⟩
    · omega
    · rw [hs] at q; exact q e e1 e2
    · omega
  · have := (h2 hd).1
    subst this
    exact absurd h1 (fun q => q.not3)

set_option maxHeartbeats 4000000 in
theorem alignFits_walk (v0 v3 : Value) (x0 : NetL) (x1 x2 : Int) (x3 : List Int) (W : World) (i0 : Net W v0 x0) (i3 : Ints W v3 x3) (hTab : Tab W) :
    Calls Tryd.prog 3 #[v0, .int .i64 x1, .int .i64 x2, v3] W fun e W' => e = .returned (.bool true) ∧ Below W.heap.size W W' := by
  obtain ⟨tv, rfl, hT⟩ := id i0
  obtain ⟨na, nl, nc, rfl, _⟩ := id hT
  obtain ⟨ta, tl, tc, rfl, htl, _, _⟩ := id i3
  clear htl hT
  have hbx := box2_new W (.int .i64 x0.places) (.slice na nl nc) 24
  have c := below_new W (.cells #[.int .i64 x0.places, .slice na nl nc] 24)
  obtain ⟨w0, H0⟩ : ∃ u, Hid (W.alloc (.cells #[.int .i64 x0.places, .slice na nl nc] 24) = u) := ⟨_, rfl⟩
  rw [H0.out] at hbx c
  obtain ⟨NB, HNB⟩ : ∃ z, Hid (W.heap.size = z) := ⟨_, rfl⟩
  have Hc : Hid (Below W.heap.size W w0) := c
  rw [HNB.out] at hbx
  clear c
  go_enter Tryd.func3, Tryd.ntmps3
  go_upto_region 1 with fail
  rw [H0.out, HNB.out]
  go_upto_region 3 with (go_at_call 5; refine (alive21_any _).mono ?_; rintro e w1 ⟨rfl, b⟩)
  have c1 := below_then Hc.out b
  have hbx1 := hbx.below b
  obtain ⟨_, y0, y1⟩ := id hbx1
  have hC := align_any (i := x1) (o := x2) (i0.below c1) (i3.below c1)
  unfold alignGoes at hC
  clear b hbx
  go_upto_region 4 with (go_at_call 6; refine hC.mono ?_; rintro e w2 ⟨r1, ms, ca, ea, rfl, hA, hM, b⟩; obtain ⟨ra, rc, rfl⟩ := hM.slice)
  have c2 := below_then c1 b
  have hbx2 := hbx1.below b
  clear hC b hbx1 c1 y0 y1 hM
  obtain ⟨_, y0, y1⟩ := id hbx2
  have hC := tongue_has _ _ x0 x1 x2 x3 w2 (i0.below c2) (i3.below c2) (hTab.below c2)
  go_upto_region 5 with (go_at_call 7; refine hC.mono ?_; rintro e w3 ⟨bb, fa, rfl, hL, b⟩)
  have c3 := below_then c2 b
  clear hC b hbx2 c2 y0 y1
  by_cases he : ea = 0
  · subst he
    obtain ⟨rfl, hb⟩ := fits_zero hA hL
    clear hA hL
    by_cases hz : ca = 0
    · obtain rfl : bb = true := hb.2 hz
      subst hz
      clear hb
      go_wp2
      go_ret
      exact ⟨rfl, c3⟩
    · obtain rfl : bb = false := by rw [Bool.eq_false_iff]; exact fun q => hz (hb.1 q)
      have n1 : (ca == 0) = false := by rw [beq_eq_false_iff_ne]; exact hz
      clear hb
      go_wp2
      go_ret
      exact ⟨rfl, c3⟩
  · have n1 : (ea == 0) = false := by rw [beq_eq_false_iff_ne]; exact he
    by_cases h3 : ea = 3
    · subst h3
      obtain ⟨rfl, rfl⟩ := fits_none hA hL
      clear hA hL
      go_wp2
      go_ret
      exact ⟨rfl, c3⟩
    · have n2 : (ea == 3) = false := by rw [beq_eq_false_iff_ne]; exact h3
      clear hA hL
      go_wp2
      go_ret
      exact ⟨rfl, c3⟩

end Go.Proofs.YtakgppoeikcepaaDoor

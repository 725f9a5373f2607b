/- TongueHas: what package tongue tells is what the document's own search tells. -/
import Derived.Test.YteoofibhpifmlaaDoorGr28
import Derived.Test.YteoofibhpifmlaaDoorTongRef4
namespace Go.Proofs.YteoofibhpifmlaaDoor
open Go.RowKit
set_option linter.unusedVariables false
set_option linter.unusedSimpArgs false
set_option maxRecDepth 4000

theorem Lsp.err {n : NetL} {i o : Int} {s : SpaceL} {a d : Int} (h : Lsp n i o s a d) : TongErr n i o d := by
  rcases h with h | ⟨h1, h2, _⟩
  · exact .inl h
  · exact .inr ⟨h1, by rw [h2]⟩
theorem Lsp.word {n : NetL} {i o : Int} {s : SpaceL} {a : Int} (h : Lsp n i o s a 0) (ws : List Int) : WordI n i o ws ↔ ToEnd n s (startL n.places o) 0 ws := by
  rcases h with ⟨h, _⟩ | ⟨_, h2, _⟩
  · exact absurd rfl h
  · exact (graphL_whole h2).word
theorem LHasIs.ans {n : NetL} {i o : Int} {ws : List Int} {b : Bool} {d : Int} (h : LHasIs n i o ws b d) : HasAns n i o ws b d := by
  obtain ⟨s, a, hL, h1, h2⟩ := h
  refine ⟨hL.err, h1, fun hd => ?_⟩
  subst hd
  rw [h2 rfl, hL.word]
theorem LLeastIs.ans {n : NetL} {i o k d : Int} (h : LLeastIs n i o k d) : LeastAns n i o k d := by
  obtain ⟨s, a, d0, hL, h1, h2⟩ := h
  refine ⟨d0, hL.err, h1, fun hd => ?_⟩
  subst hd
  rcases h2 rfl with ⟨q1, q2, q3⟩ | ⟨q1, ws, q2, q3, q4⟩
  · exact .inl ⟨q1, q2, fun ws hw => q3 ws ((hL.word ws).1 hw)⟩
  · exact .inr ⟨q1, ws, (hL.word ws).2 q2, q3, fun ws' hw => q4 ws' ((hL.word ws').1 hw)⟩

set_option maxHeartbeats 4000000 in
theorem tongueHas_walk (v q : Value) (n : NetL) (i o : Int) (ws : List Int) (w : World) (hv : Net w v n) (hq : Ints w q ws) (hbn : BulkNet n) (hbs : ws.length ≤ 1048576) (hTab : Tab w) :
    Calls Tryd.prog 3 #[v, .int .i64 i, .int .i64 o, q] w fun e w' => e = .returned (.bool true) ∧ Below w.heap.size w w' := by
  have hsm := hbn.small
  obtain ⟨tv, rfl, hT⟩ := hv
  have c := below_new w (.cells #[.int .i64 n.places, tv] 24)
  have hbx := box2_new w (.int .i64 n.places) tv 24
  have hv : Net (w.alloc (.cells #[.int .i64 n.places, tv] 24)) (.agg #[.int .i64 n.places, tv]) n := ⟨_, rfl, hT.below c⟩
  obtain ⟨w0, Hw0⟩ : ∃ w0, Hid (w.alloc (.cells #[.int .i64 n.places, tv] 24) = w0) := ⟨_, rfl⟩
  rw [Hw0.out] at c hbx hv
  replace hq := hq.below c
  clear hT
  obtain ⟨x0, x1, x2⟩ := id hbx
  go_enter Tryd.func3, Tryd.ntmps3
  go_upto_region 1 with fail
  rw [Hw0.out]
  clear Hw0
  go_wp2_with fail
  clear x0 x1 x2
  refine (tongue_has _ _ n i o ws _ (by exact hv) (by exact hq) (hTab.below c)).mono ?_
  rintro e w1 ⟨b, d, rfl, hH, b1⟩
  have HH : Hid (HasAns n i o ws b d) := hH
  replace hbx := hbx.below b1
  replace hv := hv.below b1
  replace c := below_then c b1
  replace hq := hq.below b1
  clear b1 hH
  obtain ⟨x0, x1, x2⟩ := id hbx
  go_wp2_with fail
  clear x0 x1 x2
  refine (lhas_any _ _ n i o ws _ (by exact hv) (by exact hq) hsm hbs).mono ?_
  rintro e w2 ⟨b', d', rfl, hH, b2⟩
  obtain ⟨rfl, rfl⟩ := HH.out.unique hH.ans
  replace hbx := hbx.below b2
  replace hv := hv.below b2
  replace c := below_then c b2
  clear b2 hH HH hq
  obtain ⟨x0, x1, x2⟩ := id hbx
  go_wp2_with fail
  clear x0 x1 x2
  refine (tongue_least _ n i o _ (by exact hv)).mono ?_
  rintro e w3 ⟨k, d3, rfl, hL, b3⟩
  have HL : Hid (LeastAns n i o k d3) := hL
  replace hbx := hbx.below b3
  replace hv := hv.below b3
  replace c := below_then c b3
  clear b3 hL
  obtain ⟨x0, x1, x2⟩ := id hbx
  go_wp2_with fail
  clear x0 x1 x2
  refine (lleast_any _ n i o _ (by exact hv) hsm).mono ?_
  rintro e w4 ⟨k', d4, rfl, hL, b4⟩
  obtain ⟨rfl, rfl⟩ := HL.out.unique hL.ans
  replace c := below_then c b4
  clear b4 hL HL hv hbx
  have g1 : (d == d) = true := by simp
  have g2 : (b == b) = true := by simp
  have g3 : (d3 == d3) = true := by simp
  have g4 : (k == k) = true := by simp
  go_wp2
  go_ret
  exact ⟨rfl, c⟩

end Go.Proofs.YteoofibhpifmlaaDoor

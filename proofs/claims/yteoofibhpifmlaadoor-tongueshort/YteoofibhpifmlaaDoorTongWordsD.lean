/- Package tongue as it landed: Words. -/
import Derived.Test.YteoofibhpifmlaaDoorTongListed
namespace Go.Proofs.YteoofibhpifmlaaDoor
open Go.RowKit
set_option linter.unusedVariables false
set_option maxRecDepth 4000

theorem lists_none (w : World) : Lists w (.slice none 0 0) [] := ⟨none, 0, 0, rfl, rfl, by omega, ⟨by omega, by omega, fun _ => rfl⟩, fun j hj => absurd hj (by simp)⟩

set_option maxRecDepth 100000 in
set_option maxHeartbeats 4000000 in
theorem tongue_words (v : Value) (n : NetL) (i o most : Int) (w : World) (hv : Net w v n) (hTab : Tab w) :
    Calls Tryd.prog 14 #[v, .int .i64 i, .int .i64 o, .int .i64 most] w fun e w' => ∃ r l d, e = .returned (.tuple #[r, .int .i64 d]) ∧ (Lists w' r l ∧ WordsAns n i o most l d) ∧ Below w.heap.size w w' := by
  obtain ⟨tv, rfl, hT⟩ := hv
  have c : Below w.heap.size w (w.alloc (.cells #[.int .i64 n.places, tv] 24)) := below_new _ _
  have hbx := box2_new w (.int .i64 n.places) tv 24
  obtain ⟨w0, Hw0⟩ : ∃ w0, Hid (w.alloc (.cells #[.int .i64 n.places, tv] 24) = w0) := ⟨_, rfl⟩
  rw [Hw0.out] at c hbx
  have hv : Net w0 (.agg #[.int .i64 n.places, tv]) n := ⟨_, rfl, hT.below c⟩
  obtain ⟨x0, x1, x2⟩ := id hbx
  go_enter Tryd.func14, Tryd.ntmps14
  go_upto_region 1 with fail
  rw [Hw0.out]
  clear Hw0
  go_wp2_with fail
  clear x0 x1 x2
  refine (heard_any _ n i o _ (by exact hv)).mono ?_
  rintro e w1 ⟨p, d, rfl, hH, b⟩
  have HE := heard_err hH
  replace c := below_then c b
  clear b hv hbx
  rcases hH with ⟨hd0, rfl, _⟩ | ⟨rfl, hS, s, hG, T, bn, lv, t, rfl, hTa, hTk⟩
  · have hdd : (d != 0) = true := by simpa using hd0
    go_wp2
    go_ret2
    exact ⟨_, [], d, rfl, ⟨lists_none _, ⟨d, HE, fun _ => ⟨rfl, rfl⟩, fun h => absurd h hd0⟩⟩, c⟩
  · have hW := graphL_whole hG
    have hN : s.marks.length ≤ 300 := by have := graphL_small n (startL n.places i) 300; rw [hG] at this; exact this
    have hwd : ∀ ws, ToEnd n s (startL n.places o) 0 ws ↔ WordI n i o ws := fun ws => hW.word.symm
    by_cases hm : 0 ≤ most ∧ most ≤ 8
    · have t1 : decide (most < 0) = false := by rw [decide_eq_false_iff_not]; omega
      have t2 : decide (most > 8) = false := by rw [decide_eq_false_iff_not]; omega
      go_wp2_with fail
      refine (listed_any T bn lv t n (startL n.places i) (startL n.places o) s most w1 hTa (hTab.below c) hW hN hS.ok hTk hm).mono ?_
      rintro e w2 ⟨r, l, d, rfl, hl, hA, b2⟩
      go_wp2
      go_ret2
      exact ⟨r, l, d, rfl, ⟨hl, ⟨0, HE, fun h => absurd rfl h, fun _ => ⟨fun h => absurd hm h, fun _ => hA.congr hwd⟩⟩⟩, below_then c b2⟩
    · have R : WordsAns n i o most [] 2 := ⟨0, HE, fun h => absurd rfl h, fun _ => ⟨fun _ => ⟨rfl, rfl⟩, fun h => absurd h hm⟩⟩
      by_cases h1 : most < 0
      · have t1 : decide (most < 0) = true := by simpa using h1
        go_wp2
        go_ret2
        exact ⟨_, [], 2, rfl, ⟨lists_none _, R⟩, c⟩
      · have t1 : decide (most < 0) = false := by simpa using h1
        have t2 : decide (most > 8) = true := by rw [decide_eq_true_eq]; omega
        clear h1
        go_wp2
        go_ret2
        exact ⟨_, [], 2, rfl, ⟨lists_none _, R⟩, c⟩

end Go.Proofs.YteoofibhpifmlaaDoor

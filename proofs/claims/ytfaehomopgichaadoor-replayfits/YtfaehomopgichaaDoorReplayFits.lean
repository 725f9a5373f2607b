/- The law ReplayFits, walked: it answers true, and writes nothing that was there. -/
import Derived.Test.YtfaehomopgichaaDoorGr30
import Derived.Test.YtfaehomopgichaaDoorGr05
import Derived.Test.YtfaehomopgichaaDoorGr28
namespace Go.Proofs.YtfaehomopgichaaDoor
open Go.RowKit
set_option linter.unusedVariables false
set_option linter.unusedSimpArgs false
set_option maxRecDepth 4000

set_option maxHeartbeats 4000000 in
theorem replayFits_walk (v sv : Value) (n : NetL) (i o : Int) (tr : List Int) (w : World) (hv : Net w v n) (hs : Ints w sv tr) (hTab : Tab w) :
    Calls Tryd.prog 3 #[v, .int .i64 i, .int .i64 o, sv] w fun e w' => e = .returned (.bool true) ∧ Below w.heap.size w w' := by
  obtain ⟨tv, rfl, hT⟩ := hv
  have c := below_new w (.cells #[.int .i64 n.places, tv] 24)
  have hbx := box2_new w (.int .i64 n.places) tv 24
  have hv : Net _ (.agg #[.int .i64 n.places, tv]) n := ⟨_, rfl, hT.below c⟩
  replace hs := hs.below c
  clear hT
  go_enter Tryd.func3, Tryd.ntmps3
  go_wp2_with fail
  refine (alive20_any _).mono ?_
  rintro e w1 ⟨rfl, b⟩
  replace hv := hv.below b
  replace hs := hs.below b
  replace hbx := hbx.below b
  replace c := below_then c b
  clear b
  obtain ⟨x0, x1, x2⟩ := id hbx
  go_wp2_with fail
  refine (replay_replay _ _ n i o tr _ (by exact hv) (by exact hs)).mono ?_
  rintro e w2 ⟨r, d, rfl, hR, b⟩
  replace c := below_then c b
  replace hv := hv.below b
  replace hs := hs.below b
  replace hbx := hbx.below b
  clear b x0 x1 x2
  have bn := below_new w2 (.cells (playA r) 28)
  have hp := playAt_new w2 r
  obtain ⟨p1, p2, p3, p4⟩ := r
  obtain ⟨bk, Hbk⟩ : ∃ b1, Hid (w2.heap.size = b1) := ⟨_, rfl⟩
  rw [Hbk.out] at hp
  obtain ⟨w3, Hw3⟩ : ∃ w3, Hid (w2.alloc (.cells #[.int .i64 p1, .int .i64 p2, .int .i64 p3, .int .i64 p4] 28) = w3) := ⟨_, rfl⟩
  have e0 : w2.alloc (.cells (playA ⟨p1, p2, p3, p4⟩) 28) = w3 := Hw3.out
  rw [e0] at hp bn
  clear e0
  replace c := below_then c bn
  replace hv := hv.below bn
  replace hs := hs.below bn
  replace hbx := hbx.below bn
  simp only [playV, playA]
  go_upto_region 4 with fail
  rw [Hbk.out, Hw3.out]
  clear Hbk Hw3 bn
  by_cases hd : d = 0
  · subst hd
    have HF : Hid _ := hR.fits
    simp only at HF
    obtain ⟨x0, x1, x2⟩ := id hbx
    go_wp2_with fail
    refine (tongue_has _ _ n i o tr _ (by exact hv) (by exact hs) (hTab.below c)).mono ?_
    rintro e w4 ⟨ok, f, rfl, hA, b⟩
    replace c := below_then c b
    replace hp := hp.below b hp.lt
    clear x0 x1 x2 hv hs hbx hR
    obtain ⟨q1, q2, q3, q4, _, _, _, _⟩ := hp.cells
    simp only at q1 q2 q3 q4
    clear hp b
    by_cases hf : f = 0
    · subst hf
      have HO : Hid (ok = true ↔ p3 = 0 ∧ p4 = 0) := (hA.ok rfl).trans HF.out
      clear hA HF
      by_cases h3 : p3 = 0
      · subst h3
        by_cases h4 : p4 = 0
        · subst h4
          obtain rfl : ok = true := HO.out.2 ⟨rfl, rfl⟩
          go_wp2
          go_ret
          exact ⟨rfl, c⟩
        · have e4 : (p4 == 0) = false := by rw [beq_eq_false_iff_ne]; exact h4
          obtain rfl : ok = false := by
            cases ok with
            | false => rfl
            | true => exact absurd (HO.out.1 rfl).2 h4
          clear HO h4
          go_wp2
          go_ret
          exact ⟨rfl, c⟩
      · have e3 : (p3 == 0) = false := by rw [beq_eq_false_iff_ne]; exact h3
        obtain rfl : ok = false := by
          cases ok with
          | false => rfl
          | true => exact absurd (HO.out.1 rfl).1 h3
        clear HO h3
        go_wp2
        go_ret
        exact ⟨rfl, c⟩
    · have hff : (f != 0) = true := by simpa using hf
      clear hA hf HF
      go_wp2
      go_ret
      exact ⟨rfl, c⟩
  · have hdd : (d != 0) = true := by simpa using hd
    clear hR hd hp
    go_wp2
    go_ret
    exact ⟨rfl, c⟩

end Go.Proofs.YtfaehomopgichaaDoor

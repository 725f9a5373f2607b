/- The law ReplayTells, walked: it answers true, and writes nothing that was there. -/
import Derived.Test.YtfaehomopgichaaReplayDev
import Derived.Test.YtfaehomopgichaaReplayRef1
namespace Go.Proofs.Ytfaehomopgichaa
open Go.RowKit
set_option linter.unusedVariables false
set_option linter.unusedSimpArgs false
set_option maxRecDepth 4000

set_option maxHeartbeats 4000000 in
theorem replayTells_walk (v sv : Value) (n : NetL) (i o : Int) (tr : List Int) (w : World) (hv : Net w v n) (hs : Ints w sv tr) (hbk : BulkNet n) (hbs : tr.length ≤ 1048576) :
    Calls Try.prog 3 #[v, .int .i64 i, .int .i64 o, sv] w fun e w' => e = .returned (.bool true) ∧ Below w.heap.size w w' := by
  have hsm : SmallNet n := fun k hk => by have := hbk.2 k hk; omega
  clear hbk hbs
  obtain ⟨tv, rfl, hT⟩ := hv
  have c := below_new w (.cells #[.int .i64 n.places, tv] 24)
  have hbx := box2_new w (.int .i64 n.places) tv 24
  have hv : Net _ (.agg #[.int .i64 n.places, tv]) n := ⟨_, rfl, hT.below c⟩
  replace hs := hs.below c
  clear hT
  obtain ⟨x0, x1, x2⟩ := id hbx
  go_enter Try.func3, Try.ntmps3
  go_wp2_with fail
  refine (replay_replay _ _ n i o tr _ (by exact hv) (by exact hs)).mono ?_
  rintro e w2 ⟨r, d, rfl, hR, b⟩
  replace c := below_then c b
  replace hv := hv.below b
  replace hs := hs.below b
  replace hbx := hbx.below b
  clear b x0 x1 x2
  have bn := below_new w2 (.cells (playA r) 27)
  have hp := playAt_new w2 r
  obtain ⟨bk, Hbk⟩ : ∃ b1, Hid (w2.heap.size = b1) := ⟨_, rfl⟩
  rw [Hbk.out] at hp
  obtain ⟨w3, Hw3⟩ : ∃ w3, Hid (w2.alloc (.cells #[.int .i64 r.put, .int .i64 r.taken, .int .i64 r.lacked, .int .i64 r.left] 27) = w3) := ⟨_, rfl⟩
  have e0 : w2.alloc (.cells (playA r) 27) = w3 := Hw3.out
  rw [e0] at hp bn
  clear e0
  replace c := below_then c bn
  replace hv := hv.below bn
  replace hs := hs.below bn
  replace hbx := hbx.below bn
  simp only [playV, playA]
  go_upto_region 2 with fail
  rw [Hbk.out, Hw3.out]
  clear Hbk Hw3 bn
  obtain ⟨x0, x1, x2⟩ := id hbx
  go_wp2_with fail
  refine (treplay_any _ _ n i o tr _ (by exact hv) (by exact hs) hsm).mono ?_
  rintro e w4 ⟨r', d', rfl, hR', b⟩
  obtain ⟨rfl, rfl⟩ := hR.unique hR'
  clear hR hR'
  replace c := below_then c b
  replace hp := hp.below b hp.lt
  clear b x0 x1 x2 hv hs hbx
  have bn := below_new w4 (.cells (playA r) 27)
  have hp2 := playAt_new w4 r
  obtain ⟨bk2, Hbk2⟩ : ∃ b1, Hid (w4.heap.size = b1) := ⟨_, rfl⟩
  rw [Hbk2.out] at hp2
  obtain ⟨w5, Hw5⟩ : ∃ w3, Hid (w4.alloc (.cells #[.int .i64 r.put, .int .i64 r.taken, .int .i64 r.lacked, .int .i64 r.left] 27) = w3) := ⟨_, rfl⟩
  have e0 : w4.alloc (.cells (playA r) 27) = w5 := Hw5.out
  rw [e0] at hp2 bn
  clear e0
  replace c := below_then c bn
  replace hp := hp.below bn hp.lt
  simp only [playV, playA]
  go_upto_region 3 with fail
  rw [Hbk2.out, Hw5.out]
  clear Hbk2 Hw5 bn
  obtain ⟨q1, q2, q3, q4, _, _, _, _⟩ := hp.cells
  obtain ⟨q5, q6, q7, q8, _, _, _, _⟩ := hp2.cells
  clear hp hp2
  go_wp2
  go_ret
  exact ⟨rfl, c⟩

end Go.Proofs.Ytfaehomopgichaa

/- The law ReplaySum, walked: it answers true, and writes nothing that was there. -/
import Derived.Test.YtfaehomopgichaaGr15
namespace Go.Proofs.Ytfaehomopgichaa
open Go.RowKit
set_option linter.unusedVariables false
set_option linter.unusedSimpArgs false
set_option maxRecDepth 4000

theorem run_min4 {p1 p2 p3 p4 : Int} (h1 : 0 ≤ p1) (h2 : 0 ≤ p2) (h3 : 0 ≤ p3) (h4 : 0 ≤ p4) : ∃ m : Int, 0 ≤ m ∧ ∀ (ts : Array TypeId) (t : TypeId) (w : World), (Builtin.min_ ts t #[.int .i64 p1, .int .i64 p2, .int .i64 p3, .int .i64 p4]).run Try.prog w = .ok (.int .i64 m) w := by
  refine ⟨if p4 < (if p3 < (if p2 < p1 then p2 else p1) then p3 else (if p2 < p1 then p2 else p1)) then p4 else (if p3 < (if p2 < p1 then p2 else p1) then p3 else (if p2 < p1 then p2 else p1)), ?_, fun ts t w => ?_⟩
  · split <;> split <;> (try split) <;> omega
  · simp [Builtin.min_, Builtin.min2, go_sem]

set_option maxHeartbeats 4000000 in
theorem replaySum_walk (v sv : Value) (n : NetL) (i o : Int) (tr : List Int) (w : World) (hv : Net w v n) (hs : Ints w sv tr) :
    Calls Try.prog 4 #[v, .int .i64 i, .int .i64 o, sv] w fun e w' => e = .returned (.bool true) ∧ Below w.heap.size w w' := by
  obtain ⟨tv, rfl, hT⟩ := hv
  have c := below_new w (.cells #[.int .i64 n.places, tv] 24)
  have hbx := box2_new w (.int .i64 n.places) tv 24
  have hv : Net _ (.agg #[.int .i64 n.places, tv]) n := ⟨_, rfl, hT.below c⟩
  replace hs := hs.below c
  clear hT
  go_enter Try.func4, Try.ntmps4
  go_wp2_with fail
  refine (alive20_any _).mono ?_
  rintro e w1 ⟨rfl, b⟩
  replace hv := hv.below b
  replace hs := hs.below b
  replace hbx := hbx.below b
  replace c := below_then c b
  clear b
  obtain ⟨x0, x1, x2⟩ := id hbx
  go_wp2_with fail
  refine (replay_replay _ _ n i o tr _ (by exact hv) (by exact hs)).mono ?_
  rintro e w2 ⟨r, d, rfl, hR, b⟩
  replace c := below_then c b
  clear b x0 x1 x2 hv hs hbx
  have bn := below_new w2 (.cells (playA r) 27)
  have hp := playAt_new w2 r
  obtain ⟨p1, p2, p3, p4⟩ := r
  obtain ⟨bk, Hbk⟩ : ∃ b1, Hid (w2.heap.size = b1) := ⟨_, rfl⟩
  rw [Hbk.out] at hp
  obtain ⟨w3, Hw3⟩ : ∃ w3, Hid (w2.alloc (.cells #[.int .i64 p1, .int .i64 p2, .int .i64 p3, .int .i64 p4] 27) = w3) := ⟨_, rfl⟩
  have e0 : w2.alloc (.cells (playA ⟨p1, p2, p3, p4⟩) 27) = w3 := Hw3.out
  rw [e0] at hp bn
  clear e0
  replace c := below_then c bn
  simp only [playV, playA]
  go_upto_region 4 with fail
  rw [Hbk.out, Hw3.out]
  clear Hbk Hw3 bn
  obtain ⟨q1, q2, q3, q4, _, _, _, _⟩ := hp.cells
  simp only at q1 q2 q3 q4
  clear hp
  by_cases hd : d = 0
  · subst hd
    obtain ⟨s1, s2, s3, s4, s5, s6, s7, s8, s9⟩ := hR.sums
    simp only at s1 s2 s3 s4 s5 s6 s7 s8 s9
    clear hR
    have hsum : (p1 + p3 == p2 + p4) = true := by rw [beq_iff_eq]; exact s1
    have H1 : Hid (p1 + p3 = p2 + p4) := s1
    clear s1
    obtain ⟨m, hm0, hmin⟩ := run_min4 (p1 := p1) (p2 := p2) (p3 := p3) (p4 := p4) (by omega) (by omega) s2 s3
    go_wp2
    go_ret
    exact ⟨rfl, c⟩
  · have hdd : (d != 0) = true := by simpa using hd
    have e := hR.err hd
    simp only [noPlay, PlayL.mk.injEq] at e
    obtain ⟨rfl, rfl, rfl, rfl⟩ := e
    clear hR hd
    go_wp2
    go_ret
    exact ⟨rfl, c⟩

end Go.Proofs.Ytfaehomopgichaa

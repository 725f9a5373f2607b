/- The law GrowTells, walked: it answers true, and writes nothing that was there. -/
import Derived.Test.YtfgimobmaahmmaaGr16
import Derived.Test.YtfgimobmaahmmaaGr04
namespace Go.Proofs.Ytfgimobmaahmmaa
open Go.RowKit
set_option linter.unusedVariables false
set_option linter.unusedSimpArgs false
set_option maxRecDepth 4000

theorem same_netG (n : NetL) : sameN n n = true := by
  unfold sameN sameTs sameTo sameT
  simp

set_option maxHeartbeats 4000000 in
theorem growTells_walk (v0 : Value) (b : BlockL) (w : World) (hv : BlockV w v0 b) :
    Calls Try.prog 3 #[v0] w fun e w' => e = .returned (.bool true) ∧ Below w.heap.size w w' := by
  obtain ⟨a, len0, cap, e0⟩ : ∃ a l c, v0 = .agg #[.int .i64 b.kind, .int .i64 b.label, .slice a l c] := by obtain ⟨kv, e, hK⟩ := blockV_iff.1 hv; obtain ⟨a, c, e2, _⟩ := hK.slice; exact ⟨a, _, c, by rw [e, e2]⟩
  subst e0
  have c := below_new w (.cells #[.int .i64 b.kind, .int .i64 b.label, .slice a len0 cap] 24)
  have hbx := box3_new w (.int .i64 b.kind) (.int .i64 b.label) (.slice a len0 cap) 24
  replace hv := hv.below c
  obtain ⟨w0, Hw0⟩ : ∃ w0, Hid (w.alloc (.cells #[.int .i64 b.kind, .int .i64 b.label, .slice a len0 cap] 24) = w0) := ⟨_, rfl⟩
  rw [Hw0.out] at c hbx hv
  obtain ⟨N, HN⟩ : ∃ N, Hid ((growL b).1 = N) := ⟨_, rfl⟩
  obtain ⟨E, HE⟩ : ∃ E, Hid ((growL b).2 = E) := ⟨_, rfl⟩
  obtain ⟨x0, x1, x2, x3⟩ := id hbx
  go_enter Try.func3, Try.ntmps3
  go_upto_region 1 with fail
  rw [Hw0.out]
  clear Hw0
  go_wp2_with fail
  refine (grow_grow _ b w0 hv).mono ?_
  rintro e w1 ⟨r1, rfl, hr1, b1⟩
  rw [HE.out]
  rw [HN.out] at hr1
  obtain ⟨v1, rfl, hT1⟩ := hr1
  obtain ⟨a1, l1, p1, rfl, _⟩ := id hT1
  have bn := below_new w1 (.cells #[.int .i64 N.places, .slice a1 l1 p1] 27)
  have hb1 := box2_new w1 (.int .i64 N.places) (.slice a1 l1 p1) 27
  obtain ⟨w2, Hw2⟩ : ∃ w2, Hid (w1.alloc (.cells #[.int .i64 N.places, .slice a1 l1 p1] 27) = w2) := ⟨_, rfl⟩
  rw [Hw2.out] at bn hb1
  clear x0 x1 x2 x3
  replace hv := (hv.below b1).below bn
  replace hbx := (hbx.below b1).below bn
  replace c := below_then (below_then c b1) bn
  replace hT1 := hT1.below bn
  clear bn b1
  go_upto_region 2 with fail
  rw [Hw2.out]
  clear Hw2
  obtain ⟨x0, x1, x2, x3⟩ := id hbx
  go_wp2_with fail
  refine (kgrow_any _ b w2 hv).mono ?_
  rintro e w3 ⟨r2, rfl, hr2, b2⟩
  rw [HE.out]
  rw [HN.out] at hr2
  obtain ⟨v2, rfl, hT2⟩ := hr2
  obtain ⟨a2, l2, p2, rfl, _⟩ := id hT2
  have bn := below_new w3 (.cells #[.int .i64 N.places, .slice a2 l2 p2] 27)
  have hb2 := box2_new w3 (.int .i64 N.places) (.slice a2 l2 p2) 27
  obtain ⟨w4, Hw4⟩ : ∃ w4, Hid (w3.alloc (.cells #[.int .i64 N.places, .slice a2 l2 p2] 27) = w4) := ⟨_, rfl⟩
  rw [Hw4.out] at bn hb2
  clear x0 x1 x2 x3
  replace hb1 := Box2.below (Box2.below hb1 b2) bn
  replace c := below_then (below_then c b2) bn
  replace hT1 := (hT1.below b2).below bn
  replace hT2 := hT2.below bn
  clear bn b2
  have k1 : Net w4 (.agg #[.int .i64 N.places, .slice a1 l1 p1]) N := ⟨_, rfl, hT1⟩
  have k2 : Net w4 (.agg #[.int .i64 N.places, .slice a2 l2 p2]) N := ⟨_, rfl, hT2⟩
  clear hT1 hT2
  go_upto_region 3 with fail
  rw [Hw4.out]
  clear Hw4
  obtain ⟨y0, y1, y2⟩ := id hb1
  obtain ⟨z0, z1, z2⟩ := id hb2
  have eqn : Hid (sameN N N = true) := same_netG N
  have eqd : (E == E) = true := beq_self_eq_true E
  go_wp2_with fail
  refine (samenet_any _ _ N N w4 (by exact k1) (by exact k2)).mono ?_
  rintro e wG ⟨rfl, bG⟩
  rw [eqn.out]
  replace c := below_then c bG
  go_wp2
  go_ret
  exact ⟨rfl, c⟩

end Go.Proofs.Ytfgimobmaahmmaa

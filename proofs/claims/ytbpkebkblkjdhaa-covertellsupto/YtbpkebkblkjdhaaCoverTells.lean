/- The law CoverTells, walked: it answers true, and writes nothing that was there. -/
import Derived.Test.YtbpkebkblkjdhaaCover4
import Derived.Test.YtbpkebkblkjdhaaCoverDev
namespace Go.Proofs.Ytbpkebkblkjdhaa
open Go.RowKit
set_option linter.unusedVariables false

set_option maxHeartbeats 4000000 in
theorem coverTells_walk (v u : Value) (n : NetL) (m : List Int) (p most : Int) (w : World) (hv : Net w v n) (hu : Ints w u m)
    (hbn : BulkNet n) (hbm : m.length ≤ 1048576) :
    Calls Try.prog 3 #[v, u, .int .i64 p, .int .i64 most] w fun e w' => e = .returned (.bool true) ∧ Below w.heap.size w w' := by
  have hsm := hbn.small
  obtain ⟨tv, rfl, hT⟩ := hv
  have c := below_new w (.cells #[.int .i64 n.places, tv] 24)
  have hbx := box2_new w (.int .i64 n.places) tv 24
  have hv : Net _ (.agg #[.int .i64 n.places, tv]) n := ⟨_, rfl, hT.below c⟩
  replace hu := hu.below c
  clear hT
  go_enter Try.func3, Try.ntmps3
  go_wp2_with fail
  refine (cover_tree _ _ n m most _ (by exact hv) (by exact hu)).mono ?_
  rintro e w1 ⟨r1, rfl, hr1, b⟩
  replace hv := hv.below b
  replace hu := hu.below b
  replace hbx := hbx.below b
  replace c := below_then c b
  clear b
  obtain ⟨x0, x1, x2⟩ := id hbx
  go_wp2_with fail
  refine (etree_any _ _ n m most _ (by exact hv) (by exact hu) hsm).mono ?_
  rintro e w2 ⟨r2, rfl, hr2, b⟩
  replace hv := hv.below b
  replace hu := hu.below b
  replace hbx := hbx.below b
  replace hr1 := hr1.below b
  replace c := below_then c b
  clear b x0 x1 x2
  obtain ⟨x0, x1, x2⟩ := id hbx
  go_wp2_with fail
  refine (cover_limit _ _ n m p most _ (by exact hv) (by exact hu)).mono ?_
  rintro e w3 ⟨rfl, b⟩
  replace hv := hv.below b
  replace hu := hu.below b
  replace hbx := hbx.below b
  replace hr1 := hr1.below b
  replace hr2 := hr2.below b
  replace c := below_then c b
  clear b x0 x1 x2
  obtain ⟨x0, x1, x2⟩ := id hbx
  go_wp2_with fail
  refine (elimit_any _ _ n m p most _ (by exact hv) (by exact hu) hsm).mono ?_
  rintro e w4 ⟨rfl, b⟩
  replace hr1 := hr1.below b
  replace hr2 := hr2.below b
  replace c := below_then c b
  clear b x0 x1 x2 hbx hv hu
  generalize treeL n m most = q1 at *
  generalize limitL n m p most = q2 at *
  obtain ⟨l, cd⟩ := q1
  obtain ⟨k, ce⟩ := q2
  simp only at hr1 hr2 ⊢
  have n1 : (cd == cd) = true := beq_self_eq_true _
  have n2 : (ce == ce) = true := beq_self_eq_true _
  have n3 : (k == k) = true := beq_self_eq_true _
  go_wp2_with fail
  refine (sameknots_any _ _ l _ (by exact hr1) (by exact hr2)).mono ?_
  rintro e w5 ⟨rfl, b⟩
  replace c := below_then c b
  clear b
  go_wp2
  go_ret
  exact ⟨by simp, c⟩

end Go.Proofs.Ytbpkebkblkjdhaa

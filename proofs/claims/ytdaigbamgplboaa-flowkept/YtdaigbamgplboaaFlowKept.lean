/- The law FlowKept, walked: it answers true, and writes nothing that was there. -/
import Derived.Test.YtdaigbamgplboaaAlive3
import Derived.Test.YtdaigbamgplboaaFlows
namespace Go.Proofs.Ytdaigbamgplboaa
open Go.RowKit
set_option linter.unusedVariables false

set_option maxHeartbeats 2000000 in
theorem flowKept_walk (v u s yv : Value) (n : NetL) (m seq y : List Int) (w : World) (hv : Net w v n) (hu : Ints w u m) (hs : Ints w s seq) (hy : Ints w yv y) :
    Calls Try.prog 5 #[v, u, s, yv] w fun e w' => e = .returned (.bool true) ∧ Below w.heap.size w w' := by
  obtain ⟨tv, rfl, hT⟩ := hv
  have c := below_new w (.cells #[.int .i64 n.places, tv] 24)
  have hbx := box2_new w (.int .i64 n.places) tv 24
  have hv : Net _ (.agg #[.int .i64 n.places, tv]) n := ⟨_, rfl, hT.below c⟩
  replace hu := hu.below c
  replace hs := hs.below c
  replace hy := hy.below c
  clear hT
  go_enter Try.func5, Try.ntmps5
  go_wp2_with fail
  refine (alive3_any _).mono ?_
  rintro e w1 ⟨rfl, b⟩
  replace hv := hv.below b
  replace hu := hu.below b
  replace hs := hs.below b
  replace hy := hy.below b
  replace hbx := hbx.below b
  replace c := below_then c b
  clear b
  obtain ⟨x0, x1, x2⟩ := id hbx
  go_wp2_with fail
  refine (net_run n seq _ _ _ m _ (by exact hv) (by exact hu) (by exact hs)).mono ?_
  rintro e w2 ⟨r, rfl, hr, b⟩
  replace hv := hv.below b
  replace hu := hu.below b
  replace hy := hy.below b
  replace hbx := hbx.below b
  replace c := below_then c b
  clear b x0 x1 x2
  have Hq : Hid (∀ x, runL n m seq = (x, 0) → keptL n y = true → weighL y x = weighL y m) := fun x h1 h2 => run_weigh h2 h1
  generalize runL n m seq = q at *
  obtain ⟨x, cd⟩ := q
  simp only at hr ⊢
  by_cases h0 : cd = 0
  case neg =>
    have n1 : (cd != 0) = true := by simpa using h0
    clear Hq
    go_wp2
    go_ret
    exact ⟨rfl, c⟩
  subst h0
  obtain ⟨x0, x1, x2⟩ := id hbx
  go_wp2_with fail
  refine (flow_kept _ _ n y _ (by exact hv) (by exact hy)).mono ?_
  rintro e w3 ⟨rfl, b⟩
  replace hu := hu.below b
  replace hr := hr.below b
  replace hy := hy.below b
  replace c := below_then c b
  clear b x0 x1 x2 hbx hv
  cases hk : keptL n y
  · clear Hq
    go_wp2
    go_ret
    exact ⟨rfl, c⟩
  · have E : Hid _ := Hq.out x rfl hk
    clear Hq hk
    go_wp2_with fail
    refine (flow_weigh _ _ y x _ (by exact hy) (by exact hr)).mono ?_
    rintro e w4 ⟨rfl, b⟩
    replace hu := hu.below b
    replace hy := hy.below b
    replace c := below_then c b
    clear b
    go_wp2_with fail
    refine (flow_weigh _ _ y m _ (by exact hy) (by exact hu)).mono ?_
    rintro e w5 ⟨rfl, b⟩
    rw [E.out]
    replace c := below_then c b
    clear b E
    go_wp2
    go_ret
    exact ⟨by simp, c⟩

end Go.Proofs.Ytdaigbamgplboaa

/- The law SiphonTrap, walked: it answers true, and writes nothing that was there. -/
import Derived.Test.YtnklepfommakpaaAlive6
import Derived.Test.YtnklepfommakpaaSiph1
namespace Go.Proofs.Ytnklepfommakpaa
open Go.RowKit
set_option linter.unusedVariables false

set_option maxHeartbeats 2000000 in
theorem siphonTrap_walk (v u sv lv : Value) (n : NetL) (m seq l : List Int) (w : World) (hv : Net w v n) (hu : Ints w u m) (hs : Ints w sv seq) (hl : Ints w lv l) :
    Calls Try.prog 5 #[v, u, sv, lv] w fun e w' => e = .returned (.bool true) ∧ Below w.heap.size w w' := by
  obtain ⟨tv, rfl, hT⟩ := hv
  have c := below_new w (.cells #[.int .i64 n.places, tv] 24)
  have hbx := box2_new w (.int .i64 n.places) tv 24
  have hv : Net _ (.agg #[.int .i64 n.places, tv]) n := ⟨_, rfl, hT.below c⟩
  replace hu := hu.below c
  replace hs := hs.below c
  replace hl := hl.below c
  clear hT
  go_enter Try.func5, Try.ntmps5
  go_wp2_with fail
  refine (alive6_any _).mono ?_
  rintro e w1 ⟨rfl, b⟩
  replace hv := hv.below b
  replace hu := hu.below b
  replace hs := hs.below b
  replace hl := hl.below b
  replace hbx := hbx.below b
  replace c := below_then c b
  clear b
  obtain ⟨x0, x1, x2⟩ := id hbx
  go_wp2_with fail
  refine (net_run n seq _ _ _ m _ (by exact hv) (by exact hu) (by exact hs)).mono ?_
  rintro e w2 ⟨r2, rfl, hr2, b⟩
  replace hv := hv.below b
  replace hu := hu.below b
  replace hl := hl.below b
  replace hbx := hbx.below b
  replace c := below_then c b
  clear b x0 x1 x2 hs
  have HR : Hid (∀ x, runL n m seq = (x, 0) → trapL n l = true → bareL m l = false → bareL x l = false) := by
    intro x hx hs hb
    exact run_marked hs seq hx hb
  generalize runL n m seq = q at *
  obtain ⟨x, cd⟩ := q
  simp only at hr2 ⊢
  by_cases h0 : cd = 0
  · subst h0
    have HR2 : Hid _ := HR.out x rfl
    obtain ⟨x0, x1, x2⟩ := id hbx
    clear HR
    go_wp2_with fail
    refine (siphon_trap _ _ n l _ (by exact hv) (by exact hl)).mono ?_
    rintro e w3 ⟨rfl, b⟩
    replace hu := hu.below b
    replace hl := hl.below b
    replace hr2 := hr2.below b
    replace c := below_then c b
    clear b x0 x1 x2 hv hbx
    cases hs : trapL n l
    · go_wp2
      go_ret
      exact ⟨rfl, c⟩
    go_wp2_with fail
    refine (bare_any _ _ m l _ (by exact hu) (by exact hl)).mono ?_
    rintro e w4 ⟨rfl, rfl⟩
    cases hb : bareL m l
    · have hx := HR2.out hs hb
      go_wp2_with fail
      refine (bare_any _ _ x l _ (by exact hr2) (by exact hl)).mono ?_
      rintro e w5 ⟨rfl, rfl⟩
      rw [hx]
      go_wp2
      go_ret
      exact ⟨rfl, c⟩
    · go_wp2
      go_ret
      exact ⟨rfl, c⟩
  · have hne : (cd != 0) = true := by simpa using h0
    go_wp2
    go_ret
    exact ⟨rfl, c⟩

end Go.Proofs.Ytnklepfommakpaa

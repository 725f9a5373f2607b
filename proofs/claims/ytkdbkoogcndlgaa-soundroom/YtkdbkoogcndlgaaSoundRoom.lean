/- SoundRoom: more room changes no verdict. -/
import Derived.Test.YtkdbkoogcndlgaaAlive9
import Derived.Test.YtkdbkoogcndlgaaGr05
namespace Go.Proofs.Ytkdbkoogcndlgaa
open Go.RowKit
set_option linter.unusedVariables false
set_option maxRecDepth 4000

set_option maxHeartbeats 2000000 in
theorem soundRoom_walk (v : Value) (n : NetL) (i o most more : Int) (w : World) (hv : Net w v n) :
    Calls Try.prog 7 #[v, .int .i64 i, .int .i64 o, .int .i64 most, .int .i64 more] w fun e w' => e = .returned (.bool true) ∧ Below w.heap.size w w' := by
  obtain ⟨tv, rfl, hT⟩ := hv
  have c := below_new w (.cells #[.int .i64 n.places, tv] 24)
  have hbx := box2_new w (.int .i64 n.places) tv 24
  have hv : Net (w.alloc (.cells #[.int .i64 n.places, tv] 24)) (.agg #[.int .i64 n.places, tv]) n := ⟨_, rfl, hT.below c⟩
  obtain ⟨w0, Hw0⟩ : ∃ w0, Hid (w.alloc (.cells #[.int .i64 n.places, tv] 24) = w0) := ⟨_, rfl⟩
  rw [Hw0.out] at c hbx hv
  go_enter Try.func7, Try.ntmps7
  go_upto_region 1 with fail
  rw [Hw0.out]
  clear Hw0
  go_wp2_with fail
  refine (alive9_any _).mono ?_
  rintro e wa ⟨rfl, ba⟩
  replace hbx := hbx.below ba
  replace hv := hv.below ba
  replace c := below_then c ba
  clear ba
  obtain ⟨x0, x1, x2⟩ := id hbx
  go_wp2_with fail
  clear x0 x1 x2
  refine (sound_judge _ n i o most _ (by exact hv)).mono ?_
  rintro e w1 ⟨r, x, d, rfl, ⟨hr, hV⟩, b1⟩
  have HV : Hid _ := hV
  obtain ⟨ra, rfl, hra⟩ := hr
  obtain ⟨aa, la, ca, rfl, _⟩ := id hra
  replace hbx := hbx.below b1
  replace hv := hv.below b1
  replace c := below_then c b1
  have bn := below_new w1 (.cells #[.int .i64 x.kind, .slice aa la ca, .int .i64 x.tran] 27)
  have hx1 := box3_new w1 (.int .i64 x.kind) (.slice aa la ca) (.int .i64 x.tran) 27
  obtain ⟨w2, Hw2⟩ : ∃ w2, Hid (w1.alloc (.cells #[.int .i64 x.kind, .slice aa la ca, .int .i64 x.tran] 27) = w2) := ⟨_, rfl⟩
  rw [Hw2.out] at bn hx1
  replace hbx := hbx.below bn
  replace hv := hv.below bn
  replace c := below_then c bn
  replace hra := hra.below bn
  clear b1 bn hV
  go_upto_region 4 with fail
  rw [Hw2.out]
  clear Hw2
  obtain ⟨x0, x1, x2⟩ := id hbx
  go_wp2_with fail
  clear x0 x1 x2
  refine (sound_judge _ n i o more _ (by exact hv)).mono ?_
  rintro e w3 ⟨r, y, f, rfl, ⟨hr, hV⟩, b3⟩
  have HU : Hid _ := hV
  obtain ⟨rb, rfl, hrb⟩ := hr
  obtain ⟨ab, lb, cb, rfl, _⟩ := id hrb
  replace c := below_then c b3
  replace hra := hra.below b3
  replace hx1 := hx1.below b3
  have bn := below_new w3 (.cells #[.int .i64 y.kind, .slice ab lb cb, .int .i64 y.tran] 27)
  have hx2 := box3_new w3 (.int .i64 y.kind) (.slice ab lb cb) (.int .i64 y.tran) 27
  obtain ⟨w4, Hw4⟩ : ∃ w4, Hid (w3.alloc (.cells #[.int .i64 y.kind, .slice ab lb cb, .int .i64 y.tran] 27) = w4) := ⟨_, rfl⟩
  rw [Hw4.out] at bn hx2
  replace c := below_then c bn
  replace hra := hra.below bn
  replace hrb := hrb.below bn
  replace hx1 := hx1.below bn
  clear b3 bn hV hv hbx
  go_upto_region 5 with fail
  rw [Hw4.out]
  clear Hw4
  by_cases hd : d = 0
  · subst hd
    by_cases h1 : more < most
    · clear HV HU hra hrb hx1 hx2
      go_wp2
      go_ret
      exact ⟨rfl, c⟩
    · have h1' : decide (more < most) = false := decide_eq_false h1
      by_cases h2 : 300 < more
      · clear HV HU hra hrb hx1 hx2
        go_wp2
        go_ret
        exact ⟨rfl, c⟩
      · have h2' : decide (300 < more) = false := decide_eq_false h2
        obtain ⟨e1, e2⟩ := sound_room HV.out HU.out (by omega) (by omega)
        subst e1 e2
        clear HV HU h1 h2
        obtain ⟨y0, y1, y2, y3⟩ := hx1
        obtain ⟨z0, z1, z2, z3⟩ := hx2
        go_wp2_with fail
        refine (equal_b _ _ y.at_ y.at_ _ (by exact hra) (by exact hrb)).mono ?_
        rintro e w5 ⟨rfl, b5⟩
        have R := below_then c b5
        have E : Hid ((y.at_ == y.at_) = true) := by show _ = _; simp
        rw [E.out]
        clear b5 E
        go_wp2
        go_ret
        exact ⟨rfl, R⟩
  · have hd' : (d != 0) = true := by simpa using hd
    clear HV HU hra hrb hx1 hx2 hd
    go_wp2
    go_ret
    exact ⟨rfl, c⟩

end Go.Proofs.Ytkdbkoogcndlgaa

/- The law NetBack, walked: it answers true, and writes nothing that was there. -/
import Derived.Test.YtnojfeofdlocaaaAlive2
import Derived.Test.YtnojfeofdlocaaaSlices3
namespace Go.Proofs.Ytnojfeofdlocaaa
open Go.RowKit
set_option linter.unusedVariables false

theorem turn_small {n : NetL} (h : SmallNet n) : SmallNet (turnL n) := by
  intro k hk
  have hk' : k < n.trans.length := by simpa [turnL] using hk
  have ea : tranAt (turnL n).trans k = turnT (tranAt n.trans k) := turn_at _ _ hk'
  rw [ea]
  have := h k hk'
  simp only [turnT]
  omega

set_option maxHeartbeats 1000000 in
theorem netBack_walk (v u s : Value) (n : NetL) (m seq : List Int) (w : World) (hv : Net w v n) (hu : Ints w u m) (hs : Ints w s seq) :
    Calls Try.prog 7 #[v, u, s] w fun e w' => e = .returned (.bool true) ∧ Below w.heap.size w w' := by
  have hls : seq.length ≤ 17592186044416 := by obtain ⟨_, _, _, _, h1, h2, _⟩ := hs; omega
  obtain ⟨tv, rfl, hT⟩ := hv
  have c := below_new w (.cells #[.int .i64 n.places, tv] 24)
  have hbx := box2_new w (.int .i64 n.places) tv 24
  have hv : Net _ (.agg #[.int .i64 n.places, tv]) n := ⟨_, rfl, hT.below c⟩
  replace hu := hu.below c
  replace hs := hs.below c
  go_enter Try.func7, Try.ntmps7
  go_wp2_with fail
  refine (alive2_any _).mono ?_
  rintro e w1 ⟨rfl, b⟩
  replace hv := hv.below b
  replace hu := hu.below b
  replace hs := hs.below b
  replace hbx := hbx.below b
  replace c := below_then c b
  clear b
  obtain ⟨x0, x1, x2⟩ := id hbx
  go_wp2_with fail
  refine (net_run n seq _ _ _ m _ (by exact hv) (by exact hu) (by exact hs)).mono ?_
  rintro e w2 ⟨r, rfl, hr, b⟩
  replace hv := hv.below b
  replace hu := hu.below b
  replace hs := hs.below b
  replace hbx := hbx.below b
  replace c := below_then c b
  clear b x0 x1 x2
  have Hback : Hid _ := fun x => run_back (n := n) seq (m := m) (x := x)
  generalize runL n m seq = q at *
  obtain ⟨x, cd⟩ := q
  simp only at hr ⊢
  by_cases h0 : cd = 0
  · subst h0
    have Hb : Hid (runL (turnL n) x seq.reverse = (m, 0)) := Hback.out x rfl
    clear Hback
    go_wp2_with fail
    refine (clone_any _ seq _ (by exact hs)).mono ?_
    rintro e w3 ⟨r3, rfl, hG⟩
    go_wp2_with fail
    refine (reverse_any _ _ _ seq _ (by exact hG) (by omega)).mono ?_
    rintro e w4 ⟨rfl, hG4⟩
    have hR := hG4.ints (by rw [List.length_reverse]; omega)
    have b := hG4.2.1
    replace hv := hv.below b
    replace hu := hu.below b
    replace hr := hr.below b
    replace hbx := hbx.below b
    replace c := below_then c b
    clear b hG hG4
    obtain ⟨x0, x1, x2⟩ := id hbx
    go_wp2_with fail
    refine (net_turned _ n _ (by exact hv)).mono ?_
    rintro e w5 ⟨r5, rfl, hn5, b⟩
    replace hR := hR.below b
    replace hu := hu.below b
    replace hr := hr.below b
    replace c := below_then c b
    clear b x0 x1 x2
    go_wp2_with fail
    refine (net_run (turnL n) seq.reverse _ _ _ x _ (by exact hn5) (by exact hr) (by exact hR)).mono ?_
    rintro e w6 ⟨r6, rfl, hr6, b⟩
    rw [Hb.out] at hr6
    simp only [Hb.out]
    replace hu := hu.below b
    replace c := below_then c b
    clear b
    go_wp2_with fail
    refine (equal_b _ _ m m _ (by exact hr6) (by exact hu)).mono ?_
    rintro e w7 ⟨rfl, b⟩
    replace c := below_then c b
    go_wp2
    go_ret
    exact ⟨by simp, c⟩
  · have n1 : (cd != 0) = true := by simpa using h0
    go_wp2
    go_ret
    exact ⟨rfl, c⟩

end Go.Proofs.Ytnojfeofdlocaaa

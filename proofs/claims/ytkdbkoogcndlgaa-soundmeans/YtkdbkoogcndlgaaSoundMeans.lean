/- SoundMeans: what is sound always comes to its end. -/
import Derived.Test.YtkdbkoogcndlgaaAlive9
import Derived.Test.YtkdbkoogcndlgaaGr05
import Derived.Test.YtkdbkoogcndlgaaShapeDev
import Derived.Test.YtkdbkoogcndlgaaReachDev
import Derived.Test.YtkdbkoogcndlgaaGr11
import Derived.Test.YtkdbkoogcndlgaaGr01
import Derived.Deep.RegionHeld3
namespace Go.Proofs.Ytkdbkoogcndlgaa
open Go.RowKit
set_option linter.unusedVariables false
set_option maxRecDepth 4000

theorem start_word (P i : Int) : ∀ z ∈ startL P i, inWord z := by
  intro z hz
  obtain ⟨j, hj, rfl⟩ := List.getElem_of_mem hz
  have h := start_bounds P i j
  have e : nth (startL P i) j = (startL P i)[j] := by simp [nth, List.getD, List.getElem?_eq_getElem hj]
  rw [e] at h
  unfold inWord
  omega

set_option maxHeartbeats 2000000 in
theorem soundMeans_walk (v q : Value) (n : NetL) (i o most : Int) (seq : List Int) (w : World) (hv : Net w v n) (hq : Ints w q seq) :
    Calls Try.prog 4 #[v, .int .i64 i, .int .i64 o, .int .i64 most, q] w fun e w' => e = .returned (.bool true) ∧ Below w.heap.size w w' := by
  obtain ⟨tv, rfl, hT⟩ := hv
  have c := below_new w (.cells #[.int .i64 n.places, tv] 24)
  have hbx := box2_new w (.int .i64 n.places) tv 24
  have hv : Net (w.alloc (.cells #[.int .i64 n.places, tv] 24)) (.agg #[.int .i64 n.places, tv]) n := ⟨_, rfl, hT.below c⟩
  obtain ⟨w0, Hw0⟩ : ∃ w0, Hid (w.alloc (.cells #[.int .i64 n.places, tv] 24) = w0) := ⟨_, rfl⟩
  rw [Hw0.out] at c hbx hv
  replace hq := hq.below c
  go_enter Try.func4, Try.ntmps4
  go_upto_region 1 with fail
  rw [Hw0.out]
  clear Hw0
  go_wp2_with fail
  refine (alive9_any _).mono ?_
  rintro e wa ⟨rfl, ba⟩
  replace hbx := hbx.below ba
  replace hv := hv.below ba
  replace c := below_then c ba
  replace hq := hq.below ba
  clear ba
  obtain ⟨x0, x1, x2⟩ := id hbx
  go_wp2_with fail
  clear x0 x1 x2
  refine (sound_judge _ n i o most _ (by exact hv)).mono ?_
  rintro e w1 ⟨r, x, d, rfl, ⟨hr, hV⟩, b1⟩
  have HV : Hid _ := hV
  obtain ⟨ra, rfl, hra⟩ := hr
  obtain ⟨aa, la, ca, rfl, _⟩ := id hra
  replace hbx := hbx.below b1
  replace hv := hv.below b1
  replace c := below_then c b1
  replace hq := hq.below b1
  have bn := below_new w1 (.cells #[.int .i64 x.kind, .slice aa la ca, .int .i64 x.tran] 27)
  have hx1 := box3_new w1 (.int .i64 x.kind) (.slice aa la ca) (.int .i64 x.tran) 27
  obtain ⟨w2, Hw2⟩ : ∃ w2, Hid (w1.alloc (.cells #[.int .i64 x.kind, .slice aa la ca, .int .i64 x.tran] 27) = w2) := ⟨_, rfl⟩
  rw [Hw2.out] at bn hx1
  replace hbx := hbx.below bn
  replace hv := hv.below bn
  replace c := below_then c bn
  replace hra := hra.below bn
  replace hq := hq.below bn
  clear b1 bn hV
  go_upto_region 4 with fail
  rw [Hw2.out]
  clear Hw2
  obtain ⟨y0, y1, y2, y3⟩ := hx1
  by_cases hd : d = 0
  · subst hd
    by_cases hk : x.kind = 1
    · obtain ⟨hS, s, hg, hs⟩ := HV.out.zero
      have HM : Hid _ := sound_means hg hs hk seq
      have hk' : (x.kind != 1) = false := by simp [hk]
      obtain ⟨kd, Hkd⟩ : ∃ kd, Hid (x.kind = kd) := ⟨_, rfl⟩
      rw [Hkd.out] at y1 hk'
      clear HV hS hg hs hk hra
      go_upto_region 6 with fail
      clear y0 y1 y2 y3
      obtain ⟨x0, x1, x2⟩ := id hbx
      have hdr : Below w2.heap.size w2 w2.drew := (Below.refl _ _).drew
      go_region_held3 (fun w' => w'.cell? ⟨w.heap.size, 0, none⟩ = some (.int .i64 n.places) ∧ w'.cell? ⟨w.heap.size, 1, none⟩ = some tv)
        (go_keep)
        (first
          | (go_at_call 13; refine (shape_start _ n i _ (hv.below hdr)).mono ?_; rintro e w3 ⟨r3, rfl, hr3, b3⟩; have q3 := below_then hdr b3; obtain ⟨t0, t1, t2⟩ := hbx.below q3)
          | (go_at_call 12; refine (net_run n seq _ _ _ (startL n.places i) _ (hv.below q3) hr3 (hq.below q3)).mono ?_; rintro e w4 ⟨r4, rfl, hr4, b4⟩; have q4 := below_then q3 b4; obtain ⟨u0, u1, u2⟩ := hbx.below q4))
      all_goals
        replace hbx := hbx.below q4
        replace hv := hv.below q4
        replace c := below_then c q4
        clear q3 q4 b3 b4 hr3 t0 t1 t2 u0 u1 u2 x0 x1 x2 hdr hq
        rcases HM.out with hm | ⟨xx, hrun, ⟨p, hp, hrun2⟩, hcov⟩
        · generalize runL n (startL n.places i) seq = R at *
          obtain ⟨ry, rc⟩ := R
          simp only at hm hr4 ⊢
          subst hm
          clear hr4 HM
          go_wp2
          go_ret
          exact ⟨rfl, c⟩
        · rw [hrun] at hr4 ⊢
          have Hp : Hid _ := hp
          have Hr2 : Hid _ := hrun2
          have Hc : Hid _ := hcov
          clear hp hrun2 hcov hrun HM
          simp only at hr4 ⊢
          obtain ⟨x0, x1, x2⟩ := id hbx
          go_wp2_with fail
          clear x0 x1 x2
          refine (shape_start _ n o _ (by exact hv)).mono ?_
          rintro e w5 ⟨r5, rfl, hr5, b5⟩
          replace hbx := hbx.below b5
          replace hv := hv.below b5
          replace c := below_then c b5
          replace hr4 := hr4.below b5
          clear b5
          obtain ⟨x0, x1, x2⟩ := id hbx
          go_wp2_with fail
          clear x0 x1 x2
          refine (reach_path _ _ _ n xx (startL n.places o) most _ (by exact hv) (by exact hr4) (by exact hr5) (start_word _ _)).mono ?_
          rw [Hp.out]
          rintro e w6 ⟨r6, rfl, hr6, b6⟩
          replace hbx := hbx.below b6
          replace hv := hv.below b6
          replace c := below_then c b6
          replace hr4 := hr4.below b6
          replace hr5 := hr5.below b6
          clear b6
          simp only at hr6 ⊢
          obtain ⟨x0, x1, x2⟩ := id hbx
          go_wp2_with fail
          clear x0 x1 x2
          refine (net_run n p _ _ _ xx _ (by exact hv) (by exact hr4) (by exact hr6)).mono ?_
          rw [Hr2.out]
          rintro e w7 ⟨r7, rfl, hr7, b7⟩
          replace c := below_then c b7
          replace hr4 := hr4.below b7
          replace hr5 := hr5.below b7
          clear b7 hbx hv hr6 Hp Hr2
          simp only at hr7 ⊢
          go_wp2_with fail
          refine (equal_b _ _ (startL n.places o) (startL n.places o) _ (by exact hr7) (by exact hr5)).mono ?_
          rintro e w8 ⟨rfl, b8⟩
          have E : Hid ((startL n.places o == startL n.places o) = true) := by show _ = _; simp
          rw [E.out]
          replace c := below_then c b8
          replace hr4 := hr4.below b8
          replace hr5 := hr5.below b8
          clear b8 hr7
          go_wp2_with fail
          refine (covers_any _ _ xx (startL n.places o) _ (by exact hr4) (by exact hr5)).mono ?_
          rintro e w9 ⟨rfl, rfl⟩
          cases hco : coversL xx (startL n.places o)
          · clear E Hc hco hr4 hr5
            go_wp2
            go_ret
            exact ⟨rfl, c⟩
          · have exx := Hc.out hco
            rw [exx] at hr4
            clear Hc hco exx
            go_wp2_with fail
            refine (equal_b _ _ (startL n.places o) (startL n.places o) _ (by exact hr4) (by exact hr5)).mono ?_
            rintro e w10 ⟨rfl, b10⟩
            rw [E.out]
            have R := below_then c b10
            clear b10 hr4 hr5 E
            go_wp2
            go_ret
            exact ⟨rfl, R⟩
    · have hk' : (x.kind != 1) = true := by simpa using hk
      clear HV hk hra hq
      go_wp2
      go_ret
      exact ⟨rfl, c⟩
  · have hd' : (d != 0) = true := by simpa using hd
    clear HV hra hd hq
    go_wp2
    go_ret
    exact ⟨rfl, c⟩

end Go.Proofs.Ytkdbkoogcndlgaa

/- SoundWitness: what is not sound is shown so. -/
import Derived.Test.YtkdbkoogcndlgaaAlive9
import Derived.Test.YtkdbkoogcndlgaaGr05
import Derived.Test.YtkdbkoogcndlgaaShapeDev
import Derived.Test.YtkdbkoogcndlgaaReachDev
import Derived.Test.YtkdbkoogcndlgaaGr11
import Derived.Test.YtkdbkoogcndlgaaGr01
import Derived.Test.YtkdbkoogcndlgaaGr10
import Derived.Test.YtkdbkoogcndlgaaSoundMeans
import Derived.Deep.RegionHeld3
namespace Go.Proofs.Ytkdbkoogcndlgaa
open Go.RowKit
set_option linter.unusedVariables false
set_option maxRecDepth 4000

theorem mark_word {xs : List Int} (h : rightL xs = true) : ∀ z ∈ xs, inWord z := by
  intro z hz
  obtain ⟨j, hj, rfl⟩ := List.getElem_of_mem hz
  have h := (rightL_iff xs).1 h j
  have e : nth xs j = xs[j] := by simp [nth, List.getD, List.getElem?_eq_getElem hj]
  rw [e] at h
  unfold inWord
  omega
theorem says_word {n : NetL} {m E : List Int} {s : SpaceL} {v : VerdL} (hW : Whole n m s) (h : SaysV n E s v) : ∀ z ∈ v.at_, inWord z := by
  rcases h.cases with ⟨k, a1, _, _, rfl⟩ | ⟨_, k, a2, _, _, rfl⟩ | ⟨_, _, _, _, _, rfl⟩ | ⟨_, _, _, rfl⟩
  · exact mark_word (fits_net (hW.fits a1)).2.2
  · exact mark_word (fits_net (hW.fits a2)).2.2
  · intro z hz; cases hz
  · intro z hz; cases hz

set_option maxHeartbeats 4000000 in
theorem soundWitness_walk (v q : Value) (n : NetL) (i o most : Int) (seq : List Int) (w : World) (hv : Net w v n) (hq : Ints w q seq) :
    Calls Try.prog 5 #[v, .int .i64 i, .int .i64 o, .int .i64 most, q] w fun e w' => e = .returned (.bool true) ∧ Below w.heap.size w w' := by
  obtain ⟨tv, rfl, hT⟩ := hv
  have c := below_new w (.cells #[.int .i64 n.places, tv] 24)
  have hbx := box2_new w (.int .i64 n.places) tv 24
  have hv : Net (w.alloc (.cells #[.int .i64 n.places, tv] 24)) (.agg #[.int .i64 n.places, tv]) n := ⟨_, rfl, hT.below c⟩
  obtain ⟨w0, Hw0⟩ : ∃ w0, Hid (w.alloc (.cells #[.int .i64 n.places, tv] 24) = w0) := ⟨_, rfl⟩
  rw [Hw0.out] at c hbx hv
  replace hq := hq.below c
  go_enter Try.func5, Try.ntmps5
  go_upto_region 1 with fail
  rw [Hw0.out]
  clear Hw0
  go_wp2_with fail
  refine (alive9_any _).mono ?_
  rintro e wa ⟨rfl, ba⟩
  replace hbx := hbx.below ba
  replace hv := hv.below ba
  replace c := below_then c ba
  replace hq := hq.below ba
  clear ba
  obtain ⟨x0, x1, x2⟩ := id hbx
  go_wp2_with fail
  clear x0 x1 x2
  refine (sound_judge _ n i o most _ (by exact hv)).mono ?_
  rintro e w1 ⟨r, x, d, rfl, ⟨hr, hV⟩, b1⟩
  have HV : Hid _ := hV
  obtain ⟨ra, rfl, hra⟩ := hr
  obtain ⟨aa, la, ca, rfl, _⟩ := id hra
  replace hbx := hbx.below b1
  replace hv := hv.below b1
  replace c := below_then c b1
  replace hq := hq.below b1
  have bn := below_new w1 (.cells #[.int .i64 x.kind, .slice aa la ca, .int .i64 x.tran] 27)
  have hx1 := box3_new w1 (.int .i64 x.kind) (.slice aa la ca) (.int .i64 x.tran) 27
  obtain ⟨w2, Hw2⟩ : ∃ w2, Hid (w1.alloc (.cells #[.int .i64 x.kind, .slice aa la ca, .int .i64 x.tran] 27) = w2) := ⟨_, rfl⟩
  rw [Hw2.out] at bn hx1
  replace hbx := hbx.below bn
  replace hv := hv.below bn
  replace c := below_then c bn
  replace hra := hra.below bn
  replace hq := hq.below bn
  clear b1 bn hV
  go_upto_region 4 with fail
  rw [Hw2.out]
  clear Hw2
  by_cases hd : d = 0
  · subst hd
    obtain ⟨hS, s, hg, hs⟩ := HV.out.zero
    have Hw : Hid _ := says_word (graphL_whole hg) hs
    have HM : Hid _ := sound_witness hS hg hs
    clear HV hS hg hs
    obtain ⟨x0, x1, x2⟩ := id hbx
    go_wp2_with fail
    clear x0 x1 x2
    refine (shape_start _ n o _ (by exact hv)).mono ?_
    rintro e w3 ⟨r3, rfl, hr3, b3⟩
    replace hbx := hbx.below b3
    replace hv := hv.below b3
    replace c := below_then c b3
    replace hra := hra.below b3
    replace hx1 := hx1.below b3
    replace hq := hq.below b3
    clear b3
    obtain ⟨x0, x1, x2⟩ := id hbx
    go_wp2_with fail
    clear x0 x1 x2
    refine (shape_start _ n i _ (by exact hv)).mono ?_
    rintro e w4 ⟨r4, rfl, hr4, b4⟩
    replace hbx := hbx.below b4
    replace hv := hv.below b4
    replace c := below_then c b4
    replace hra := hra.below b4
    replace hx1 := hx1.below b4
    replace hq := hq.below b4
    replace hr3 := hr3.below b4
    clear b4
    obtain ⟨xk, xa, xt⟩ := x
    simp only at *
    rcases HM.out with hk | ⟨hk, h1, h2, h3⟩ | ⟨hk, h1, h2⟩ | ⟨hk, h1, h2, h3⟩
    · subst hk
      obtain ⟨y0, y1, y2, y3⟩ := hx1
      clear HM Hw
      go_wp2
      go_ret
      exact ⟨rfl, c⟩
    · subst hk
      have H2 : Hid _ := h2
      have H3 : Hid _ := h3
      have H1 : Hid _ := h1
      clear HM h1 h2 h3
      obtain ⟨y0, y1, y2, y3⟩ := id hx1
      obtain ⟨x0, x1, x2⟩ := id hbx
      go_wp2_with fail
      clear x0 x1 x2 y0 y1 y2 y3
      refine (reach_path _ _ _ n (startL n.places i) xa most _ (by exact hv) (by exact hr4) (by exact hra) Hw.out).mono ?_
      rintro e w5 ⟨r5, rfl, hr5, b5⟩
      rw [H1.out]
      replace c := below_then c b5
      replace hra := hra.below b5
      replace hx1 := hx1.below b5
      replace hr3 := hr3.below b5
      clear b5 hr5 hv hbx hq hr4
      obtain ⟨y0, y1, y2, y3⟩ := id hx1
      go_wp2_with fail
      refine (covers_any _ _ xa (startL n.places o) _ (by exact hra) (by exact hr3)).mono ?_
      rw [H2.out]
      rintro e w6 ⟨rfl, rfl⟩
      go_wp2_with fail
      refine (equal_b _ _ xa (startL n.places o) _ (by exact hra) (by exact hr3)).mono ?_
      rintro e w7 ⟨rfl, b7⟩
      have E : Hid ((xa == startL n.places o) = false) := by show _ = _; simpa using H3.out
      rw [E.out]
      have R := below_then c b7
      clear b7 E H1 H2 H3
      go_wp2
      go_ret
      exact ⟨rfl, R⟩
    · subst hk
      have H2 : Hid _ := h2
      have H1 : Hid _ := h1
      clear HM h1 h2
      obtain ⟨y0, y1, y2, y3⟩ := id hx1
      obtain ⟨x0, x1, x2⟩ := id hbx
      go_wp2_with fail
      clear x0 x1 x2 y0 y1 y2 y3
      refine (reach_path _ _ _ n (startL n.places i) xa most _ (by exact hv) (by exact hr4) (by exact hra) Hw.out).mono ?_
      rintro e w5 ⟨r5, rfl, hr5, b5⟩
      rw [H1.out]
      replace c := below_then c b5
      replace hra := hra.below b5
      replace hx1 := hx1.below b5
      replace hr3 := hr3.below b5
      replace hv := hv.below b5
      replace hbx := hbx.below b5
      clear b5 hr5 hq hr4
      obtain ⟨y0, y1, y2, y3⟩ := id hx1
      obtain ⟨x0, x1, x2⟩ := id hbx
      go_wp2_with fail
      clear x0 x1 x2 y0 y1 y2 y3
      refine (reach_path _ _ _ n xa (startL n.places o) most _ (by exact hv) (by exact hra) (by exact hr3) (start_word _ _)).mono ?_
      rintro e w6 ⟨r6, rfl, hr6, b6⟩
      rw [H2.out]
      replace c := below_then c b6
      clear b6 hr6 hv hbx hra hr3 hx1 H1 H2
      go_wp2
      go_ret
      exact ⟨rfl, c⟩
    · subst hk
      have H3 : Hid _ := h3
      clear HM h3
      obtain ⟨y0, y1, y2, y3⟩ := id hx1
      obtain ⟨x0, x1, x2⟩ := id hbx
      go_wp2_with fail
      clear x0 x1 x2 y0 y1 y2 y3
      refine (net_run n seq _ _ _ (startL n.places i) _ (by exact hv) (by exact hr4) (by exact hq)).mono ?_
      rintro e w5 ⟨r5, rfl, hr5, b5⟩
      replace c := below_then c b5
      replace hx1 := hx1.below b5
      replace hbx := hbx.below b5
      replace hq := hq.below b5
      have HR : Hid ((runL n (startL n.places i) seq).2 = 0 → xt ∉ seq) := H3.out seq
      generalize runL n (startL n.places i) seq = RR at *
      obtain ⟨ry, rc⟩ := RR
      simp only at HR ⊢
      clear b5 hr5 hv hra hr3 hr4 H3
      obtain ⟨y0, y1, y2, y3⟩ := id hx1
      obtain ⟨ta, tl, tc, rfl, htl, _⟩ := id hT
      obtain ⟨x0, x1, x2⟩ := id hbx
      have h2' : xt < (tl : Int) := by omega
      by_cases hrc : rc = 0
      · subst hrc
        go_wp2_with fail
        refine (contains_any _ seq xt _ (by exact hq)).mono ?_
        rintro e w6 ⟨rfl, rfl⟩
        have E : Hid (hasL seq xt = false) := by have := HR.out (by first | rfl | trivial); show _ = _; unfold hasL; rw [Bool.eq_false_iff]; intro hc; rw [List.contains_iff_mem] at hc; exact this hc
        rw [E.out]
        clear E HR
        go_wp2
        go_ret
        exact ⟨rfl, c⟩
      · have hrc' : (rc != 0) = true := by simpa using hrc
        clear hrc HR hq
        go_wp2
        go_ret
        exact ⟨rfl, c⟩
  · have hd' : (d != 0) = true := by simpa using hd
    have e := HV.out.none hd
    subst e
    obtain ⟨y0, y1, y2, y3⟩ := id hx1
    clear HV hra hd hq
    go_wp2
    go_ret
    exact ⟨rfl, c⟩

end Go.Proofs.Ytkdbkoogcndlgaa
